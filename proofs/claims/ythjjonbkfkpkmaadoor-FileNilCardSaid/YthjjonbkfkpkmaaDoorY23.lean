/- What follows for tags that are set among right ones: of lists alone. No condition but those that each lemma names. -/
import Derived.Test.YthjjonbkfkpkmaaDoorY22
import Derived.Test.YthjjonbkfkpkmaaDoorY18
namespace Go.Proofs.YthjjonbkfkpkmaaDoor.Tg
open Go.RowKit Gen

set_option maxRecDepth 100000 in
theorem chk_zero {T : Nat → Tag} {n : Nat} (h : (chk T n).2 = 0) : ∀ i, i < n → bad T i = false := by
  unfold chk at h
  by_cases h64 : 64 < n
  · rw [if_pos h64] at h; exact absurd h (by decide)
  · rw [if_neg h64] at h
    rcases fi_cases (bad T) n with ⟨_, h2⟩ | ⟨k, h1, _, h3, _⟩
    · exact h2
    · rw [h1] at h
      unfold bad at h3
      exact absurd h (of_decide_eq_true h3)
set_option maxRecDepth 100000 in
theorem bad_fx {T : Nat → Tag} {i : Nat} (h : bad T i = false) : ∀ j, j < i → lk T (fold (T i).k) j = false := by
  have h1 : kd T i = 0 := by
    unfold bad at h
    exact Decidable.not_not.1 (of_decide_eq_false h)
  have h2 : ¬ 0 ≤ fx (lk T (fold (T i).k)) i := by
    intro h0
    unfold kd at h1
    by_cases hk : Ky (T i).k
    · rw [if_pos hk, if_pos h0] at h1; exact absurd h1 (by decide)
    · rw [if_neg hk] at h1; exact absurd h1 (by decide)
  rcases fx_cases (lk T (fold (T i).k)) i with ⟨_, h3⟩ | ⟨k, h3, _⟩
  · exact h3
  · omega
/-- No key is alike to one ahead. -/
def Uq (T : Nat → Tag) (n : Nat) : Prop := ∀ i, i < n → ∀ j, j < i → fold (T j).k ≠ fold (T i).k
set_option maxRecDepth 100000 in
theorem uq_of {T : Nat → Tag} {n : Nat} (h : (chk T n).2 = 0) : Uq T n := fun i hi j hj => of_decide_eq_false (bad_fx (chk_zero h i hi) j hj)
set_option maxRecDepth 100000 in
theorem Uq.fx {T : Nat → Tag} {n p : Nat} (h : Uq T n) (hp : p < n) : fx (lk T (fold (T p).k)) n = (p : Int) :=
  fx_some (decide_eq_true rfl) (fun j hj => decide_eq_false (h p hp j hj)) hp
set_option maxRecDepth 100000 in
theorem Uq.drops {T : Nat → Tag} {n p : Nat} (h : Uq T n) (hp : p < n) : (flt (fold (T p).k) (lst T n)).length = n - 1 := by
  have key : ∀ d, p + 1 + d ≤ n → (flt (fold (T p).k) (lst T (p + 1 + d))).length = p + d := by
    intro d
    induction d with
    | zero =>
      intro _
      rw [Nat.add_zero, flt_yes (decide_eq_true rfl), flt_all (fun j hj => decide_eq_false (h p hp j hj)), lst_len, Nat.add_zero]
    | succ d ih =>
      intro hd
      have h1 := ih (by omega)
      rw [show p + 1 + (d + 1) = p + 1 + d + 1 from by omega, flt_no (decide_eq_false (fun e => h (p + 1 + d) (by omega) p (by omega) e.symm)), List.length_append, h1]
      rfl
  have h2 := key (n - (p + 1)) (by omega)
  rw [show p + 1 + (n - (p + 1)) = n from by omega] at h2
  omega
set_option maxRecDepth 100000 in
theorem flt_none (kf : ByteArray) (l : List Tag) : ∀ i, i < (flt kf l).length → lk (gt (flt kf l)) kf i = false := by
  intro i hi
  have h1 := List.mem_of_getElem? (gt_at hi)
  unfold flt at h1
  have h2 := (List.mem_filter.1 h1).2
  unfold lk
  cases hd : decide (fold (gt (flt kf l) i).k = kf) with
  | false => rfl
  | true =>
    have h3 : (!decide (fold (gt (flt kf l) i).k = kf)) = true := h2
    rw [hd] at h3
    cases h3
/-- Where a tag stands that was set. -/
def plc (T : Nat → Tag) (len : Nat) (kf : ByteArray) : Nat := if fx (lk T kf) len < 0 then len else (fx (lk T kf) len).toNat
set_option maxRecDepth 100000 in
theorem stt_at {T : Nat → Tag} {len : Nat} {t : Tag} : plc T len (fold t.k) < (stt T len t).length ∧ gt (stt T len t) (plc T len (fold t.k)) = t ∧ ∀ i, i < len → fold (T i).k ≠ fold t.k → i < (stt T len t).length ∧ gt (stt T len t) i = T i := by
  rcases fx_cases (lk T (fold t.k)) len with ⟨hfx, hno⟩ | ⟨k, hfx, hkl, hyes, _⟩
  · have hs : stt T len t = lst T len ++ [t] := by unfold stt; rw [hfx]; rfl
    have hp : plc T len (fold t.k) = len := by unfold plc; rw [hfx]; rfl
    rw [hs, hp]
    refine ⟨by rw [List.length_append, lst_len]; simp, ?_, fun i hi _ => ⟨by rw [List.length_append, lst_len]; omega, ?_⟩⟩
    · unfold gt; simp [List.getD, lst_len]
    · unfold gt; simp [List.getD, List.getElem?_append_left (show i < (lst T len).length by rw [lst_len]; exact hi), lst_at T len i hi]
  · have hs : stt T len t = (lst T len).set k t := by unfold stt; rw [hfx, if_neg (by omega)]; rfl
    have hp : plc T len (fold t.k) = k := by unfold plc; rw [hfx, if_neg (by omega)]; rfl
    rw [hs, hp]
    refine ⟨by rw [List.length_set, lst_len]; exact hkl, ?_, fun i hi hne => ⟨by rw [List.length_set, lst_len]; exact hi, ?_⟩⟩
    · unfold gt; simp [List.getD, lst_len, hkl]
    · have hik : ¬ k = i := fun e => hne (e ▸ of_decide_eq_true hyes)
      unfold gt; simp [List.getD, List.getElem?_set_ne hik, lst_at T len i hi]
set_option maxRecDepth 100000 in
theorem Sz.list {L : List Tag} (hl : L.length ≤ 1099511627776) (h : ∀ x ∈ L, x.k.size ≤ 1099511627776 ∧ x.v.size ≤ 1099511627776) : Sz (gt L) L.length :=
  ⟨hl, fun _ hi => (h _ (List.mem_of_getElem? (gt_at hi))).1, fun _ hi => (h _ (List.mem_of_getElem? (gt_at hi))).2⟩
set_option maxRecDepth 100000 in
theorem Sz.mem {L : List Tag} (h : Sz (gt L) L.length) : ∀ x ∈ L, x.k.size ≤ 1099511627776 ∧ x.v.size ≤ 1099511627776 := by
  intro x hx
  obtain ⟨i, hi⟩ := List.mem_iff_getElem?.1 hx
  have hil := (List.getElem?_eq_some_iff.1 hi).1
  rw [gt_at hil] at hi
  cases hi
  exact ⟨h.k i hil, h.v i hil⟩
set_option maxRecDepth 100000 in
theorem Sz.drops {L : List Tag} (h : Sz (gt L) L.length) (kf : ByteArray) : Sz (gt (flt kf L)) (flt kf L).length :=
  Sz.list (Nat.le_trans (flt_le kf L) h.n) fun x hx => h.mem x (List.mem_filter.1 hx).1
end Go.Proofs.YthjjonbkfkpkmaaDoor.Tg
namespace Go.Proofs.YthjjonbkfkpkmaaDoor.Tg
open Go.RowKit Gen Fld
open Crc hiding hid

set_option maxRecDepth 100000 in
theorem bad_ft {T : Nat → Tag} {i : Nat} (h : bad T i = false) : Ft (T i) := by
  have h1 : kd T i = 0 := by
    unfold bad at h
    exact Decidable.not_not.1 (of_decide_eq_false h)
  by_cases hk : Ky (T i).k
  · cases hv : Vl (T i).v with
    | true =>
      refine ⟨by have := hk.2.2; omega, ?_⟩
      unfold Vl at hv
      rw [Bool.and_eq_true] at hv
      have := of_decide_eq_true hv.1
      omega
    | false =>
      unfold kd at h1
      rw [if_pos hk, hv] at h1
      split at h1
      · exact absurd h1 (by decide)
      · exact absurd h1 (by decide)
  · rw [kd_key hk] at h1; exact absurd h1 (by decide)
set_option maxRecDepth 100000 in
theorem chk_few {T : Nat → Tag} {n : Nat} (h : (chk T n).2 = 0) : n ≤ 64 := by
  unfold chk at h
  by_cases h64 : 64 < n
  · rw [if_pos h64] at h; exact absurd h (by decide)
  · omega
set_option maxRecDepth 100000 in
theorem tbs_lst_le {T : Nat → Tag} {n : Nat} (h : (chk T n).2 = 0) (k : Nat) (hk : k ≤ n) : (tbs (lst T k)).length ≤ 4210816 := by
  have h1 := tbs_len (lst T k) (fun t ht => by
    obtain ⟨i, hi⟩ := List.mem_iff_getElem?.1 ht
    have hil := (List.getElem?_eq_some_iff.1 hi).1
    rw [lst_len] at hil
    rw [lst_at T k i hil] at hi
    cases hi
    exact bad_ft (chk_zero h i (by omega)))
  rw [lst_len] at h1
  have := chk_few h
  omega
set_option maxRecDepth 100000 in
theorem conv_tg (w : World) : (convert 28 28 (.slice (some ⟨w.heap.size, 0, none⟩) 2 2)).run Tryd.prog (w.alloc (.cells #[.int .u8 84, .int .u8 71] 5)) = .ok (.slice (some ⟨w.heap.size, 0, none⟩) 2 2) (w.alloc (.cells #[.int .u8 84, .int .u8 71] 5 (2, 3))) :=
  Lib.run_convert_bytes_const (P := Tryd.prog) w 28 5 #[.int .u8 84, .int .u8 71] 2 2 Tryd.underlying28 Tryd.underlying5
set_option maxRecDepth 100000 in
theorem u64_small (n : Nat) (h : n < 4294967296) : IntKind.u64.wrap (n : Int) = n := by rw [u64_wrap]; unfold u64; omega
/-- What Put lays. -/
def lay (T : Nat → Tag) (len : Nat) : List Nat := if (chk T len).2 = 0 then pby (lst T len) else []

set_option maxRecDepth 100000 in
set_option maxHeartbeats 4000000 in
theorem put_any {w : World} {g : Nat} (ht : Tab w g) (hT : Tabs w) {a : Option Addr} {len b off : Nat} {T : Nat → Tag} (h : Tb w a len b off T) (hz : Sz T len) {cap : Nat} (hc : len ≤ cap) :
    Calls Tryd.prog 15 #[.pointer (some ⟨g, 0, none⟩), .slice a len cap] w (PutP w (chk T len).2 (lay T len)) := by
  have HCH := hid (check_any w hT h hz hc)
  have H := hid h
  have HTB := hid ht
  have hlay : (chk T len).2 = 0 → lay T len = pby (lst T len) := fun h => by unfold lay; rw [if_pos h]
  have hlay0 : ¬ (chk T len).2 = 0 → lay T len = [] := fun h => by unfold lay; rw [if_neg h]
  have hbx := fun h => tbs_lst_le (T := T) (n := len) h
  have hfw := fun h => chk_few (T := T) (n := len) h
  have hft := fun h i hi => bad_ft (chk_zero (T := T) (n := len) h i hi)
  have hlz := hid (lst_len T len)
  generalize lay T len = LY at *
  generalize hCC : chk T len = C at *
  clear hCC ht h hz hc
  by_cases h0 : C.2 = 0
  · have q0 : (C.2 != 0) = false := by rw [h0]; rfl
    have HLY := hid (hlay h0)
    have HBX := hid (hbx h0)
    have hln := hfw h0
    have HFT := hid (hft h0)
    rw [h0] at HCH q0 ⊢
    have HPO := hid (show ∀ e w', PutP w 0 LY e w' → PutP w 0 LY e w' from fun _ _ h => h)
    have HLT := hid fun (k : Nat) (hk : k ≤ len) => (show ([84, 71] ++ le len 1 ++ tbs (lst T k)).length ≤ 5000000 by
      have := HBX.out k hk
      simp only [List.length_append, le_len, List.length_cons, List.length_nil]
      omega)
    have HBO := hid (show [84, 71] ++ le len 1 ++ tbs (lst T len) = bod (lst T len) by unfold bod; rw [hlz.out])
    have HPB := hid (show bod (lst T len) ++ le (cs (bod (lst T len))) 4 = pby (lst T len) from rfl)
    have hu1 := u64_small len (by omega)
    have HE1 := hid (uerr_one len (by omega))
    clear hlay hlay0 hbx hfw hft h0
    go_enter Tryd.func15, Tryd.ntmps15
    go_wp2_with fail
    refine HCH.out.mono ?_
    rintro e w1 ⟨rfl, hb1⟩
    have HB1 := hid hb1
    clear hb1
    have hsz : (w1.alloc (.cells #[.int .i64 0, .slice none 0 0] 93)).heap.size = w1.heap.size + 1 := Deep.nblk_alloc _ _
    have hcv := conv_tg (w1.alloc (.cells #[.int .i64 0, .slice none 0 0] 93))
    have hby := byts_two (w1.alloc (.cells #[.int .i64 0, .slice none 0 0] 93))
    rw [hsz] at hcv hby
    have HBY := hid hby
    have HST := hid (show St w1 [] ((w1.alloc (.cells #[.int .i64 0, .slice none 0 0] 93)).alloc (.cells #[.int .u8 84, .int .u8 71] 5 (2, 3))) (w1.heap.size + 1) by
      have h1 := new_maker w1
      refine ⟨none, 0, h1.below (bel_new _ _), (bel_new w1 _).trans ((bel_new _ _).mono (by rw [hsz]; omega)), by omega, by simp [blk]⟩)
    have HSZ3 := hid (show w1.heap.size + 1 < ((w1.alloc (.cells #[.int .i64 0, .slice none 0 0] 93)).alloc (.cells #[.int .u8 84, .int .u8 71] 5 (2, 3))).heap.size by rw [Deep.nblk_alloc, hsz]; omega)
    clear hby hsz
    go_wp2_with fail
    clear hcv
    change Calls _ _ _ ((w1.alloc (.cells #[.int .i64 0, .slice none 0 0] 93)).alloc (.cells #[.int .u8 84, .int .u8 71] 5 (2, 3))) _
    generalize ((w1.alloc (.cells #[.int .i64 0, .slice none 0 0] 93)).alloc (.cells #[.int .u8 84, .int .u8 71] 5 (2, 3))) = W3 at *
    refine (HST.out.raw HSZ3.out (m := [84, 71]) (n := 2) (c := 2) rfl HBY.out (fun e => by cases e) (by decide)).mono ?_
    rintro e w4 ⟨rfl, hst4, _, hz4⟩
    have HST4 := hid hst4
    have HSZ4 := hid (Nat.lt_of_lt_of_le HSZ3.out hz4)
    clear hst4 hz4
    go_wp2_with fail
    refine (HST4.out.u HSZ4.out len 1 (by omega) HE1.out (by decide)).mono ?_
    rintro e w5 ⟨rfl, hst5, _, hz5⟩
    have HST5 := hid hst5
    have HSZ5 := hid (Nat.lt_of_lt_of_le HSZ4.out hz5)
    clear hst5 hz5
    go_wp2_with fail
    go_loopg [36] len (fun gh i wr => ∃ (k bx : Nat), k ≤ len ∧ gh = len - k ∧ i = .int .i64 k ∧ Hid (St w1 ([84, 71] ++ le len 1 ++ tbs (lst T k)) wr bx) ∧ Hid (bx < wr.heap.size))
    case atStart => exact ⟨0, w1.heap.size + 1, Nat.zero_le _, rfl, rfl, hid (by show St w1 ([84, 71] ++ le len 1 ++ []) _ _; rw [List.append_nil]; exact HST5.out), HSZ5⟩
    case round =>
      obtain ⟨k, bx, hk, hg, rfl, HS, HX⟩ := hrel
      have HG := hid hg
      clear hg
      by_cases hlt : k < len
      · have hlt2 : (k : Int) < (len : Int) := by omega
        obtain rfl := H.out.addr (by omega)
        have hbw := HB1.out.trans (HS.out.bel.mono HB1.out.size)
        have ck := (H.out.keep hbw).k k hlt
        have cv := (H.out.keep hbw).v k hlt
        have hbn := bel_new wr (.cells #[.string (T k).k, .string (T k).v] 54)
        have HS6 := hid (HS.out.box hbn)
        have hx0 : (wr.alloc (.cells #[.string (T k).k, .string (T k).v] 54)).cell? ⟨wr.heap.size, 0, none⟩ = some (.string (T k).k) := by simp
        have hx1 : (wr.alloc (.cells #[.string (T k).k, .string (T k).v] 54)).cell? ⟨wr.heap.size, 1, none⟩ = some (.string (T k).v) := by simp
        have HX6 := hid (World.block_lt_of_cell? _ _ hx0)
        have HV6 := hid hx1
        have hfk := HFT.out k hlt
        have HFK := hid hfk
        have HEK := hid (uerr_one (T k).k.size hfk.1)
        have HEV := hid (uerr_two (T k).v.size hfk.2)
        have HLK := hid (HLT.out k hk)
        clear hbw hbn hx0 hx1 hfk
        go_wp2_with fail
        change Calls _ _ _ (wr.alloc (.cells #[.string (T k).k, .string (T k).v] 54)) _
        generalize wr.alloc (.cells #[.string (T k).k, .string (T k).v] 54) = W6 at *
        refine (HS6.out.text HX6.out (T k).k 1 (by have := HFK.out.1; omega) HEK.out (by have := HLK.out; omega)).mono ?_
        rintro e w7 ⟨rfl, hst7, hc7, hz7⟩
        have hv7 := (hc7 1).trans HV6.out
        have HS7 := hid hst7
        have HX7 := hid (Nat.lt_of_lt_of_le HX6.out hz7)
        clear hst7 hc7 hz7 ck cv
        go_wp2_with fail
        refine (HS7.out.text HX7.out (T k).v 2 (by have := HFK.out.2; omega) HEV.out (by have h8 := HLK.out; have h9 := HFK.out.1; have h10 : (le (T k).k.size 1 ++ sb (T k).k).length = 1 + (T k).k.size := (by rw [List.length_append, le_len, sb_len]); rw [List.length_append, h10]; omega)).mono ?_
        rintro e w8 ⟨rfl, hst8, hc8, hz8⟩
        have HS8 := hid (show St w1 ([84, 71] ++ le len 1 ++ tbs (lst T (k + 1))) w8 wr.heap.size by
          rw [lst_succ, tbs_app]
          show St w1 ([84, 71] ++ le len 1 ++ (tbs (lst T k) ++ (tby (T k) ++ []))) w8 wr.heap.size
          rw [List.append_nil, ← List.append_assoc]
          unfold tby
          rw [← List.append_assoc ([84, 71] ++ le len 1 ++ tbs (lst T k))]
          exact hst8)
        have HX8 := hid (Nat.lt_of_lt_of_le HX7.out hz8)
        clear hst8 hc8 hz8 hv7
        go_wp2_with fail
        go_roundg (len - (k + 1))
        case measure => rw [HG.out]; omega
        case rel => exact ⟨k + 1, wr.heap.size, by omega, rfl, by go_num, HS8, HX8⟩
      · have hge : ¬ (k : Int) < (len : Int) := by omega
        obtain rfl : k = len := by omega
        have hs9 := HS.out
        have hlb := HLT.out k hk
        rw [HBO.out] at hs9 hlb
        have HS9 := hid hs9
        have HPP := hid (show ∀ ao cap w', NL w1 ao cap (pby (lst T k)) w' → PutP w 0 LY (.returned (.tuple #[.slice ao (pby (lst T k)).length cap, .int .i64 0])) w' from fun ao cap w' h => by
          rw [HLY.out]
          exact ⟨ao, cap, rfl, own_mono2 h.own HB1.out.size, HB1.out.trans (h.bel.mono HB1.out.size), h.lt⟩)
        have hcl := cs_lt (bod_lt (lst T k))
        have HCL := hid (uerr_four _ hcl)
        have hu4 := u64_small _ hcl
        have HBL := hid (bod_lt (lst T k))
        have HTS := hid fun (w' : World) (ao : Option Addr) (cp : Nat) (h : Byts w' ao (bod (lst T k))) (hb : Below w1.heap.size w1 w') => tsum_any (cap := cp) ((HTB.out.keep (HB1.out.block g HTB.out.lt)).keep (hb.block g (by have := (HTB.out.keep (HB1.out.block g HTB.out.lt)).lt; exact this))) h (by omega)
        rw [← HPB.out] at HPP
        clear hs9 HBO HPB hlz HLY HPO HBX
        generalize hBD : bod (lst T k) = BD at *
        clear hBD
        generalize cs BD = SM at *
        go_wp2_with fail
        refine (HS9.out.bytes (by omega)).mono ?_
        rintro e w10 ⟨ao, cp, rfl, hnl, hst10, hz10⟩
        have HTS1 := hid (HTS.out w10 ao cp hnl.byts hst10.bel)
        have HS10 := hid hst10
        have HX10 := hid (Nat.lt_of_lt_of_le HX.out hz10)
        clear hnl hst10 hz10
        go_wp2_with fail
        refine HTS1.out.mono ?_
        rintro e w11 ⟨rfl, rfl⟩
        go_wp2_with fail
        refine (HS10.out.u HX10.out SM 4 (by omega) HCL.out (by omega)).mono ?_
        rintro e w12 ⟨rfl, hst12, _, _⟩
        have HS12 := hid hst12
        clear hst12
        go_wp2_with fail
        refine (HS12.out.bytes (by rw [List.length_append, le_len]; omega)).mono ?_
        rintro e w13 ⟨ao2, cp2, rfl, hnl2, _, _⟩
        have hf := HPP.out _ _ _ hnl2
        rw [List.length_append] at hf
        have HF := hid hf
        clear hnl2 hf
        go_wp2_with fail
        go_ret2
        exact HF.out
  · have q0 : (C.2 != 0) = true := by rw [bne_iff_ne]; exact h0
    have HLY := hid (hlay0 h0)
    clear hlay hlay0 hbx hfw hft h0
    go_enter Tryd.func15, Tryd.ntmps15
    go_wp2_with fail
    refine HCH.out.mono ?_
    rintro e w1 ⟨rfl, hb1⟩
    have HF := hid (show PutP w C.2 LY (.returned (.tuple #[.slice none 0 0, .int .i64 C.2])) w1 by rw [HLY.out]; exact putp_none _ hb1)
    clear hb1
    go_wp2_with fail
    go_ret2
    exact HF.out
end Go.Proofs.YthjjonbkfkpkmaaDoor.Tg
namespace Go.Proofs.YthjjonbkfkpkmaaDoor.Fil
open Go.RowKit Gen
open Tl (il il_app rise TRt)

/-- What is noted of blocks. -/
structure Ns where
  at_ : Nat
  n : Nat
  P : List Int
  c : Int
  sh : Bool
def Ns.next (i : Inf.If) (s : Ns) (l : List Nat) : Ns := ⟨s.at_ + (36 + Head.szn l), s.n + 1, s.P ++ [(s.at_ : Int)], s.c + (Head.opH l).ln, decide ((Head.opH l).ln < i.bk)⟩
/-- What is noted of the first k blocks. -/
def bst (i : Inf.If) (L : Nat → List Nat) (at0 : Nat) : Nat → Ns
  | 0 => ⟨at0, 0, [], 0, false⟩
  | k + 1 => (bst i L at0 k).next i (L k)
/-- The first error among the first k blocks. -/
def ber (i : Inf.If) (L : Nat → List Nat) (at0 : Nat) : Nat → Int
  | 0 => 0
  | k + 1 => if ber i L at0 k ≠ 0 then ber i L at0 k else adE i (bst i L at0 k).n (bst i L at0 k).sh (bst i L at0 k).c (L k)
def flat (L : Nat → List Nat) : Nat → List Nat
  | 0 => []
  | k + 1 => flat L k ++ L k
set_option maxRecDepth 100000 in
theorem bst_n (i : Inf.If) (L : Nat → List Nat) (at0 k : Nat) : (bst i L at0 k).n = k := by
  induction k with
  | zero => rfl
  | succ k ih => show (bst i L at0 k).n + 1 = k + 1; rw [ih]
set_option maxRecDepth 100000 in
theorem bst_P (i : Inf.If) (L : Nat → List Nat) (at0 k : Nat) : (bst i L at0 k).P.length = k := by
  induction k with
  | zero => rfl
  | succ k ih =>
    show ((bst i L at0 k).P ++ [((bst i L at0 k).at_ : Int)]).length = k + 1
    rw [List.length_append, ih]; rfl
set_option maxRecDepth 100000 in
theorem ber_pre {i : Inf.If} {L : Nat → List Nat} {at0 k : Nat} (h : ber i L at0 (k + 1) = 0) : ber i L at0 k = 0 ∧ adE i k (bst i L at0 k).sh (bst i L at0 k).c (L k) = 0 := by
  unfold ber at h
  by_cases h0 : ber i L at0 k = 0
  · rw [if_neg (fun e => e h0), bst_n] at h
    exact ⟨h0, h⟩
  · rw [if_pos h0] at h
    exact absurd h h0
set_option maxRecDepth 100000 in
theorem ber_step {i : Inf.If} {L : Nat → List Nat} {at0 k : Nat} (h : ber i L at0 k = 0) : ber i L at0 (k + 1) = adE i k (bst i L at0 k).sh (bst i L at0 k).c (L k) := by
  show (if ber i L at0 k ≠ 0 then ber i L at0 k else adE i (bst i L at0 k).n (bst i L at0 k).sh (bst i L at0 k).c (L k)) = _
  rw [if_neg (fun e => e h), bst_n]
set_option maxRecDepth 100000 in
theorem ber_mono {i : Inf.If} {L : Nat → List Nat} {at0 : Nat} {k n : Nat} (h : k ≤ n) (e : ber i L at0 n = 0) : ber i L at0 k = 0 := by
  induction n with
  | zero => have : k = 0 := by omega
            subst this; exact e
  | succ n ih =>
    by_cases hk : k = n + 1
    · rw [hk]; exact e
    · exact ih (by omega) (ber_pre e).1
set_option maxRecDepth 100000 in
theorem ber_stop {i : Inf.If} {L : Nat → List Nat} {at0 : Nat} {k n : Nat} (h : k ≤ n) (e : ber i L at0 k ≠ 0) : ber i L at0 n = ber i L at0 k := by
  induction n with
  | zero => have : k = 0 := by omega
            subst this; rfl
  | succ n ih =>
    by_cases hk : k = n + 1
    · rw [hk]
    · have := ih (by omega)
      show (if ber i L at0 n ≠ 0 then ber i L at0 n else _) = _
      rw [if_pos (by rw [this]; exact e), this]
set_option maxRecDepth 100000 in
theorem ad_ok {i : Inf.If} {n : Nat} {sh : Bool} {c : Int} {l : List Nat} (h : adE i n sh c l = 0) :
    Head.opE l = 0 ∧ l.length = 36 + Head.szn l ∧ nxt i (Head.opH l) n sh = 0 ∧ c + (Head.opH l).ln ≤ 4294967295 ∧ Head.Rt (Head.opH l) ∧ Head.szn l ≤ 16777216 := by
  unfold adE at h
  by_cases h0 : Head.opE l = 0
  · rw [if_neg (fun e => e h0)] at h
    obtain ⟨hr, hs, hle, hz⟩ := op_ok h0
    by_cases h1 : Head.szn l + 36 < l.length
    · rw [if_pos h1] at h; cases h
    · rw [if_neg h1] at h
      by_cases h2 : nxt i (Head.opH l) n sh = 0
      · rw [if_neg (fun e => e h2)] at h
        by_cases h3 : 4294967295 < c + (Head.opH l).ln
        · rw [if_pos h3] at h; cases h
        · exact ⟨h0, by omega, h2, by omega, hr, hz⟩
      · rw [if_pos h2] at h; exact absurd h h2
  · rw [if_pos h0] at h; exact absurd h h0
set_option maxRecDepth 100000 in
theorem rise_snoc (p x : Int) : ∀ l : List Int, rise p (l ++ [x]) ↔ rise p l ∧ (l.getLastD p + 1 ≤ x ∧ x ≤ 1099511627775)
  | [] => by
    show (p + 1 ≤ x ∧ x ≤ 1099511627775) ∧ True ↔ True ∧ (p + 1 ≤ x ∧ x ≤ 1099511627775)
    exact ⟨fun h => ⟨h.2, h.1⟩, fun h => ⟨h.2, h.1⟩⟩
  | y :: t => by
    show (p + 1 ≤ y ∧ y ≤ 1099511627775) ∧ rise y (t ++ [x]) ↔ ((p + 1 ≤ y ∧ y ≤ 1099511627775) ∧ rise y t) ∧ _
    rw [rise_snoc y x t]
    have : (y :: t).getLastD p = t.getLastD y := by cases t <;> rfl
    rw [this]
    exact ⟨fun ⟨a, b, c⟩ => ⟨⟨a, b⟩, c⟩, fun ⟨⟨a, b⟩, c⟩ => ⟨a, b, c⟩⟩
set_option maxRecDepth 100000 in
/-- What stands behind k blocks without an error. -/
theorem bst_ok {i : Inf.If} {L : Nat → List Nat} {at0 : Nat} (k : Nat) (h : ber i L at0 k = 0) (hat : at0 + (flat L k).length ≤ 1099511627776) :
    (bst i L at0 k).at_ = at0 + (flat L k).length ∧ 0 ≤ (bst i L at0 k).c ∧ (bst i L at0 k).c ≤ 4294967295 ∧ rise (-1) (bst i L at0 k).P ∧ (bst i L at0 k).P.getLastD (-1) < (bst i L at0 k).at_ := by
  induction k with
  | zero => exact ⟨rfl, Int.le_refl _, by show (0 : Int) ≤ 4294967295; decide, trivial, by show (-1 : Int) < (at0 : Int); omega⟩
  | succ k ih =>
    obtain ⟨h0, ha⟩ := ber_pre h
    obtain ⟨_, hl, _, hc, hr, _⟩ := ad_ok ha
    have hfl : (flat L (k + 1)).length = (flat L k).length + (L k).length := List.length_append
    obtain ⟨i1, i2, i3, i4, i5⟩ := ih h0 (by omega)
    have hl1 := hr.1.2.2.1
    have e1 : (bst i L at0 (k + 1)).at_ = (bst i L at0 k).at_ + (36 + Head.szn (L k)) := rfl
    have e2 : (bst i L at0 (k + 1)).c = (bst i L at0 k).c + (Head.opH (L k)).ln := rfl
    have e3 : (bst i L at0 (k + 1)).P = (bst i L at0 k).P ++ [((bst i L at0 k).at_ : Int)] := rfl
    refine ⟨by rw [e1, i1]; omega, by rw [e2]; omega, by rw [e2]; omega, ?_, ?_⟩
    · rw [e3, rise_snoc]
      exact ⟨i4, by omega, by omega⟩
    · rw [e3, e1]
      have : ((bst i L at0 k).P ++ [((bst i L at0 k).at_ : Int)]).getLastD (-1) = ((bst i L at0 k).at_ : Int) := by simp
      rw [this]
      omega
set_option maxRecDepth 100000 in
theorem bst_trt {i : Inf.If} {L : Nat → List Nat} {at0 : Nat} (k : Nat) (h : ber i L at0 k = 0) (hat : at0 + (flat L k).length ≤ 1099511627776) (hk : k ≤ 16777216) : TRt (bst i L at0 k).c (bst i L at0 k).P := by
  obtain ⟨_, h2, h3, h4, _⟩ := bst_ok k h hat
  exact ⟨⟨h2, h3⟩, by rw [bst_P]; exact hk, h4⟩
set_option maxRecDepth 100000 in
theorem flat_le {L : Nat → List Nat} {m : Nat} : ∀ k, (∀ j, j < k → (L j).length ≤ m) → (flat L k).length ≤ m * k
  | 0, _ => Nat.zero_le _
  | k + 1, h => by
    have h1 := flat_le k fun j hj => h j (by omega)
    have h2 := h k (by omega)
    show (flat L k ++ L k).length ≤ m * (k + 1)
    rw [List.length_append, Nat.mul_succ]
    omega
set_option maxRecDepth 100000 in
theorem pby_len (l : List Tg.Tag) : (Tg.pby l).length = 7 + (Tg.tbs l).length := by
  unfold Tg.pby Tg.bod
  simp only [List.length_append, List.length_cons, List.length_nil, le_len]
  omega
/-- Why a file can't be put together. -/
def bdE (i : Inf.If) (T : Nat → Tg.Tag) (len : Nat) (L : Nat → List Nat) (n : Nat) : Int :=
  if ¬ Inf.Rt i then 32 else if (Tg.chk T len).2 ≠ 0 then (Tg.chk T len).2 else ber i L (19 + (Tg.pby (Tg.lst T len)).length) n
/-- The file's bytes. -/
def bdB (i : Inf.If) (T : Nat → Tg.Tag) (len : Nat) (L : Nat → List Nat) (n s : Nat) : List Nat :=
  if bdE i T len L n = 0 then Inf.iby i ++ Tg.pby (Tg.lst T len) ++ flat L n ++ Tl.tby (bst i L (19 + (Tg.pby (Tg.lst T len)).length) n).c s (bst i L (19 + (Tg.pby (Tg.lst T len)).length) n).P else []
end Go.Proofs.YthjjonbkfkpkmaaDoor.Fil
