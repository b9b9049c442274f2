/- Put of the program: what it answers. Conditions: a table in memory, at most 2^30 tags, texts of at most 2^40 bytes, the two tables of unicode/utf8. -/
import Derived.Test.YtfkklmklbmdlhaaDoorP2
import Derived.Test.YtfkklmklbmdlhaaDoorV2
namespace Go.Proofs.YtfkklmklbmdlhaaDoor.Tg
open Go.RowKit Gen Fld
open Crc hiding hid

theorem bad_ft {T : Nat → Tag} {i : Nat} (h : bad T i = false) : Ft (T i) := by
  have h1 : kd T i = 0 := by
    unfold bad at h
    exact Decidable.not_not.1 (of_decide_eq_false h)
  by_cases hk : Ky (T i).k
  · cases hv : Vl (T i).v with
    | true =>
      refine ⟨by have := hk.2.2; omega, ?_⟩
      unfold Vl at hv
      rw [Bool.and_eq_true] at hv
      have := of_decide_eq_true hv.1
      omega
    | false =>
      unfold kd at h1
      rw [if_pos hk, hv] at h1
      split at h1
      · exact absurd h1 (by decide)
      · exact absurd h1 (by decide)
  · rw [kd_key hk] at h1; exact absurd h1 (by decide)
theorem chk_few {T : Nat → Tag} {n : Nat} (h : (chk T n).2 = 0) : n ≤ 64 := by
  unfold chk at h
  by_cases h64 : 64 < n
  · rw [if_pos h64] at h; exact absurd h (by decide)
  · omega
theorem tbs_lst_le {T : Nat → Tag} {n : Nat} (h : (chk T n).2 = 0) (k : Nat) (hk : k ≤ n) : (tbs (lst T k)).length ≤ 4210816 := by
  have h1 := tbs_len (lst T k) (fun t ht => by
    obtain ⟨i, hi⟩ := List.mem_iff_getElem?.1 ht
    have hil := (List.getElem?_eq_some_iff.1 hi).1
    rw [lst_len] at hil
    rw [lst_at T k i hil] at hi
    cases hi
    exact bad_ft (chk_zero h i (by omega)))
  rw [lst_len] at h1
  have := chk_few h
  omega
set_option maxRecDepth 20000 in
theorem conv_tg (w : World) : (convert 40 40 (.slice (some ⟨w.heap.size, 0, none⟩) 2 2)).run Tryd.prog (w.alloc (.cells #[.int .u8 84, .int .u8 71] 5)) = .ok (.slice (some ⟨w.heap.size, 0, none⟩) 2 2) (w.alloc (.cells #[.int .u8 84, .int .u8 71] 5 (2, 3))) :=
  Lib.run_convert_bytes_const (P := Tryd.prog) w 40 5 #[.int .u8 84, .int .u8 71] 2 2 Tryd.underlying40 Tryd.underlying5
theorem u64_small (n : Nat) (h : n < 4294967296) : IntKind.u64.wrap (n : Int) = n := by rw [u64_wrap]; unfold u64; omega
/-- What Put lays. -/
def lay (T : Nat → Tag) (len : Nat) : List Nat := if (chk T len).2 = 0 then pby (lst T len) else []

set_option maxRecDepth 20000 in
set_option maxHeartbeats 4000000 in
theorem put_any {w : World} {g : Nat} (ht : Tab w g) (hT : Tabs w) {a : Option Addr} {len b off : Nat} {T : Nat → Tag} (h : Tb w a len b off T) (hz : Sz T len) {cap : Nat} (hc : len ≤ cap) :
    Calls Tryd.prog 24 #[.pointer (some ⟨g, 0, none⟩), .slice a len cap] w (PutP w (chk T len).2 (lay T len)) := by
  have HCH := hid (check_any w hT h hz hc)
  have H := hid h
  have HTB := hid ht
  have hlay : (chk T len).2 = 0 → lay T len = pby (lst T len) := fun h => by unfold lay; rw [if_pos h]
  have hlay0 : ¬ (chk T len).2 = 0 → lay T len = [] := fun h => by unfold lay; rw [if_neg h]
  have hbx := fun h => tbs_lst_le (T := T) (n := len) h
  have hfw := fun h => chk_few (T := T) (n := len) h
  have hft := fun h i hi => bad_ft (chk_zero (T := T) (n := len) h i hi)
  have hlz := hid (lst_len T len)
  generalize lay T len = LY at *
  generalize hCC : chk T len = C at *
  clear hCC ht h hz hc
  by_cases h0 : C.2 = 0
  · have q0 : (C.2 != 0) = false := by rw [h0]; rfl
    have HLY := hid (hlay h0)
    have HBX := hid (hbx h0)
    have hln := hfw h0
    have HFT := hid (hft h0)
    rw [h0] at HCH q0 ⊢
    have HPO := hid (show ∀ e w', PutP w 0 LY e w' → PutP w 0 LY e w' from fun _ _ h => h)
    have HLT := hid fun (k : Nat) (hk : k ≤ len) => (show ([84, 71] ++ le len 1 ++ tbs (lst T k)).length ≤ 5000000 by
      have := HBX.out k hk
      simp only [List.length_append, le_len, List.length_cons, List.length_nil]
      omega)
    have HBO := hid (show [84, 71] ++ le len 1 ++ tbs (lst T len) = bod (lst T len) by unfold bod; rw [hlz.out])
    have HPB := hid (show bod (lst T len) ++ le (cs (bod (lst T len))) 4 = pby (lst T len) from rfl)
    have hu1 := u64_small len (by omega)
    have HE1 := hid (uerr_one len (by omega))
    clear hlay hlay0 hbx hfw hft h0
    go_enter Tryd.func24, Tryd.ntmps24
    go_wp2_with fail
    refine HCH.out.mono ?_
    rintro e w1 ⟨rfl, hb1⟩
    have HB1 := hid hb1
    clear hb1
    have hsz : (w1.alloc (.cells #[.int .i64 0, .slice none 0 0] 68)).heap.size = w1.heap.size + 1 := Deep.nblk_alloc _ _
    have hcv := conv_tg (w1.alloc (.cells #[.int .i64 0, .slice none 0 0] 68))
    have hby := byts_two (w1.alloc (.cells #[.int .i64 0, .slice none 0 0] 68))
    rw [hsz] at hcv hby
    have HBY := hid hby
    have HST := hid (show St w1 [] ((w1.alloc (.cells #[.int .i64 0, .slice none 0 0] 68)).alloc (.cells #[.int .u8 84, .int .u8 71] 5 (2, 3))) (w1.heap.size + 1) by
      have h1 := new_maker w1
      refine ⟨none, 0, h1.below (bel_new _ _), (bel_new w1 _).trans ((bel_new _ _).mono (by rw [hsz]; omega)), by omega, by simp [blk]⟩)
    have HSZ3 := hid (show w1.heap.size + 1 < ((w1.alloc (.cells #[.int .i64 0, .slice none 0 0] 68)).alloc (.cells #[.int .u8 84, .int .u8 71] 5 (2, 3))).heap.size by rw [Deep.nblk_alloc, hsz]; omega)
    clear hby hsz
    go_wp2_with fail
    clear hcv
    change Calls _ _ _ ((w1.alloc (.cells #[.int .i64 0, .slice none 0 0] 68)).alloc (.cells #[.int .u8 84, .int .u8 71] 5 (2, 3))) _
    generalize ((w1.alloc (.cells #[.int .i64 0, .slice none 0 0] 68)).alloc (.cells #[.int .u8 84, .int .u8 71] 5 (2, 3))) = W3 at *
    refine (HST.out.raw HSZ3.out (m := [84, 71]) (n := 2) (c := 2) rfl HBY.out (fun e => by cases e) (by decide)).mono ?_
    rintro e w4 ⟨rfl, hst4, _, hz4⟩
    have HST4 := hid hst4
    have HSZ4 := hid (Nat.lt_of_lt_of_le HSZ3.out hz4)
    clear hst4 hz4
    go_wp2_with fail
    refine (HST4.out.u HSZ4.out len 1 (by omega) HE1.out (by decide)).mono ?_
    rintro e w5 ⟨rfl, hst5, _, hz5⟩
    have HST5 := hid hst5
    have HSZ5 := hid (Nat.lt_of_lt_of_le HSZ4.out hz5)
    clear hst5 hz5
    go_wp2_with fail
    go_loopg [36] len (fun gh i wr => ∃ (k bx : Nat), k ≤ len ∧ gh = len - k ∧ i = .int .i64 k ∧ Hid (St w1 ([84, 71] ++ le len 1 ++ tbs (lst T k)) wr bx) ∧ Hid (bx < wr.heap.size))
    case atStart => exact ⟨0, w1.heap.size + 1, Nat.zero_le _, rfl, rfl, hid (by show St w1 ([84, 71] ++ le len 1 ++ []) _ _; rw [List.append_nil]; exact HST5.out), HSZ5⟩
    case round =>
      obtain ⟨k, bx, hk, hg, rfl, HS, HX⟩ := hrel
      have HG := hid hg
      clear hg
      by_cases hlt : k < len
      · have hlt2 : (k : Int) < (len : Int) := by omega
        obtain rfl := H.out.addr (by omega)
        have hbw := HB1.out.trans (HS.out.bel.mono HB1.out.size)
        have ck := (H.out.keep hbw).k k hlt
        have cv := (H.out.keep hbw).v k hlt
        have hbn := bel_new wr (.cells #[.string (T k).k, .string (T k).v] 30)
        have HS6 := hid (HS.out.box hbn)
        have hx0 : (wr.alloc (.cells #[.string (T k).k, .string (T k).v] 30)).cell? ⟨wr.heap.size, 0, none⟩ = some (.string (T k).k) := by simp
        have hx1 : (wr.alloc (.cells #[.string (T k).k, .string (T k).v] 30)).cell? ⟨wr.heap.size, 1, none⟩ = some (.string (T k).v) := by simp
        have HX6 := hid (World.block_lt_of_cell? _ _ hx0)
        have HV6 := hid hx1
        have hfk := HFT.out k hlt
        have HFK := hid hfk
        have HEK := hid (uerr_one (T k).k.size hfk.1)
        have HEV := hid (uerr_two (T k).v.size hfk.2)
        have HLK := hid (HLT.out k hk)
        clear hbw hbn hx0 hx1 hfk
        go_wp2_with fail
        change Calls _ _ _ (wr.alloc (.cells #[.string (T k).k, .string (T k).v] 30)) _
        generalize wr.alloc (.cells #[.string (T k).k, .string (T k).v] 30) = W6 at *
        refine (HS6.out.text HX6.out (T k).k 1 (by have := HFK.out.1; omega) HEK.out (by have := HLK.out; omega)).mono ?_
        rintro e w7 ⟨rfl, hst7, hc7, hz7⟩
        have hv7 := (hc7 1).trans HV6.out
        have HS7 := hid hst7
        have HX7 := hid (Nat.lt_of_lt_of_le HX6.out hz7)
        clear hst7 hc7 hz7 ck cv
        go_wp2_with fail
        refine (HS7.out.text HX7.out (T k).v 2 (by have := HFK.out.2; omega) HEV.out (by have h8 := HLK.out; have h9 := HFK.out.1; have h10 : (le (T k).k.size 1 ++ sb (T k).k).length = 1 + (T k).k.size := (by rw [List.length_append, le_len, sb_len]); rw [List.length_append, h10]; omega)).mono ?_
        rintro e w8 ⟨rfl, hst8, hc8, hz8⟩
        have HS8 := hid (show St w1 ([84, 71] ++ le len 1 ++ tbs (lst T (k + 1))) w8 wr.heap.size by
          rw [lst_succ, tbs_app]
          show St w1 ([84, 71] ++ le len 1 ++ (tbs (lst T k) ++ (tby (T k) ++ []))) w8 wr.heap.size
          rw [List.append_nil, ← List.append_assoc]
          unfold tby
          rw [← List.append_assoc ([84, 71] ++ le len 1 ++ tbs (lst T k))]
          exact hst8)
        have HX8 := hid (Nat.lt_of_lt_of_le HX7.out hz8)
        clear hst8 hc8 hz8 hv7
        go_wp2_with fail
        go_roundg (len - (k + 1))
        case measure => rw [HG.out]; omega
        case rel => exact ⟨k + 1, wr.heap.size, by omega, rfl, by go_num, HS8, HX8⟩
      · have hge : ¬ (k : Int) < (len : Int) := by omega
        obtain rfl : k = len := by omega
        have hs9 := HS.out
        have hlb := HLT.out k hk
        rw [HBO.out] at hs9 hlb
        have HS9 := hid hs9
        have HPP := hid (show ∀ ao cap w', NL w1 ao cap (pby (lst T k)) w' → PutP w 0 LY (.returned (.tuple #[.slice ao (pby (lst T k)).length cap, .int .i64 0])) w' from fun ao cap w' h => by
          rw [HLY.out]
          exact ⟨ao, cap, rfl, own_mono2 h.own HB1.out.size, HB1.out.trans (h.bel.mono HB1.out.size), h.lt⟩)
        have hcl := cs_lt (bod_lt (lst T k))
        have HCL := hid (uerr_four _ hcl)
        have hu4 := u64_small _ hcl
        have HBL := hid (bod_lt (lst T k))
        have HTS := hid fun (w' : World) (ao : Option Addr) (cp : Nat) (h : Byts w' ao (bod (lst T k))) (hb : Below w1.heap.size w1 w') => tsum_any (cap := cp) ((HTB.out.keep (HB1.out.block g HTB.out.lt)).keep (hb.block g (by have := (HTB.out.keep (HB1.out.block g HTB.out.lt)).lt; exact this))) h (by omega)
        rw [← HPB.out] at HPP
        clear hs9 HBO HPB hlz HLY HPO HBX
        generalize hBD : bod (lst T k) = BD at *
        clear hBD
        generalize cs BD = SM at *
        go_wp2_with fail
        refine (HS9.out.bytes (by omega)).mono ?_
        rintro e w10 ⟨ao, cp, rfl, hnl, hst10, hz10⟩
        have HTS1 := hid (HTS.out w10 ao cp hnl.byts hst10.bel)
        have HS10 := hid hst10
        have HX10 := hid (Nat.lt_of_lt_of_le HX.out hz10)
        clear hnl hst10 hz10
        go_wp2_with fail
        refine HTS1.out.mono ?_
        rintro e w11 ⟨rfl, rfl⟩
        go_wp2_with fail
        refine (HS10.out.u HX10.out SM 4 (by omega) HCL.out (by omega)).mono ?_
        rintro e w12 ⟨rfl, hst12, _, _⟩
        have HS12 := hid hst12
        clear hst12
        go_wp2_with fail
        refine (HS12.out.bytes (by rw [List.length_append, le_len]; omega)).mono ?_
        rintro e w13 ⟨ao2, cp2, rfl, hnl2, _, _⟩
        have hf := HPP.out _ _ _ hnl2
        rw [List.length_append] at hf
        have HF := hid hf
        clear hnl2 hf
        go_wp2_with fail
        go_ret2
        exact HF.out
  · have q0 : (C.2 != 0) = true := by rw [bne_iff_ne]; exact h0
    have HLY := hid (hlay0 h0)
    clear hlay hlay0 hbx hfw hft h0
    go_enter Tryd.func24, Tryd.ntmps24
    go_wp2_with fail
    refine HCH.out.mono ?_
    rintro e w1 ⟨rfl, hb1⟩
    have HF := hid (show PutP w C.2 LY (.returned (.tuple #[.slice none 0 0, .int .i64 C.2])) w1 by rw [HLY.out]; exact putp_none _ hb1)
    clear hb1
    go_wp2_with fail
    go_ret2
    exact HF.out
end Go.Proofs.YtfkklmklbmdlhaaDoor.Tg
