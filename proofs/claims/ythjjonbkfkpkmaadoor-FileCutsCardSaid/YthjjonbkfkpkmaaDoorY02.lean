/- The maker's fields: numbers, signed ones, bytes, texts; its length and its bytes. Conditions: fewer than 2^40 bytes. -/
import Derived.Test.YthjjonbkfkpkmaaDoorY01
import Derived.BigQuiet
import Derived.Deep.QuietTactic
namespace Go.Proofs.YthjjonbkfkpkmaaDoor.Fld
open Go.RowKit Gen

set_option maxRecDepth 100000 in
theorem byts_one (w : World) (x : Nat) (hx : x < 256) : Byts (w.alloc (.cells #[.int .u8 (x : Int)] 5)) (some ⟨w.heap.size, 0, none⟩) [x] :=
  ⟨fun b hb => by rw [List.mem_singleton.1 hb]; exact hx, fun j y hj => ⟨w.heap.size, 0, rfl, by
    cases j with
    | zero => simp at hj; subst hj; simp
    | succ j => simp at hj⟩⟩
set_option maxRecDepth 100000 in
theorem byts_one' (w : World) (x : Nat) : Byts (w.alloc (.cells #[.int .u8 ((x : Int) % 256)] 5)) (some ⟨w.heap.size, 0, none⟩) [x % 256] := by
  have := byts_one w (x % 256) (Nat.mod_lt _ (by decide))
  rwa [show (((x % 256 : Nat)) : Int) = (x : Int) % 256 from by omega] at this
set_option maxRecDepth 100000 in
theorem bel_alloc (w : World) (o : Obj) : Below w.heap.size w (w.alloc o) := (Below.refl _ _).alloc (Nat.le_refl _) _

set_option maxRecDepth 100000 in
theorem number_err {w : World} {B p cap F : Nat} {ao : Option Addr} {l : List Nat} (h : MkA w B p ao cap F l) (hF : F ≠ 0) (v n : Nat) (hv : v < 18446744073709551616) (hn : n ≤ 8) :
    Calls Tryd.prog 59 #[.pointer (some ⟨p, 0, none⟩), .int .u64 (v : Int), .int .i64 (n : Int)] w fun e w' => e = .returned (.tuple #[]) ∧ Below w.heap.size w w' := by
  have H := hid h
  have HF := hid hF
  clear h hF
  go_enter Tryd.func59, Tryd.ntmps59
  go_wp2_with fail
  go_loopw [1, 7] (fun x i wr => ∃ (k y : Nat), k ≤ n ∧ i = .int .i64 k ∧ x = .int .u64 (y : Int) ∧ y < 18446744073709551616 ∧ Below w.heap.size w wr) (fun _ i _ => n - (intOf i).toNat)
  case atStart => exact ⟨0, v, Nat.zero_le _, rfl, rfl, hv, Below.refl _ _⟩
  case round =>
    obtain ⟨k, y, hk, rfl, rfl, hy, hb⟩ := hrel
    have HB := hid hb
    clear hb
    by_cases hlt : k < n
    · go_wp2_with fail
      have HB2 := hid (HB.out.alloc HB.out.size (.cells #[.int .u8 ((y : Int) % 256)] 5))
      refine (lay_err (H.out.below HB2.out) HF.out _).mono ?_
      rintro e w1 ⟨rfl, rfl⟩
      generalize wr.alloc (.cells #[.int .u8 ((y : Int) % 256)] 5) = W at HB2 ⊢
      go_wp2_with fail
      go_roundw
      case rel => exact ⟨k + 1, y / 256, by omega, by go_num, congrArg (Value.int .u64) (by omega), by omega, HB2.out⟩
      case measure => simp [intOf]; omega
    · go_wp2_with fail
      go_end0
      exact ⟨rfl, HB.out⟩

set_option maxRecDepth 100000 in
set_option maxHeartbeats 800000 in
theorem number_ok {w : World} {B p cap : Nat} {ao : Option Addr} {l : List Nat} (h : MkA w B p ao cap 0 l) (hB : B ≤ w.heap.size) (v n : Nat) (hv : v < 18446744073709551616) (hn : n ≤ 8) (hlen : l.length ≤ 549755813888) :
    Calls Tryd.prog 59 #[.pointer (some ⟨p, 0, none⟩), .int .u64 (v : Int), .int .i64 (n : Int)] w fun e w' => e = .returned (.tuple #[]) ∧ ∃ ao' cap', MkA w' B p ao' cap' 0 (l ++ le v n) ∧ Psh w w' p ao ao' := by
  have H := hid h
  clear h
  go_enter Tryd.func59, Tryd.ntmps59
  go_wp2_with fail
  go_loopw [1, 7] (fun x i wr => ∃ (k : Nat) (ao' : Option Addr) (cap' : Nat), k ≤ n ∧ i = .int .i64 k ∧ x = .int .u64 ((v / 2 ^ (8 * k) : Nat) : Int) ∧ MkA wr B p ao' cap' 0 (l ++ le v k) ∧ Psh w wr p ao ao') (fun _ i _ => n - (intOf i).toNat)
  case atStart => exact ⟨0, ao, cap, Nat.zero_le _, rfl, by rw [Nat.mul_zero, Nat.pow_zero, Nat.div_one], by rw [le, List.append_nil]; exact H.out, Psh.refl _ _ _⟩
  case round =>
    obtain ⟨k, ao1, cap1, hk, rfl, rfl, hm, hP⟩ := hrel
    have HM := hid hm
    have HP := hid hP
    clear hm hP
    have hnx : v / 2 ^ (8 * k) / 256 = v / 2 ^ (8 * (k + 1)) := by rw [Nat.div_div_eq_div_mul, show 8 * (k + 1) = 8 * k + 8 from by omega, Nat.pow_add]
    have HX := hid hnx
    clear hnx
    have hle : le v (k + 1) = le v k ++ [v / 2 ^ (8 * k) % 256] := rfl
    have HL := hid hle
    clear hle
    have hxl : v / 2 ^ (8 * k) < 18446744073709551616 := Nat.lt_of_le_of_lt (Nat.div_le_self _ _) hv
    by_cases hlt : k < n
    · generalize v / 2 ^ (8 * k) = x at *
      have hll := le_len v k
      have HLL := hid hll
      clear hll
      go_wp2_with fail
      have hb := byts_one' wr x
      refine (lay_ok (HM.out.below (bel_alloc wr _)) hb (fun e => by cases e) (by have := HP.out.fr.size; simp; omega) (by rw [List.length_append, HLL.out]; simp; omega)).mono ?_
      rintro e w1 ⟨rfl, ao2, cap2, hm2, hP2⟩
      have HM2 := hid hm2
      have HP2 := hid ((HP.out.trans (Psh.new (bel_alloc wr _) p ao1)).trans hP2)
      clear hm2 hP2 hb
      go_wp2_with fail
      go_roundw
      case rel => exact ⟨k + 1, ao2, cap2, by omega, by go_num, congrArg (Value.int .u64) (by rw [← HX.out]; omega), by rw [HL.out, ← List.append_assoc]; exact HM2.out, HP2.out⟩
      case measure => simp [intOf]; omega
    · obtain rfl : k = n := by omega
      go_wp2_with fail
      go_end0
      exact ⟨rfl, ao1, cap1, HM.out, HP.out⟩
end Go.Proofs.YthjjonbkfkpkmaaDoor.Fld
namespace Go.Proofs.YthjjonbkfkpkmaaDoor.Fld
open Go.RowKit Gen

/-- What a call makes of a maker: the error that it has, or the bytes that it lays. -/
def put (s : Nat × List Nat) (e : Nat) (m : List Nat) : Nat × List Nat := if s.1 = 0 then (if e = 0 then (0, s.2 ++ m) else (e, [])) else (s.1, [])
def uErr (v : Nat) (n : Int) : Nat := if n < 1 ∨ 8 < n then 1 else if 2 ^ (8 * n.toNat) ≤ v then 3 else 0

/-- What stands behind a call of a maker. -/
def Aft (w : World) (B p : Nat) (ao : Option Addr) (s : Nat × List Nat) (w' : World) : Prop := ∃ ao' cap', MkA w' B p ao' cap' s.1 s.2 ∧ Psh w w' p ao ao'

set_option maxRecDepth 100000 in
theorem put_err {F E : Nat} (l m : List Nat) (hE : E ≠ 0) : put (F, l) E m = (fst F E, []) := by
  unfold put fst
  by_cases h : F = 0
  · simp [h, hE]
  · simp [h]

set_option maxRecDepth 100000 in
set_option maxHeartbeats 800000 in
theorem u_any {w : World} {B p cap F : Nat} {ao : Option Addr} {l : List Nat} (h : MkA w B p ao cap F l) (hB : B ≤ w.heap.size) (v : Nat) (n : Int) (hv : v < 18446744073709551616) (hlen : l.length ≤ 549755813888) :
    Calls Tryd.prog 29 #[.pointer (some ⟨p, 0, none⟩), .int .u64 (v : Int), .int .i64 n] w fun e w' => e = .returned (.tuple #[]) ∧ Aft w B p ao (put (F, l) (uErr v n) (le v n.toNat)) w' := by
  by_cases hn : n < 1 ∨ 8 < n
  · have he : uErr v n = 1 := by unfold uErr; rw [if_pos hn]
    go_enter Tryd.func29, Tryd.ntmps29
    go_wp2_with fail
    refine (width_no n hn _).mono ?_
    rintro e w1 ⟨rfl, rfl⟩
    go_wp2_with fail
    refine (mfail_any h 1).mono ?_
    rintro e w1 ⟨rfl, hm, hP⟩
    have HH := hid (And.intro hm hP)
    clear hm hP h
    go_wp2_with fail
    go_end0
    exact ⟨rfl, by rw [he, put_err _ _ (by decide)]; exact ⟨_, _, HH.out.1, HH.out.2⟩⟩
  · obtain ⟨k, rfl⟩ : ∃ k : Nat, n = k := ⟨n.toNat, by omega⟩
    have hk1 : 1 ≤ k := by omega
    have hk8 : k ≤ 8 := by omega
    go_enter Tryd.func29, Tryd.ntmps29
    go_wp2_with fail
    refine (width_yes k (by omega) (by omega) _).mono ?_
    rintro e w1 ⟨rfl, rfl⟩
    have hs1 : (0 : Int) ≤ 8 * (k : Int) := by omega
    have hs2 : 8 * (k : Int) ≤ 64 := by omega
    by_cases hov : 2 ^ (8 * k) ≤ v
    · have he : uErr v (k : Int) = 3 := by unfold uErr; rw [if_neg hn, Int.toNat_natCast, if_pos hov]
      have ht : ((v : Int) / 2 ^ (8 * k) != 0) = true := by
        rw [bne_iff_ne, show (v : Int) / 2 ^ (8 * k) = ((v / 2 ^ (8 * k) : Nat) : Int) from by push_cast; rfl]
        have := (Nat.le_div_iff_mul_le (Nat.two_pow_pos (8 * k))).2 (by rw [Nat.one_mul]; exact hov)
        omega
      have HE := hid he
      clear he hov
      go_wp2_with fail
      refine (mfail_any h 3).mono ?_
      rintro e w1 ⟨rfl, hm, hP⟩
      have HH := hid (And.intro hm hP)
      clear hm hP h
      go_wp2_with fail
      go_end0
      exact ⟨rfl, by rw [HE.out, put_err _ _ (by decide)]; exact ⟨_, _, HH.out.1, HH.out.2⟩⟩
    · have he : uErr v (k : Int) = 0 := by unfold uErr; rw [if_neg hn, Int.toNat_natCast, if_neg hov]
      have ht : ((v : Int) / 2 ^ (8 * k) != 0) = false := by
        rw [show (v : Int) / 2 ^ (8 * k) = ((v / 2 ^ (8 * k) : Nat) : Int) from by push_cast; rfl, Nat.div_eq_of_lt (by omega)]
        rfl
      have HE := hid he
      clear he hov
      by_cases hF : F = 0
      · subst hF
        go_wp2_with fail
        refine (number_ok h hB v k hv hk8 hlen).mono ?_
        rintro e w1 ⟨rfl, ao', cap', hm, hP⟩
        have HH := hid (And.intro hm hP)
        clear hm hP h
        go_wp2_with fail
        go_end0
        exact ⟨rfl, by rw [HE.out]; exact ⟨ao', cap', HH.out.1, HH.out.2⟩⟩
      · have HF := hid hF
        clear hF
        go_wp2_with fail
        refine (number_err h HF.out v k hv hk8).mono ?_
        rintro e w1 ⟨rfl, hb⟩
        have hm := h.below hb
        rw [h.err HF.out] at hm
        have HH := hid (And.intro hm (Psh.new hb p ao))
        have HL := hid (h.err HF.out)
        clear hm hb h
        go_wp2_with fail
        go_end0
        exact ⟨rfl, by rw [HE.out]; unfold put; rw [if_neg HF.out]; exact ⟨ao, cap, HH.out.1, HH.out.2⟩⟩

def iErr (v n : Int) : Nat := if n < 1 ∨ 8 < n then 1 else if v < -2 ^ (8 * n.toNat - 1) ∨ 2 ^ (8 * n.toNat - 1) ≤ v then 3 else 0
/-- A number's 64 bits. -/
def u64 (v : Int) : Nat := (v % 18446744073709551616).toNat

set_option maxRecDepth 100000 in
theorem u64_lt (v : Int) : u64 v < 18446744073709551616 := by unfold u64; omega
set_option maxRecDepth 100000 in
theorem u64_wrap (v : Int) : IntKind.u64.wrap v = (u64 v : Int) := by
  rw [show IntKind.u64.wrap v = v % 18446744073709551616 from by simp [IntKind.wrap, IntKind.bits, IntKind.signed]]
  unfold u64; omega
set_option maxRecDepth 100000 in
theorem quo_in (v d : Int) (hd : 0 < d) (h : ¬ (v < -d ∨ d ≤ v)) : v / d = 0 ∨ v / d = -1 := by
  by_cases hv : 0 ≤ v
  · exact .inl (Int.ediv_eq_zero_of_lt hv (by omega))
  · have h1 : -1 ≤ v / d := Int.le_ediv_of_mul_le hd (by omega)
    have h2 : v / d < 0 := Int.ediv_neg_of_neg_of_pos (by omega) hd
    omega
set_option maxRecDepth 100000 in
theorem quo_out (v d : Int) (hd : 0 < d) (h : v < -d ∨ d ≤ v) : v / d ≠ 0 ∧ v / d ≠ -1 := by
  rcases h with h | h
  · have h1 : v / d < -1 := Int.ediv_lt_of_lt_mul hd (by omega)
    omega
  · have h1 : 1 ≤ v / d := Int.le_ediv_of_mul_le hd (by omega)
    omega

set_option maxRecDepth 100000 in
/-- The rest of I, where the number fits. -/
theorem i_lay {w : World} {B p cap F : Nat} {ao : Option Addr} {l : List Nat} (h : MkA w B p ao cap F l) (hB : B ≤ w.heap.size) (v k : Nat) (hv : v < 18446744073709551616) (hk8 : k ≤ 8) (hlen : l.length ≤ 549755813888) :
    Calls Tryd.prog 59 #[.pointer (some ⟨p, 0, none⟩), .int .u64 (v : Int), .int .i64 (k : Int)] w fun e w' => e = .returned (.tuple #[]) ∧ Aft w B p ao (put (F, l) 0 (le v k)) w' := by
  by_cases hF : F = 0
  · subst hF
    refine (number_ok h hB v k hv hk8 hlen).mono ?_
    rintro e w1 ⟨rfl, ao', cap', hm, hP⟩
    exact ⟨rfl, ao', cap', hm, hP⟩
  · refine (number_err h hF v k hv hk8).mono ?_
    rintro e w1 ⟨rfl, hb⟩
    have hm := h.below hb
    rw [h.err hF] at hm
    exact ⟨rfl, by unfold put; rw [if_neg hF]; exact ⟨ao, cap, hm, Psh.new hb p ao⟩⟩

end Go.Proofs.YthjjonbkfkpkmaaDoor.Fld
namespace Go.Proofs.YthjjonbkfkpkmaaDoor.Fld
open Go.RowKit Gen

set_option maxRecDepth 100000 in
theorem Aft.trans {w w1 w2 : World} {B p : Nat} {ao : Option Addr} {s1 s2 : Nat × List Nat} (h : Aft w B p ao s1 w1) (h2 : ∀ ao1 cap1, MkA w1 B p ao1 cap1 s1.1 s1.2 → Aft w1 B p ao1 s2 w2) : Aft w B p ao s2 w2 := by
  obtain ⟨ao1, cap1, hm, hP⟩ := h
  obtain ⟨ao2, cap2, hm2, hP2⟩ := h2 ao1 cap1 hm
  exact ⟨ao2, cap2, hm2, hP.trans hP2⟩
set_option maxRecDepth 100000 in
theorem Aft.new {w w1 w2 : World} {B p : Nat} {ao : Option Addr} {s : Nat × List Nat} (hb : Below w.heap.size w w1) (h : Aft w1 B p ao s w2) : Aft w B p ao s w2 := by
  obtain ⟨ao2, cap2, hm2, hP2⟩ := h
  exact ⟨ao2, cap2, hm2, (Psh.new hb p ao).trans hP2⟩
set_option maxRecDepth 100000 in
theorem put_zero (F : Nat) (l m : List Nat) (h : F = 0) : put (F, l) 0 m = (0, l ++ m) := by subst h; rfl
set_option maxRecDepth 100000 in
theorem put_late (F : Nat) (l m : List Nat) (h : F ≠ 0) (e : Nat) : put (F, l) e m = (F, []) := by unfold put; rw [if_neg h]
set_option maxRecDepth 100000 in
theorem put_put (s : Nat × List Nat) (e : Nat) (m n : List Nat) : put (put s e m) 0 n = put s e (m ++ n) := by
  unfold put
  by_cases h : s.1 = 0
  · by_cases he : e = 0
    · simp [h, he]
    · simp [h, he]
  · simp [h]

set_option maxRecDepth 100000 in
theorem raw_any {w : World} {B p cap F : Nat} {ao : Option Addr} {l : List Nat} (h : MkA w B p ao cap F l) {a : Option Addr} {m : List Nat} {c : Nat} (hb : Byts w a m) (hn : a = none → m.length = 0 ∧ c = 0) (hB : B ≤ w.heap.size) (hlen : l.length + m.length ≤ 1099511627776) :
    Calls Tryd.prog 28 #[.pointer (some ⟨p, 0, none⟩), .slice a m.length c] w fun e w' => e = .returned (.tuple #[]) ∧ Aft w B p ao (put (F, l) 0 m) w' := by
  by_cases hF : F = 0
  · subst hF
    go_enter Tryd.func28, Tryd.ntmps28
    go_wp2_with fail
    refine (lay_ok h hb hn hB hlen).mono ?_
    rintro e w1 ⟨rfl, ao', cap', hm, hP⟩
    have HH := hid (And.intro hm hP)
    clear hm hP h hb hn
    go_wp2_with fail
    go_end0
    exact ⟨rfl, ao', cap', HH.out.1, HH.out.2⟩
  · have HF := hid hF
    have HE := hid (h.err hF)
    have H := hid h
    clear hF h
    go_enter Tryd.func28, Tryd.ntmps28
    go_wp2_with fail
    refine (lay_err H.out HF.out _).mono ?_
    rintro e w1 ⟨rfl, rfl⟩
    clear hb hn
    go_wp2_with fail
    go_end0
    refine ⟨rfl, ?_⟩
    rw [put_late _ _ _ HF.out]
    have := H.out
    rw [HE.out] at this
    exact ⟨ao, cap, this, Psh.refl _ _ _⟩

set_option maxRecDepth 100000 in
theorem put_len (s : Nat × List Nat) (e : Nat) (m : List Nat) : (put s e m).2.length ≤ s.2.length + m.length := by
  unfold put
  split
  · split
    · simp
    · simp
  · simp

set_option maxRecDepth 100000 in
set_option maxHeartbeats 800000 in
theorem text_any {w : World} {B p cap F : Nat} {ao : Option Addr} {l : List Nat} (h : MkA w B p ao cap F l) (hB : B ≤ w.heap.size) (s : ByteArray) (n : Int) (hs : s.size ≤ 274877906944) (hlen : l.length ≤ 274877906944) :
    Calls Tryd.prog 33 #[.pointer (some ⟨p, 0, none⟩), .string s, .int .i64 n] w fun e w' => e = .returned (.tuple #[]) ∧ Aft w B p ao (put (F, l) (uErr s.size n) (le s.size n.toNat ++ sb s)) w' := by
  have hcv := fun W => conv_string W s
  go_enter Tryd.func33, Tryd.ntmps33
  go_wp2_with fail
  refine (u_any h hB s.size n (by omega) (by omega)).mono ?_
  rintro e w1 ⟨rfl, ao1, cap1, hm, hP⟩
  have hz := hP.fr.size
  have hb := byts_of_string w1 s
  have hbl := below_string w1 s
  have hm2 := hm.below hbl
  have hl2 := put_len (F, l) (uErr s.size n) (le s.size n.toNat)
  have hle := le_len s.size n.toNat
  have HX : RowKit.Hid ((put (F, l) (uErr s.size n) (le s.size n.toNat)).2.length ≤ 274877906944 + 8) := by
    show _ ≤ _
    unfold put
    by_cases hn : n < 1 ∨ 8 < n
    · have he : uErr s.size n = 1 := by unfold uErr; rw [if_pos hn]
      rw [he]; split <;> simp
    · split
      · split
        · rw [List.length_append, hle]; show l.length + _ ≤ _; omega
        · simp
      · simp
  have HP := hid (hP.trans (Psh.new hbl p ao1))
  have HM := hid hm2
  have HZ := hid hz
  have HBL := hid hbl.size
  have HB := hid hb
  clear hm hP hz hb hbl hm2 hl2 hle h
  go_wp2_with fail
  generalize Lib.bytesWorld w1 5 s = W at HP HM HBL HB ⊢
  rw [← sb_len s]
  refine (raw_any HM.out HB.out (fun e => by cases e) (by have := HZ.out; have := HBL.out; omega) (by rw [sb_len]; have := HX.out; omega)).mono ?_
  rintro e w2 ⟨rfl, ha⟩
  have HA := hid ha
  clear ha HM HB HX
  go_wp2_with fail
  go_end0
  refine ⟨rfl, ?_⟩
  obtain ⟨ao2, cap2, hm2, hP2⟩ := HA.out
  rw [show ((put (F, l) (uErr s.size n) (le s.size n.toNat)).1, (put (F, l) (uErr s.size n) (le s.size n.toNat)).2) = put (F, l) (uErr s.size n) (le s.size n.toNat) from rfl, put_put] at hm2
  exact ⟨ao2, cap2, hm2, HP.out.trans hP2⟩

set_option maxRecDepth 100000 in
set_option maxHeartbeats 800000 in
theorem clone_any {w : World} {a : Option Addr} {l : List Nat} {c : Nat} (hb : Byts w a l) (hn : a = none → l.length = 0 ∧ c = 0) (hlen : l.length ≤ 1099511627776) :
    Calls Tryd.prog 60 #[.slice a l.length c] w fun e w' => ∃ ao cap, e = .returned (.slice ao l.length cap) ∧ w'.ownsRow w.heap.size 5 1 (.slice ao l.length cap) l.length (bl l) ∧ Below w.heap.size w w' := by
  cases a with
  | none =>
    obtain ⟨h1, rfl⟩ := hn rfl
    have hl : l = [] := hb.none_len rfl
    subst hl
    have he := fun w => eql_nil w none 0 0
    go_enter Tryd.func60, Tryd.ntmps60
    go_wp2_with fail
    go_ret
    exact ⟨none, 0, rfl, World.ownsRow_nil _ _ _ _, Below.refl _ _⟩
  | some ad =>
    obtain ⟨i0, hi, hz0, hz1, hz2⟩ := info_parts Tryd.info5
    have he := fun w => eql_nil w (some ad) l.length c
    have hown := World.ownsRow_made (base := w.heap.size) (e := 5) (size := 1) w #[] 0 (Nat.le_refl _) (by unfold maxLen; omega) rfl
    have hB : Byts (w.alloc (.cells #[] 5)) (some ad) l := hb.keep ((Below.refl _ _).alloc (Nat.le_refl _) _)
    have HO := hid hown
    have HB := hid hB
    clear hown hB hb hn
    go_enter Tryd.func60, Tryd.ntmps60
    go_wp2_with (at_builtin; (refine (wpList_append_list (w.alloc (.cells #[] 5)) (by rfl) _ _ _ (by rfl) w.heap.size 5 i0 _ 1 Tryd.underlying28 hi hz0 hz1 hz2 rfl (some ⟨w.heap.size, 0, none⟩) 0 0 [] (by rfl) HO.out (some ad) l.length c (bl l) (by rfl) (bl_len _) (fun e => by cases e) HB.out.cells (bl_one _) (by unfold maxLen; omega) (by omega) (by simp) ?_)))
    intro ao' cap' w1 hown1 hg _
    have hO1 : w1.ownsRow w.heap.size 5 1 (.slice ao' l.length cap') l.length (bl l) := by simpa using hown1
    have hbel : Below w.heap.size w w1 := ((Below.refl _ _).alloc (Nat.le_refl _) (.cells #[] 5)).trans ⟨hg.os, hg.tape, hg.output, hg.size, fun k hk => hg.block k (by simp; omega) (by simp [blk]; omega)⟩
    have H := hid (And.intro hO1 hbel)
    clear hown1 hg hO1 hbel HO HB
    go_wp2_with fail
    go_ret
    exact ⟨ao', cap', by simp, H.out.1, H.out.2⟩

set_option maxRecDepth 100000 in
theorem mbytes_nil (w : World) : Calls Tryd.prog 30 #[.pointer none] w fun e w' => e = .returned (.tuple #[.slice none 0 0, .int .i64 2]) ∧ w = w' := by
  go_enter Tryd.func30, Tryd.ntmps30
  go_wp2_with fail
  go_ret2
  exact ⟨rfl, rfl⟩
set_option maxRecDepth 100000 in
theorem mbytes_err {w : World} {B p cap F : Nat} {ao : Option Addr} {l : List Nat} (h : MkA w B p ao cap F l) (hF : F ≠ 0) :
    Calls Tryd.prog 30 #[.pointer (some ⟨p, 0, none⟩)] w fun e w' => e = .returned (.tuple #[.slice none 0 0, .int .i64 (F : Int)]) ∧ ∃ nq, w' = w.drewN nq := by
  have c0 := h.c0
  have h0 : ((F : Int) != 0) = true := by rw [bne_iff_ne]; omega
  clear h
  go_enter Tryd.func30, Tryd.ntmps30
  go_wp2_with fail
  go_quiet (fail)
  go_wp2_with fail
  go_ret2
  exact ⟨rfl, _, rfl⟩
set_option maxRecDepth 100000 in
theorem mbytes_ok {w : World} {B p cap : Nat} {ao : Option Addr} {l : List Nat} (h : MkA w B p ao cap 0 l) (hlen : l.length ≤ 1099511627776) :
    Calls Tryd.prog 30 #[.pointer (some ⟨p, 0, none⟩)] w fun e w' => ∃ ao' cap', e = .returned (.tuple #[.slice ao' l.length cap', .int .i64 0]) ∧ w'.ownsRow w.heap.size 5 1 (.slice ao' l.length cap') l.length (bl l) ∧ Below w.heap.size w w' := by
  have c0 := h.c0; have c1 := h.c1
  have hb := h.bytes
  have hn : ao = none → l.length = 0 ∧ cap = 0 := fun e => by
    rcases ownsRow_at h.own with ⟨_, h1, h2, _⟩ | ⟨g, h1⟩
    · exact ⟨h1, h2⟩
    · rw [e] at h1; cases h1
  have HN := hid hn
  clear h hn
  go_enter Tryd.func30, Tryd.ntmps30
  go_wp2_with fail
  refine (clone_any hb HN.out hlen).mono ?_
  rintro e w1 ⟨ao', cap', rfl, hown, hbel⟩
  have HH := hid (And.intro hown hbel)
  clear hown hbel c0 c1 hb
  go_wp2_with fail
  go_ret2
  exact ⟨ao', cap', rfl, HH.out.1, HH.out.2⟩
end Go.Proofs.YthjjonbkfkpkmaaDoor.Fld
namespace Go.Proofs.YthjjonbkfkpkmaaDoor.Fld
open Go.RowKit Gen

/-- A taker at block q: its first error F, what is left l, how many were taken. -/
structure TkA (w : World) (q : Nat) (a : Option Addr) (cap F : Nat) (l : List Nat) (pos : Nat) : Prop where
  c0 : w.cell? ⟨q, 0, none⟩ = some (.int .i64 (F : Int))
  c1 : w.cell? ⟨q, 1, none⟩ = some (.slice a l.length cap)
  c2 : w.cell? ⟨q, 2, none⟩ = some (.int .i64 (pos : Int))
  f0 : w.frozen? ⟨q, 0, none⟩ = false
  f1 : w.frozen? ⟨q, 1, none⟩ = false
  f2 : w.frozen? ⟨q, 2, none⟩ = false
  bytes : Byts w a l
  spot : ∀ ad, a = some ad → ∃ b off, ad = ⟨b, off, none⟩ ∧ b < q ∧ b < w.heap.size
  room : l.length ≤ cap
  none : a = none → cap = 0
  err : F ≠ 0 → l = []

set_option maxRecDepth 100000 in
theorem TkA.lt {w : World} {q cap F pos : Nat} {a : Option Addr} {l : List Nat} (h : TkA w q a cap F l pos) : q < w.heap.size := World.block_lt_of_cell? w _ h.c0
set_option maxRecDepth 100000 in
theorem TkA.keep {w w' : World} {q cap F pos : Nat} {a : Option Addr} {l : List Nat} (h : TkA w q a cap F l pos) {X : Nat → Prop} (hf : Fr X w w') (hq : ¬ X q) (ha : ∀ b off, a = some ⟨b, off, .none⟩ → ¬ X b) : TkA w' q a cap F l pos :=
  ⟨(hf.cell (p := ⟨q, 0, .none⟩) h.lt hq).trans h.c0, (hf.cell (p := ⟨q, 1, .none⟩) h.lt hq).trans h.c1, (hf.cell (p := ⟨q, 2, .none⟩) h.lt hq).trans h.c2,
    (hf.frozen (p := ⟨q, 0, .none⟩) h.lt hq).trans h.f0, (hf.frozen (p := ⟨q, 1, .none⟩) h.lt hq).trans h.f1, (hf.frozen (p := ⟨q, 2, .none⟩) h.lt hq).trans h.f2,
    h.bytes.stay hf ha, fun ad e => by
      obtain ⟨b, off, e1, e2, e3⟩ := h.spot ad e
      exact ⟨b, off, e1, e2, Nat.lt_of_lt_of_le e3 hf.size⟩, h.room, h.none, h.err⟩
set_option maxRecDepth 100000 in
theorem TkA.below {w w' : World} {q cap F pos : Nat} {a : Option Addr} {l : List Nat} (h : TkA w q a cap F l pos) (hb : Below w.heap.size w w') : TkA w' q a cap F l pos :=
  h.keep (X := fun k => w.heap.size ≤ k) ⟨hb.os, hb.tape, hb.output, hb.size, fun k hk _ => hb.block k hk⟩ (by have := h.lt; omega) (fun b off e => by
    obtain ⟨b', off', e1, e2, e3⟩ := h.spot _ e
    cases e1; omega)
set_option maxRecDepth 100000 in
theorem TkA.drewN {w : World} {q cap F pos : Nat} {a : Option Addr} {l : List Nat} (h : TkA w q a cap F l pos) (n : Nat) : TkA (w.drewN n) q a cap F l pos := h.below ⟨rfl, rfl, rfl, Nat.le_refl _, fun _ _ => rfl⟩

set_option maxRecDepth 100000 in
/-- A taker behind a store of an error and of nothing left. -/
theorem TkA.stop {w : World} {q cap F pos : Nat} {a : Option Addr} {l : List Nat} (h : TkA w q a cap F l pos) : TkA (w.setCell ⟨q, 1, .none⟩ (.slice .none 0 0)) q .none 0 F [] pos := by
  refine ⟨?_, ?_, ?_, ?_, ?_, ?_, Byts.nil _ _, fun ad e => (by cases e), Nat.le_refl _, fun _ => rfl, fun _ => rfl⟩
  · rw [World.cell?_setCell_other _ _ _ _ (by intro e; simp at e)]; exact h.c0
  · exact World.cell?_setCell_same _ _ _ (by rw [h.c1])
  · rw [World.cell?_setCell_other _ _ _ _ (by intro e; simp at e)]; exact h.c2
  · simp [h.f0]
  · simp [h.f1]
  · simp [h.f2]
set_option maxRecDepth 100000 in
theorem TkA.setF {w : World} {q cap F pos : Nat} {a : Option Addr} {l : List Nat} (h : TkA w q a cap F l pos) (E : Nat) (hl : l = []) : TkA (w.setCell ⟨q, 0, .none⟩ (.int .i64 (E : Int))) q a cap E l pos := by
  refine ⟨?_, ?_, ?_, ?_, ?_, ?_, ?_, ?_, h.room, h.none, fun _ => hl⟩
  · exact World.cell?_setCell_same _ _ _ (by rw [h.c0])
  · rw [World.cell?_setCell_other _ _ _ _ (by intro e; simp at e)]; exact h.c1
  · rw [World.cell?_setCell_other _ _ _ _ (by intro e; simp at e)]; exact h.c2
  · simp [h.f0]
  · simp [h.f1]
  · simp [h.f2]
  · rw [hl]; exact Byts.nil _ _
  · intro ad e
    obtain ⟨b, off, e1, e2, e3⟩ := h.spot ad e
    exact ⟨b, off, e1, e2, by simpa [World.setCell] using e3⟩
set_option maxRecDepth 100000 in
theorem TkA.setPos {w : World} {q cap F pos : Nat} {a : Option Addr} {l : List Nat} (h : TkA w q a cap F l pos) (pos' : Nat) : TkA (w.setCell ⟨q, 2, .none⟩ (.int .i64 (pos' : Int))) q a cap F l pos' := by
  refine ⟨?_, ?_, ?_, ?_, ?_, ?_, ?_, ?_, h.room, h.none, h.err⟩
  · rw [World.cell?_setCell_other _ _ _ _ (by intro e; simp at e)]; exact h.c0
  · rw [World.cell?_setCell_other _ _ _ _ (by intro e; simp at e)]; exact h.c1
  · exact World.cell?_setCell_same _ _ _ (by rw [h.c2])
  · simp [h.f0]
  · simp [h.f1]
  · simp [h.f2]
  · exact h.bytes.stay (X := fun b => b = q) ((Fr.refl (fun b => b = q) _).setCell (p := ⟨q, 2, .none⟩) rfl _) (fun b off e e2 => by
      obtain ⟨b', off', e1, e3, _⟩ := h.spot _ e
      cases e1; exact Nat.ne_of_lt e3 e2)
  · intro ad e
    obtain ⟨b, off, e1, e2, e3⟩ := h.spot ad e
    exact ⟨b, off, e1, e2, by simpa [World.setCell] using e3⟩
set_option maxRecDepth 100000 in
theorem TkA.setLeft {w : World} {q cap F pos : Nat} {a : Option Addr} {l : List Nat} (h : TkA w q a cap F l pos) (a' : Option Addr) (cap' : Nat) (l' : List Nat) (hb : Byts w a' l')
    (hs : ∀ ad, a' = some ad → ∃ b off, ad = ⟨b, off, .none⟩ ∧ b < q ∧ b < w.heap.size) (hr : l'.length ≤ cap') (hn : a' = .none → cap' = 0) (he : F ≠ 0 → l' = []) :
    TkA (w.setCell ⟨q, 1, .none⟩ (.slice a' l'.length cap')) q a' cap' F l' pos := by
  refine ⟨?_, ?_, ?_, ?_, ?_, ?_, ?_, ?_, hr, hn, he⟩
  · rw [World.cell?_setCell_other _ _ _ _ (by intro e; simp at e)]; exact h.c0
  · exact World.cell?_setCell_same _ _ _ (by rw [h.c1])
  · rw [World.cell?_setCell_other _ _ _ _ (by intro e; simp at e)]; exact h.c2
  · simp [h.f0]
  · simp [h.f1]
  · simp [h.f2]
  · exact hb.stay (X := fun b => b = q) ((Fr.refl (fun b => b = q) _).setCell (p := ⟨q, 1, .none⟩) rfl _) (fun b off e e2 => by
      obtain ⟨b', off', e1, e3, _⟩ := hs _ e
      cases e1; exact Nat.ne_of_lt e3 e2)
  · intro ad e
    obtain ⟨b, off, e1, e2, e3⟩ := hs ad e
    exact ⟨b, off, e1, e2, by simpa [World.setCell] using e3⟩

set_option maxRecDepth 100000 in
theorem frq {w : World} {q : Nat} (off : Nat) (u : Value) : Fr (fun b => b = q) w (w.setCell ⟨q, off, .none⟩ u) := (Fr.refl (fun b => b = q) _).setCell (p := ⟨q, off, .none⟩) rfl u

set_option maxRecDepth 100000 in
theorem tfail_nil (E : Value) (w : World) : Calls Tryd.prog 74 #[.pointer none, E] w fun e w' => e = .returned (.tuple #[]) ∧ w = w' := by
  go_enter Tryd.func74, Tryd.ntmps74
  go_wp2_with fail
  go_end0
  exact ⟨rfl, rfl⟩
set_option maxRecDepth 100000 in
theorem tfail_any {w : World} {q cap F pos : Nat} {a : Option Addr} {l : List Nat} (h : TkA w q a cap F l pos) (E : Nat) :
    Calls Tryd.prog 74 #[.pointer (some ⟨q, 0, none⟩), .int .i64 (E : Int)] w fun e w' => e = .returned (.tuple #[]) ∧ TkA w' q none 0 (fst F E) [] pos ∧ Fr (fun b => b = q) w w' := by
  have H := hid h
  have c0 := h.c0; have c1 := h.c1; have f0 := h.f0; have f1 := h.f1
  clear h
  by_cases hF : F = 0
  · subst hF
    have d1 : (w.setCell ⟨q, 0, none⟩ (.int .i64 (E : Int))).cell? ⟨q, 1, none⟩ = some (.slice a l.length cap) := by
      rw [World.cell?_setCell_other _ _ _ _ (by intro e; simp at e)]; exact c1
    have d2 : (w.setCell ⟨q, 0, none⟩ (.int .i64 (E : Int))).frozen? ⟨q, 1, none⟩ = false := by simp [f1]
    go_enter Tryd.func74, Tryd.ntmps74
    go_wp2_with fail
    refine (note_first c0 f0 _).mono ?_
    rintro e w1 ⟨rfl, rfl⟩
    clear c0 c1 f0 f1
    go_wp2_with fail
    go_end0
    refine ⟨rfl, ?_, (frq 0 _).trans (frq 1 _)⟩
    have h1 := H.out
    refine ⟨?_, ?_, ?_, ?_, ?_, ?_, Byts.nil _ _, fun ad e => (by cases e), Nat.le_refl _, fun _ => rfl, fun _ => rfl⟩
    · rw [World.cell?_setCell_other _ _ _ _ (by intro e; simp at e)]; exact World.cell?_setCell_same _ _ _ (by rw [h1.c0])
    · exact World.cell?_setCell_same _ _ _ (by rw [d1])
    · rw [World.cell?_setCell_other _ _ _ _ (by intro e; simp at e), World.cell?_setCell_other _ _ _ _ (by intro e; simp at e)]; exact h1.c2
    · simp [h1.f0]
    · simp [h1.f1]
    · simp [h1.f2]
  · have hF' : (F : Int) ≠ 0 := by omega
    go_enter Tryd.func74, Tryd.ntmps74
    go_wp2_with fail
    refine (note_later c0 hF' _).mono ?_
    rintro e w1 ⟨rfl, rfl⟩
    clear hF'
    go_wp2_with fail
    go_end0
    exact ⟨rfl, by unfold fst; rw [if_neg hF]; exact H.out.stop, frq 1 _⟩

set_option maxRecDepth 100000 in
theorem next_nil (n : Value) (w : World) : Calls Tryd.prog 75 #[.pointer none, n] w fun e w' => e = .returned (.slice none 0 0) ∧ w = w' := by
  go_enter Tryd.func75, Tryd.ntmps75
  go_wp2_with fail
  go_ret
  exact ⟨rfl, rfl⟩
set_option maxRecDepth 100000 in
theorem next_end {w : World} {q cap F pos : Nat} {a : Option Addr} {l : List Nat} (h : TkA w q a cap F l pos) (n : Int) (hn : (l.length : Int) < n) :
    Calls Tryd.prog 75 #[.pointer (some ⟨q, 0, none⟩), .int .i64 n] w fun e w' => e = .returned (.slice none 0 0) ∧ TkA w' q none 0 (fst F 10) [] pos ∧ Fr (fun b => b = q) w w' := by
  have c1 := h.c1
  go_enter Tryd.func75, Tryd.ntmps75
  go_wp2_with fail
  refine (tfail_any h 10).mono ?_
  rintro e w1 ⟨rfl, ht, hf⟩
  have HH := hid (And.intro ht hf)
  clear ht hf h c1
  go_wp2_with fail
  go_ret
  exact ⟨rfl, HH.out.1, HH.out.2⟩
/-- What taking n bytes leaves. -/
def NextPost (w : World) (q : Nat) (a : Option Addr) (cap F : Nat) (l : List Nat) (pos n : Nat) (e : Ending) (w' : World) : Prop :=
  e = .returned (.slice a n cap) ∧ (∃ a' cap', TkA w' q a' cap' F (l.drop n) (pos + n) ∧ cap' ≤ cap) ∧ Fr (fun b => b = q) w w'
set_option maxRecDepth 100000 in
set_option maxHeartbeats 800000 in
theorem next_ok {w : World} {q cap F pos : Nat} {a : Option Addr} {l : List Nat} (h : TkA w q a cap F l pos) (n : Nat) (hn : n ≤ l.length) (hc : cap ≤ 9223372036854775807) (hp : pos + n ≤ 1099511627776) :
    Calls Tryd.prog 75 #[.pointer (some ⟨q, 0, none⟩), .int .i64 (n : Int)] w (NextPost w q a cap F l pos n) := by
  have H := hid h
  have c1 := h.c1; have c2 := h.c2; have f1 := h.f1; have f2 := h.f2
  have hr := h.room
  have hnn := h.none
  have hsp := h.spot
  clear h
  cases a with
  | none =>
    obtain rfl : cap = 0 := hnn rfl
    obtain rfl : l = [] := List.eq_nil_of_length_eq_zero (by omega)
    obtain rfl : n = 0 := by simpa using hn
    go_enter Tryd.func75, Tryd.ntmps75
    go_wp2_with fail
    go_ret
    refine ⟨rfl, ⟨none, 0, ?_, Nat.le_refl _⟩, (frq 1 _).trans (frq 2 _)⟩
    have h1 := H.out.setLeft none 0 [] (Byts.nil _ _) (fun ad e => by cases e) (Nat.le_refl _) (fun _ => rfl) (fun _ => rfl)
    exact h1.setPos (pos + 0)
  | some ad =>
    obtain ⟨b, off, rfl, hne, hbl⟩ := hsp ad rfl
    have h1 : (n : Int) ≤ (l.length : Int) := by omega
    have h2 : ¬ (l.length : Int) < (n : Int) := by omega
    have HE := hid H.out.err
    clear hsp hnn
    by_cases hcn : cap = n
    · subst hcn
      have hll : l.length = cap := by omega
      have HL := hid hll
      clear hll
      go_enter Tryd.func75, Tryd.ntmps75
      go_wp2_with fail
      go_ret
      refine ⟨rfl, ⟨some ⟨b, off, none⟩, 0, ?_, Nat.zero_le _⟩, (frq 1 _).trans (frq 2 _)⟩
      have hd : l.drop cap = [] := List.drop_eq_nil_of_le (by rw [HL.out]; exact Nat.le_refl _)
      rw [hd]
      have h3 := H.out.setLeft (some ⟨b, off, none⟩) 0 [] (Byts.nil _ _) (fun ad e => by cases e; exact ⟨b, off, rfl, hne, hbl⟩) (Nat.le_refl _) (fun e => by cases e) (fun _ => rfl)
      have h4 := h3.setPos (pos + cap)
      rw [show (((pos + cap : Nat)) : Int) = (pos : Int) + (cap : Int) from by omega] at h4
      exact h4
    · have HC := hid hcn
      go_enter Tryd.func75, Tryd.ntmps75
      go_wp2_with fail
      go_ret
      refine ⟨rfl, ⟨some ⟨b, off + n, none⟩, cap - n, ?_, Nat.sub_le _ _⟩, (frq 1 _).trans (frq 2 _)⟩
      have h3 := H.out.setLeft (some ⟨b, off + n, none⟩) (cap - n) (l.drop n) (H.out.bytes.drop n) (fun ad e => by cases e; exact ⟨b, off + n, rfl, hne, hbl⟩) (by rw [List.length_drop]; omega) (fun e => by cases e) (fun e => by rw [HE.out e]; simp)
      have h4 := h3.setPos (pos + n)
      rw [show (((pos + n : Nat)) : Int) = (pos : Int) + (n : Int) from by omega, List.length_drop] at h4
      exact h4
end Go.Proofs.YthjjonbkfkpkmaaDoor.Fld
