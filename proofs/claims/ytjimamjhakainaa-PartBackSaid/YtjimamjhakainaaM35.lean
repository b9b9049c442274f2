/- Two writers and a list of bits side by side in memory, and what PutAll, Put, Code, Len, Bytes and the document's Bytes leave of them. Conditions: fewer than 2^39 bits in each. -/
import Derived.Test.YtjimamjhakainaaSAdd
import Derived.Test.YtjimamjhakainaaM10
import Derived.Test.YtjimamjhakainaaM34
import Derived.Test.YtjimamjhakainaaM17
namespace Go.Proofs.Ytjimamjhakainaa.Rice
open Go.RowKit Bit

theorem cod_lt {u k : Nat} (hk : k ≤ 30) (hu : coded u) : cod u k < 2 ^ cost u (k : Int) := by
  by_cases h : u / 2 ^ k < 24
  · rw [cost_low hk hu h, show cod u k = (2 ^ (u / 2 ^ k) - 1) * 2 ^ (k + 1) + u % 2 ^ k from if_pos h]
    have h1 : u % 2 ^ k < 2 ^ k := Nat.mod_lt _ (Nat.two_pow_pos k)
    have h2 : 2 ^ (u / 2 ^ k + 1 + k) = 2 ^ (u / 2 ^ k) * 2 ^ (k + 1) := by rw [← Nat.pow_add]; congr 1; omega
    have h3 : 2 ^ (k + 1) = 2 * 2 ^ k := by rw [Nat.pow_succ, Nat.mul_comm]
    have h4 := Nat.two_pow_pos (u / 2 ^ k)
    generalize 2 ^ (u / 2 ^ k) = x at *
    obtain ⟨y, rfl⟩ : ∃ y, x = y + 1 := ⟨x - 1, by omega⟩
    rw [h2, Nat.add_sub_cancel, Nat.add_mul]
    omega
  · rw [cost_high hk hu h, show cod u k = (2 ^ 24 - 1) * 2 ^ 40 + u from if_neg h]
    unfold coded at hu
    omega
theorem codI_lt (u : Nat) (k : Int) : codI u k < 2 ^ cost u k := by
  by_cases h : okK k ∧ coded u
  · obtain ⟨n, rfl⟩ := Int.eq_ofNat_of_zero_le h.1.1
    rw [show codI u n = cod u n from if_pos h]
    exact cod_lt (by have := h.1.2; omega) h.2
  · rw [show codI u k = 0 from if_neg h]; exact Nat.two_pow_pos _

/-- Two writers, the first blocks from w on, and a list of bits. -/
def Tri (w wr : World) (v : Value) (y z c : Nat × Nat) : Prop := ∃ (wo : Option Addr) (wcap : Nat) (xo : Option Addr) (xcap : Nat) (lo : Option Addr) (lcap : Nat), v = .slice lo c.2 lcap ∧
  WrN wr w.heap.size w.heap.size 0 wo wcap y.1 y.2 ∧ WrN wr w.heap.size (w.heap.size + 1) 0 xo xcap z.1 z.2 ∧ Sep w.heap.size wo (w.heap.size + 1) xo ∧ Lst wr w.heap.size lo lcap c.1 c.2 ∧
  (∀ g, blk lo = some g → g ≠ w.heap.size ∧ g ≠ w.heap.size + 1 ∧ blk wo ≠ some g ∧ blk xo ≠ some g) ∧ Below w.heap.size w wr

theorem Tri.below {w wr : World} {v : Value} {y z c : Nat × Nat} (h : Tri w wr v y z c) : Below w.heap.size w wr := by obtain ⟨_, _, _, _, _, _, _, _, _, _, _, _, hb⟩ := h; exact hb
theorem Tri.slice {w wr : World} {v : Value} {y z c : Nat × Nat} (h : Tri w wr v y z c) : ∃ lo lcap, v = .slice lo c.2 lcap := by obtain ⟨_, _, _, _, lo, lcap, e, _⟩ := h; exact ⟨lo, lcap, e⟩
theorem Tri.upto {w wr w' : World} {v : Value} {y z c : Nat × Nat} (h : Tri w wr v y z c) (hb : Below wr.heap.size wr w') : Tri w w' v y z c := by
  obtain ⟨wo, wcap, xo, xcap, lo, lcap, rfl, hw, hx, hs, hl, hd, hb0⟩ := h
  have hf : Fr (fun _ => False) wr w' := ⟨hb.os, hb.tape, hb.output, hb.size, fun k hk _ => hb.block k hk⟩
  exact ⟨wo, wcap, xo, xcap, lo, lcap, rfl, Wr.keep hw hf (fun x => x) (fun _ _ x => x), Wr.keep hx hf (fun x => x) (fun _ _ x => x), hs, hl.fr hf (fun _ _ x => x), hd, hb0.trans (hb.mono hb0.size)⟩
theorem Tri.drewN {w wr : World} {v : Value} {y z c : Nat × Nat} (h : Tri w wr v y z c) (n : Nat) : Tri w (wr.drewN n) v y z c := h.upto ⟨rfl, rfl, rfl, Nat.le_refl _, fun _ _ => rfl⟩
theorem Tri.drew {w wr : World} {v : Value} {y z c : Nat × Nat} (h : Tri w wr v y z c) : Tri w wr.drew v y z c := h.upto ⟨rfl, rfl, rfl, Nat.le_refl _, fun _ _ => rfl⟩

theorem tri_start (w : World) (t : TypeId) : Tri w ((w.alloc (.cells #[.slice none 0 0, .int .u64 0, .int .i64 0] t)).alloc (.cells #[.slice none 0 0, .int .u64 0, .int .i64 0] t)) (.slice none 0 0) (0, 0) (0, 0) (0, 0) := by
  have h1 := Wr.alloc (new_writer' w t w.heap.size (Nat.le_refl _)) (.cells #[.slice none 0 0, .int .u64 0, .int .i64 0] t)
  have h2 := new_writer' (w.alloc (.cells #[.slice none 0 0, .int .u64 0, .int .i64 0] t)) t w.heap.size (by simp)
  have e : (w.alloc (.cells #[.slice none 0 0, .int .u64 0, .int .i64 0] t)).heap.size = w.heap.size + 1 := by simp
  rw [e] at h2
  exact ⟨none, 0, none, 0, none, 0, rfl, h1, h2, ⟨by omega, by simp [blk], by simp [blk], fun g hg => by simp [blk] at hg⟩, World.ownsRow_nil _ _ _ _, fun g hg => by simp [blk] at hg, ((Below.refl _ _).alloc (Nat.le_refl _) _).alloc (by simp) _⟩

theorem sep_lst {wr w' : World} {p : Nat} {ao ao' : Option Addr} {k : Nat} (hp : Pushed wr w' p ao ao' k) {lo : Option Addr} {lcap N L B : Nat} (hl : Lst wr B lo lcap N L) (h1 : ∀ g, blk lo = some g → g ≠ p ∧ blk ao ≠ some g) :
    Lst w' B lo lcap N L ∧ ∀ g, blk lo = some g → blk ao' ≠ some g := by
  refine ⟨hl.fr hp.fr fun g hg e => e.elim (h1 g hg).1 (h1 g hg).2, fun g hg e => ?_⟩
  rcases hp.at_ with e1 | e1
  · exact (h1 g hg).2 (e1 ▸ e)
  · have := e1 g e; have := (hl.lt g hg).2; omega

theorem wrote_below {w wr w' : World} {p : Nat} {ao ao' : Option Addr} {k : Nat} {cap N L : Nat} (hb : Below w.heap.size w wr) (hw : WrN wr w.heap.size p 0 ao cap N L) (hp : Pushed wr w' p ao ao' k) : Below w.heap.size w w' :=
  hb.trans (pushed_below hp hw.base (fun g hg => (Wr.rlt hw g hg).1) hb.size)

theorem putall_w {w wr : World} {v : Value} {y z c : Nat × Nat} (h : Tri w wr v y z c) (a : Option Addr) (len cap b off : Nat) (U : Nat → Nat) (k : Nat) (hk : k ≤ 30) (hU : Us w a len b off U) (hr : allC U len) (hL : y.2 ≤ 3000000000000) (hlen : len ≤ 1048576) :
    Calls Try.prog 76 #[.pointer (some ⟨w.heap.size, 0, none⟩), .slice a len cap, .int .i64 (k : Int)] wr fun e w' => e = .returned (.int .i64 0) ∧ Tri w w' v (cods U k y.1 y.2 len) z c := by
  obtain ⟨wo, wcap, xo, xcap, lo, lcap, rfl, hw, hx, hs, hl, hd, hb0⟩ := h
  refine (putall_ok w.heap.size w.heap.size 0 a len cap b off U k hk wo wcap y.1 y.2 wr hw (hU.below hb0 hU.lt) (fun h0 => ⟨by have := hU.lt h0; omega, fun e => by have := hU.lt h0; have := (Wr.rlt hw b e).1; omega⟩) hr hL hlen).mono ?_
  rintro e w' ⟨rfl, wo', wcap', hw', hp'⟩
  obtain ⟨hx', hs'⟩ := hp'.other hx hs
  obtain ⟨hl', hd'⟩ := sep_lst hp' hl fun g hg => ⟨(hd g hg).1, (hd g hg).2.2.1⟩
  exact ⟨rfl, wo', wcap', xo, xcap, lo, lcap, rfl, hw', hx', hs', hl', fun g hg => ⟨(hd g hg).1, (hd g hg).2.1, hd' g hg, (hd g hg).2.2.2⟩, wrote_below hb0 hw hp'⟩

def pe (u : Nat) (k : Int) : Int := if okK k then (if coded u then 0 else 3) else 1
theorem put_x {w wr : World} {v : Value} {y z c : Nat × Nat} (h : Tri w wr v y z c) (u : Nat) (hu : u < 18446744073709551616) (k : Int) (hL : z.2 ≤ 3000000000000) :
    Calls Try.prog 109 #[.pointer (some ⟨w.heap.size + 1, 0, none⟩), .int .u64 (u : Int), .int .i64 k] wr fun e w' => e = .returned (.int .i64 (pe u k)) ∧ Tri w w' v y (z.1 * 2 ^ cost u k + codI u k, z.2 + cost u k) c := by
  have same : ¬ (okK k ∧ coded u) → (z.1 * 2 ^ cost u k + codI u k, z.2 + cost u k) = z := fun hn => by
    rw [cost_no hn, show codI u k = 0 from if_neg hn, Nat.pow_zero, Nat.mul_one]; rfl
  by_cases h0 : okK k
  · by_cases h1 : coded u
    · obtain ⟨wo, wcap, xo, xcap, lo, lcap, rfl, hw, hx, hs, hl, hd, hb0⟩ := h
      obtain ⟨n, rfl⟩ := Int.eq_ofNat_of_zero_le h0.1
      rw [show codI u n = cod u n from if_pos ⟨h0, h1⟩, show pe u n = 0 from by unfold pe; rw [if_pos h0, if_pos h1]]
      refine (rput_ok w.heap.size (w.heap.size + 1) 0 u h1 n (by have := h0.2; omega) xo xcap z.1 z.2 wr hx hL).mono ?_
      rintro e w' ⟨rfl, xo', xcap', hx', hp'⟩
      obtain ⟨hw', hs'⟩ := hp'.other hw hs.symm
      obtain ⟨hl', hd'⟩ := sep_lst hp' hl fun g hg => ⟨(hd g hg).2.1, (hd g hg).2.2.2⟩
      exact ⟨rfl, wo, wcap, xo', xcap', lo, lcap, rfl, hw', hx', hs'.symm, hl', fun g hg => ⟨(hd g hg).1, (hd g hg).2.1, (hd g hg).2.2.1, hd' g hg⟩, wrote_below hb0 hx hp'⟩
    · rw [same fun h => h1 h.2, show pe u k = 3 from by unfold pe; rw [if_pos h0, if_neg h1]]
      refine (rput_range _ u hu k h0 h1 wr).mono ?_
      rintro e w' ⟨rfl, hb⟩
      exact ⟨rfl, h.upto hb⟩
  · rw [same fun h => h0 h.1, show pe u k = 1 from if_neg h0]
    refine (rput_arg _ u k h0 wr).mono ?_
    rintro e w' ⟨rfl, hb⟩
    exact ⟨rfl, h.upto hb⟩

theorem code_t {w wr : World} {v : Value} {y z c : Nat × Nat} (h : Tri w wr v y z c) (u : Nat) (k : Int) :
    Calls Try.prog 70 #[.int .u64 (u : Int), .int .i64 k] wr fun e w' => ∃ lo lcap, e = .returned (.slice lo (cost u k) lcap) ∧ Tri w w' v y z c ∧ Lst w' wr.heap.size lo lcap (codI u k) (cost u k) := by
  refine (code_any u k wr).mono ?_
  rintro e w' ⟨lo, lcap, rfl, hn⟩
  exact ⟨lo, lcap, rfl, h.upto hn.below, hn.lst⟩

/-- What an append to the list leaves. -/
theorem tri_app {w wr w' : World} {lo lo' : Option Addr} {lcap lcap' x n : Nat} {y z c : Nat × Nat} (h : Tri w wr (.slice lo c.2 lcap) y z c) (hv : x < 2 ^ n)
    (ho : w'.ownsRow w.heap.size 3 1 (.slice lo' (c.2 + n) lcap') (c.2 + n) (bitl c.1 c.2 ++ bitl x n)) (hg : wr.grownBy w' (blk lo)) (hat : blk lo' = blk lo ∨ ∀ g, blk lo' = some g → wr.heap.size ≤ g) :
    Tri w w' (.slice lo' (c.2 + n) lcap') y z (c.1 * 2 ^ n + x, c.2 + n) := by
  obtain ⟨wo, wcap, xo, xcap, lo1, lcap1, e, hw, hx, hs, hl, hd, hb0⟩ := h
  cases e
  have hf : Fr (fun b => blk lo = some b) wr w' := (Fr.refl _ _).grown hg fun k hk _ => hk
  refine ⟨wo, wcap, xo, xcap, lo', lcap', rfl, Wr.keep hw hf (fun e => (hd _ e).1 rfl) (fun g hg e => (hd g e).2.2.1 hg), Wr.keep hx hf (fun e => (hd _ e).2.1 rfl) (fun g hg e => (hd g e).2.2.2 hg), hs, ?_, ?_, hb0.grown hg hb0.size (fun k hk => (hl.lt k hk).1)⟩
  · unfold Lst; rw [bitl_app c.1 c.2 x n hv]; exact ho
  · intro g hg'
    rcases hat with e | e
    · exact hd g (e ▸ hg')
    · have := e g hg'; have := Wr.plt hw; have := Wr.plt hx
      exact ⟨by omega, by omega, fun e => by have := (Wr.rlt hw g e).2; omega, fun e => by have := (Wr.rlt hx g e).2; omega⟩
theorem tri_lst {w wr : World} {lo : Option Addr} {lcap : Nat} {y z c : Nat × Nat} (h : Tri w wr (.slice lo c.2 lcap) y z c) : Lst wr w.heap.size lo lcap c.1 c.2 := by
  obtain ⟨wo, wcap, xo, xcap, lo1, lcap1, e, hw, hx, hs, hl, hd, hb0⟩ := h
  cases e
  exact hl

def str (x : Nat × Nat) : ByteArray := strOfNums ((List.range ((x.2 + 7) / 8)).map fun i => (bts x.1 x.2 i : Int))
def Row (w : World) (g : Nat) (x : Nat × Nat) : Prop := w.rowIs g 5 ((x.2 + 7) / 8) (fun i => .int .u8 (bts x.1 x.2 i : Int))
theorem Row.conv {w : World} {g : Nat} {x : Nat × Nat} (h : Row w g x) : (convert 41 9 (.slice (some ⟨g, 0, none⟩) ((x.2 + 7) / 8) ((x.2 + 7) / 8))).run Try.prog w = .ok (.string (str x)) w := conv_row h
theorem Row.upto {w w' : World} {g : Nat} {x : Nat × Nat} (h : Row w g x) (hb : Below w.heap.size w w') : Row w' g x := World.rowIs.of_block h (hb.block g (World.rowIs.lt h))

theorem len_w {w wr : World} {v : Value} {y z c : Nat × Nat} (h : Tri w wr v y z c) (hL : y.2 ≤ 7000000000000) : Calls Try.prog 22 #[.pointer (some ⟨w.heap.size, 0, none⟩)] wr fun e w' => e = .returned (.int .i64 (y.2 : Int)) ∧ Tri w w' v y z c := by
  have h' := h
  obtain ⟨wo, wcap, xo, xcap, lo, lcap, rfl, hw, _⟩ := h
  refine (len_any hw (by omega)).mono ?_
  rintro e w' ⟨rfl, nq, rfl⟩
  exact ⟨rfl, h'.drewN nq⟩
theorem len_x {w wr : World} {v : Value} {y z c : Nat × Nat} (h : Tri w wr v y z c) (hL : z.2 ≤ 7000000000000) : Calls Try.prog 22 #[.pointer (some ⟨w.heap.size + 1, 0, none⟩)] wr fun e w' => e = .returned (.int .i64 (z.2 : Int)) ∧ Tri w w' v y z c := by
  have h' := h
  obtain ⟨wo, wcap, xo, xcap, lo, lcap, rfl, hw, hx, _⟩ := h
  refine (len_any hx (by omega)).mono ?_
  rintro e w' ⟨rfl, nq, rfl⟩
  exact ⟨rfl, h'.drewN nq⟩
theorem bytes_w {w wr : World} {v : Value} {y z c : Nat × Nat} (h : Tri w wr v y z c) (hL : y.2 ≤ 7000000000000) : Calls Try.prog 25 #[.pointer (some ⟨w.heap.size, 0, none⟩)] wr fun e w' =>
    e = .returned (.slice (some ⟨wr.heap.size, 0, none⟩) ((y.2 + 7) / 8) ((y.2 + 7) / 8)) ∧ Tri w w' v y z c ∧ Row w' wr.heap.size y ∧ Below wr.heap.size wr w' := by
  have h' := h
  obtain ⟨wo, wcap, xo, xcap, lo, lcap, rfl, hw, hx, _⟩ := h
  refine (bytes_any hw (by omega)).mono ?_
  rintro e w' ⟨rfl, hb, hr⟩
  exact ⟨rfl, h'.upto hb, hr, hb⟩
theorem bytes_x {w wr : World} {v : Value} {y z c : Nat × Nat} (h : Tri w wr v y z c) (hL : z.2 ≤ 7000000000000) : Calls Try.prog 25 #[.pointer (some ⟨w.heap.size + 1, 0, none⟩)] wr fun e w' =>
    e = .returned (.slice (some ⟨wr.heap.size, 0, none⟩) ((z.2 + 7) / 8) ((z.2 + 7) / 8)) ∧ Tri w w' v y z c ∧ Row w' wr.heap.size z ∧ Below wr.heap.size wr w' := by
  have h' := h
  obtain ⟨wo, wcap, xo, xcap, lo, lcap, rfl, hw, hx, _⟩ := h
  refine (bytes_any hx (by omega)).mono ?_
  rintro e w' ⟨rfl, hb, hr⟩
  exact ⟨rfl, h'.upto hb, hr, hb⟩
theorem bytes_l {w wr : World} {lo : Option Addr} {lcap L : Nat} {y z c : Nat × Nat} (h : Tri w wr (.slice lo L lcap) y z c) (hL : c.2 ≤ 1000000000000) : Calls Try.prog 26 #[.slice lo L lcap] wr fun e w' =>
    ∃ g, e = .returned (.slice (some ⟨g, 0, none⟩) ((c.2 + 7) / 8) ((c.2 + 7) / 8)) ∧ Tri w w' (.slice lo L lcap) y z c ∧ Row w' g c ∧ Below wr.heap.size wr w' := by
  have h' := h
  obtain ⟨wo, wcap, xo, xcap, lo1, lcap1, e, hw, hx, hs, hl, hd, hb0⟩ := h
  cases e
  refine (rbytes_any wr w.heap.size lo lcap c.1 c.2 hl hb0.size (by omega)).mono ?_
  rintro e w' ⟨g, rfl, hb2, hr⟩
  exact ⟨g, rfl, h'.upto hb2, hr, hb2⟩
end Go.Proofs.Ytjimamjhakainaa.Rice
/- Plain facts: a code among bits is read as its number, and what is read is a code among bits; what many codes are read as. No program in it; no condition but those that each lemma names. -/
namespace Go.Proofs.Ytjimamjhakainaa.Rice
open Go.RowKit Bit

/-- A piece of a piece. -/
theorem seg_sub (M T p c a b : Nat) (h : a + b ≤ c) (hT : p + c ≤ T) : seg M T (p + a) b = seg M T p c / 2 ^ (c - a - b) % 2 ^ b := by
  unfold seg
  have e1 : 2 ^ c = 2 ^ (c - a - b) * 2 ^ (a + b) := by rw [← Nat.pow_add]; congr 1; omega
  have e2 : T - (p + a) - b = (T - p - c) + (c - a - b) := by omega
  rw [e1, Nat.mod_mul_right_div_self, e2, Nat.pow_add, ← Nat.div_div_eq_div_mul]
  have e3 : (2 : Nat) ^ b ∣ 2 ^ (a + b) := Nat.pow_dvd_pow 2 (by omega)
  rw [Nat.mod_mod_of_dvd _ e3]
theorem ones_div (q m : Nat) (h : m ≤ q) : (2 ^ q - 1) / 2 ^ m = 2 ^ (q - m) - 1 := by
  have e : 2 ^ q = 2 ^ (q - m) * 2 ^ m := by rw [← Nat.pow_add]; congr 1; omega
  have h1 := Nat.two_pow_pos m
  have h2 := Nat.two_pow_pos (q - m)
  rw [e]
  generalize 2 ^ m = x at *
  obtain ⟨y, hy⟩ : ∃ y, 2 ^ (q - m) = y + 1 := ⟨2 ^ (q - m) - 1, by omega⟩
  rw [hy, Nat.add_sub_cancel, Nat.add_mul, Nat.one_mul]
  have e2 : y * x + x - 1 = x * y + (x - 1) := by rw [Nat.mul_comm]; omega
  rw [e2, Nat.mul_add_div h1, Nat.div_eq_of_lt (by omega), Nat.add_zero]
theorem ones_odd (n : Nat) : (2 ^ (n + 1) - 1) % 2 = 1 := by
  have := Nat.two_pow_pos n
  rw [Nat.pow_succ]; omega
theorem ones_seg (M T p : Nat) : ∀ m, p + m ≤ T → (∀ i, i < m → seg M T (p + i) 1 = 1) → seg M T p m = 2 ^ m - 1
  | 0, _, _ => seg_zero _ _ _
  | m + 1, h, ho => by
    have h1 := ones_seg M T p m (by omega) fun i hi => ho i (by omega)
    have h2 := seg_app M T p m 1 (by omega)
    rw [h1, ho m (by omega)] at h2
    have := Nat.two_pow_pos m
    rw [← h2, Nat.pow_succ]; omega

theorem low_ones (q k r i : Nat) (hr : r < 2 ^ k) (hi : i < q) : ((2 ^ q - 1) * 2 ^ (k + 1) + r) / 2 ^ (q + 1 + k - i - 1) % 2 ^ 1 = 1 := by
  have e : q + 1 + k - i - 1 = (k + 1) + (q - 1 - i) := by omega
  have hr2 : r < 2 ^ (k + 1) := Nat.lt_of_lt_of_le hr (Nat.pow_le_pow_right (by decide) (by omega))
  rw [e, Nat.pow_add 2 (k + 1) (q - 1 - i), ← Nat.div_div_eq_div_mul, Nat.mul_comm (2 ^ q - 1), Nat.mul_add_div (Nat.two_pow_pos _), Nat.div_eq_of_lt hr2, Nat.add_zero, ones_div q _ (by omega), show q - (q - 1 - i) = i + 1 from by omega]
  exact ones_odd i
theorem low_nought (q k r : Nat) (hr : r < 2 ^ k) : ((2 ^ q - 1) * 2 ^ (k + 1) + r) / 2 ^ (q + 1 + k - q - 1) % 2 ^ 1 = 0 := by
  have e : q + 1 + k - q - 1 = k := by omega
  rw [e, Nat.pow_succ, ← Nat.mul_assoc, Nat.mul_right_comm, Nat.mul_comm _ (2 ^ k), Nat.mul_add_div (Nat.two_pow_pos _), Nat.div_eq_of_lt hr, Nat.add_zero]
  exact Nat.mul_mod_left _ _
theorem low_rest (q k r : Nat) (hr : r < 2 ^ k) : ((2 ^ q - 1) * 2 ^ (k + 1) + r) / 2 ^ (q + 1 + k - (q + 1) - k) % 2 ^ k = r := by
  have e : q + 1 + k - (q + 1) - k = 0 := by omega
  rw [e, Nat.pow_zero, Nat.div_one, Nat.pow_succ, ← Nat.mul_assoc, Nat.mul_right_comm, Nat.mul_comm _ (2 ^ k), Nat.mul_add_mod, Nat.mod_eq_of_lt hr]
theorem high_ones (u i : Nat) (hu : u < 2 ^ 40) (hi : i < 24) : ((2 ^ 24 - 1) * 2 ^ 40 + u) / 2 ^ (64 - i - 1) % 2 ^ 1 = 1 := by
  have e : 64 - i - 1 = 40 + (24 - 1 - i) := by omega
  rw [e, Nat.pow_add, ← Nat.div_div_eq_div_mul, Nat.mul_comm, Nat.mul_add_div (Nat.two_pow_pos _), Nat.div_eq_of_lt hu, Nat.add_zero, ones_div 24 _ (by omega), show 24 - (24 - 1 - i) = i + 1 from by omega]
  exact ones_odd i

/-- A code among bits is read as its number. -/
theorem get_of_code {M T p k u : Nat} (hk : k ≤ 30) (hu : coded u) (hT : p + cost u (k : Int) ≤ 8 * T) (hs : seg M (8 * T) p (cost u (k : Int)) = cod u k) : GetR M T p k (u, 0, p + cost u (k : Int)) := by
  by_cases h : u / 2 ^ k < 24
  · have hr : u % 2 ^ k < 2 ^ k := Nat.mod_lt _ (Nat.two_pow_pos k)
    have hdm := Nat.div_add_mod u (2 ^ k)
    rw [cost_low hk hu h] at hT hs ⊢
    rw [show cod u k = (2 ^ (u / 2 ^ k) - 1) * 2 ^ (k + 1) + u % 2 ^ k from if_pos h] at hs
    generalize u / 2 ^ k = q at *
    generalize u % 2 ^ k = r at *
    refine ⟨((q : Int), 0, p + q + 1), .inr (.inl ⟨q, by omega, by omega, fun i hi => ?_, ?_, rfl⟩), ?_⟩
    · rw [seg_sub M (8 * T) p (q + 1 + k) i 1 (by omega) (by omega), hs]; exact low_ones q k r i hr hi
    · rw [seg_sub M (8 * T) p (q + 1 + k) q 1 (by omega) (by omega), hs]; exact low_nought q k r hr
    · unfold getF
      rw [if_neg (show ¬ (0 : Int) ≠ 0 from fun h => h rfl), if_neg (show ¬ (q : Int) = 24 by omega), if_neg (show ¬ 8 * T < p + q + 1 + k by omega), Int.toNat_natCast]
      have e := seg_sub M (8 * T) p (q + 1 + k) (q + 1) k (by omega) (by omega)
      rw [hs, low_rest q k r hr] at e
      show (u, (0 : Int), p + (q + 1 + k)) = (q * 2 ^ k + seg M (8 * T) (p + q + 1) k, 0, p + q + 1 + k)
      rw [show p + q + 1 = p + (q + 1) from by omega, e, ← hdm, Nat.mul_comm]
      congr 2
      omega
  · rw [cost_high hk hu h] at hT hs ⊢
    rw [show cod u k = (2 ^ 24 - 1) * 2 ^ 40 + u from if_neg h] at hs
    have hu2 : u < 2 ^ 40 := hu
    refine ⟨(((24 : Nat) : Int), 0, p + 24), .inl ⟨24, rfl, by omega, fun i hi => ?_, rfl⟩, ?_⟩
    · rw [seg_sub M (8 * T) p 64 i 1 (by omega) (by omega), hs]; exact high_ones u i hu2 hi
    · have e := seg_sub M (8 * T) p 64 24 40 (by omega) (by omega)
      rw [hs, show 64 - 24 - 40 = 0 from rfl, Nat.pow_zero, Nat.div_one, Nat.mul_comm (2 ^ 24 - 1), Nat.mul_add_mod, Nat.mod_eq_of_lt hu2] at e
      show (u, (0 : Int), p + 64) = getW M T (p + 24) k
      unfold getW
      rw [if_neg (by omega), e, if_neg h]

/-- What is read is a code among bits. -/
theorem code_of_get {M T p k u c : Nat} (hk : k ≤ 30) (h : GetR M T p k (u, 0, c)) : coded u ∧ c = p + cost u (k : Int) ∧ c ≤ 8 * T ∧ seg M (8 * T) p (cost u (k : Int)) = cod u k := by
  have hu := (h.coded hk).1
  obtain ⟨r, hr, hx⟩ := h
  rcases hr with ⟨m, h1, h2, h3, rfl⟩ | ⟨q, h1, h2, h3, h4, rfl⟩ | ⟨q, h1, h2, h3, rfl⟩ | ⟨h1, rfl⟩
  · obtain rfl : m = 24 := by omega
    have hx' : (u, (0 : Int), c) = getW M T (p + 24) k := hx
    unfold getW at hx'
    split at hx'
    · simp at hx'
    · split at hx'
      · simp at hx'
      · rename_i g1 g2
        simp only [Prod.mk.injEq, true_and] at hx'
        obtain ⟨e1, e2⟩ := hx'
        rw [← e1] at g2
        have hs := ones_seg M (8 * T) p 24 (by omega) h3
        have ha := seg_app M (8 * T) p 24 40 (by omega)
        rw [hs, ← e1] at ha
        rw [cost_high hk hu g2, show cod u k = (2 ^ 24 - 1) * 2 ^ 40 + u from if_neg g2]
        exact ⟨hu, by omega, by omega, ha.symm⟩
  · have hq : q < 24 := by omega
    unfold getF at hx
    rw [if_neg (show ¬ (0 : Int) ≠ 0 from fun h => h rfl), if_neg (show ¬ (q : Int) = 24 by omega), Int.toNat_natCast] at hx
    split at hx
    · simp at hx
    · rename_i g1
      simp only [Prod.mk.injEq, true_and] at hx
      obtain ⟨e1, e2⟩ := hx
      have hv := seg_lt M (8 * T) (p + q + 1) k
      have g1' : p + q + 1 + k ≤ 8 * T := by have : ¬ 8 * T < p + q + 1 + k := g1; omega
      have hs := ones_seg M (8 * T) p q (by omega) h3
      have ha := seg_app M (8 * T) p q 1 (by omega)
      have hb := seg_app M (8 * T) p (q + 1) k (by omega)
      rw [hs, h4] at ha
      rw [← ha, show p + (q + 1) = p + q + 1 from by omega] at hb
      have e1' : u = q * 2 ^ k + seg M (8 * T) (p + q + 1) k := e1
      have e2' : c = p + q + 1 + k := e2
      generalize seg M (8 * T) (p + q + 1) k = v at *
      have d1 : u / 2 ^ k = q := by rw [e1', Nat.mul_comm, Nat.mul_add_div (Nat.two_pow_pos k), Nat.div_eq_of_lt hv, Nat.add_zero]
      have d2 : u % 2 ^ k = v := by rw [e1', Nat.mul_comm, Nat.mul_add_mod, Nat.mod_eq_of_lt hv]
      have hlt : u / 2 ^ k < 24 := by rw [d1]; exact hq
      rw [cost_low hk hu hlt, show cod u k = (2 ^ (u / 2 ^ k) - 1) * 2 ^ (k + 1) + u % 2 ^ k from if_pos hlt, d1, d2]
      refine ⟨hu, by omega, by omega, ?_⟩
      exact hb.symm.trans (join_code _ _ _).symm
  · simp [getF] at hx
  · omega
theorem GetR.zero {M T p k : Nat} {x : Nat × Int × Nat} (h : GetR M T p k x) (hx : x.2.1 ≠ 0) : x.1 = 0 := by
  obtain ⟨r, hr, rfl⟩ := h
  revert hx
  unfold getF getW
  repeat' split
  all_goals simp

theorem seg_pad (N L p c : Nat) (h : p + c ≤ L) : seg (pad N L) (8 * ((L + 7) / 8)) p c = seg N L p c := by
  unfold seg pad
  have e : 8 * ((L + 7) / 8) - p - c = (8 * ((L + 7) / 8) - L) + (L - p - c) := by omega
  rw [e, Nat.pow_add, ← Nat.div_div_eq_div_mul, Nat.mul_div_cancel _ (Nat.two_pow_pos _)]

theorem cods_pre (U : Nat → Nat) (k : Nat) (hk : k ≤ 30) : ∀ n j, j ≤ n → allC U n → (cods U k 0 0 n).1 / 2 ^ ((cods U k 0 0 n).2 - (cods U k 0 0 j).2) = (cods U k 0 0 j).1 ∧ (cods U k 0 0 j).2 ≤ (cods U k 0 0 n).2
  | 0, j, h, _ => by
    obtain rfl : j = 0 := by omega
    exact ⟨by simp, Nat.le_refl _⟩
  | n + 1, j, h, hc => by
    by_cases e : j = n + 1
    · subst e; exact ⟨by rw [Nat.sub_self, Nat.pow_zero, Nat.div_one], Nat.le_refl _⟩
    · obtain ⟨h1, h2⟩ := cods_pre U k hk n j (by omega) fun i hi => hc i (by omega)
      have hl := cod_lt hk (hc n (by omega))
      show ((cods U k 0 0 n).1 * 2 ^ cost (U n) k + cod (U n) k) / 2 ^ ((cods U k 0 0 n).2 + cost (U n) k - (cods U k 0 0 j).2) = _ ∧ _ ≤ (cods U k 0 0 n).2 + cost (U n) k
      refine ⟨?_, by omega⟩
      rw [show (cods U k 0 0 n).2 + cost (U n) k - (cods U k 0 0 j).2 = cost (U n) k + ((cods U k 0 0 n).2 - (cods U k 0 0 j).2) from by omega, Nat.pow_add, ← Nat.div_div_eq_div_mul, Nat.mul_comm, Nat.mul_add_div (Nat.two_pow_pos _), Nat.div_eq_of_lt hl, Nat.add_zero, h1]
/-- The first numbers of a list. -/
def upto (U : Nat → Nat) (j : Nat) : List Nat := (List.range j).map U
theorem upto_succ (U : Nat → Nat) (j : Nat) : upto U (j + 1) = upto U j ++ [U j] := by unfold upto; rw [List.range_succ, List.map_append]; rfl
theorem upto_len (U : Nat → Nat) (j : Nat) : (upto U j).length = j := by simp [upto]
theorem run_of_cods (U : Nat → Nat) (k n : Nat) (hk : k ≤ 30) (hc : allC U n) : ∀ j, j ≤ n → Run (pad (cods U k 0 0 n).1 (cods U k 0 0 n).2) (((cods U k 0 0 n).2 + 7) / 8) k 0 j (upto U j) (cods U k 0 0 j).2
  | 0, _ => ⟨rfl, rfl⟩
  | j + 1, h => by
    refine ⟨upto U j, (cods U k 0 0 j).2, U j, run_of_cods U k n hk hc j (by omega), ?_, upto_succ U j⟩
    obtain ⟨h1, h2⟩ := cods_pre U k hk n (j + 1) h hc
    have hl := cod_lt hk (hc j (by omega))
    have e2 : (cods U k 0 0 (j + 1)).2 = (cods U k 0 0 j).2 + cost (U j) k := rfl
    have e1 : (cods U k 0 0 (j + 1)).1 = (cods U k 0 0 j).1 * 2 ^ cost (U j) k + cod (U j) k := rfl
    rw [e2] at h1 h2 ⊢
    refine get_of_code hk (hc j (by omega)) (by omega) ?_
    rw [seg_pad _ _ _ _ (by omega)]
    unfold seg
    rw [show (cods U k 0 0 n).2 - (cods U k 0 0 j).2 - cost (U j) k = (cods U k 0 0 n).2 - ((cods U k 0 0 j).2 + cost (U j) k) from by omega, h1, e1, Nat.mul_comm, Nat.mul_add_mod, Nat.mod_eq_of_lt hl]
end Go.Proofs.Ytjimamjhakainaa.Rice
