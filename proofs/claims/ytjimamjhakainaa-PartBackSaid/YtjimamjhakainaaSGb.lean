/- GetAll of rice, and the document's: both answer the same numbers, and stand at the same place. Conditions: the parameter and the number may be; fewer than 2^20 bytes. -/
import Derived.Test.YtjimamjhakainaaM17
namespace Go.Proofs.Ytjimamjhakainaa.Rice
open Go.RowKit Bit

def GetAllPost (w : World) (q g M T p k n : Nat) (e : Ending) (w' : World) : Prop := ∃ (x : List Nat × Int × Nat) (lo : Option Addr) (lcap : Nat), AllR M T k p n x ∧ e = .returned (.tuple #[.slice lo x.1.length lcap, .int .i64 x.2.1]) ∧ Ul w' w.heap.size lo lcap x.1 ∧ Rd w' q g M T x.2.2 ∧ Fr (fun b => b = q) w w'
def RGetAllPost (w : World) (B q : Nat) (lo' : Option Addr) (lcap' M T p k n : Nat) (e : Ending) (w' : World) : Prop := ∃ (x : List Nat × Int × Nat) (lo : Option Addr) (lcap : Nat), AllR M T k p n x ∧ e = .returned (.tuple #[.slice lo x.1.length lcap, .int .i64 x.2.1]) ∧ Ul w' w.heap.size lo lcap x.1 ∧ Rf w' B q lo' lcap' M T x.2.2 ∧ Fr (fun b => b = q) w w'

/-- What is read so far. -/
def GS (w : World) (q g M T p k j : Nat) (v : Value) (wr : World) : Prop := ∃ (l : List Nat) (p' : Nat) (lo : Option Addr) (lcap : Nat), Run M T k p j l p' ∧ v = .slice lo j lcap ∧ Ul wr w.heap.size lo lcap l ∧ Rd wr q g M T p' ∧ Fr (fun b => b = q) w wr

theorem getall_arg (w : World) (a : Addr) (n k : Int) (h : ¬ (okK k ∧ 0 ≤ n ∧ n ≤ 1048576)) : Calls Try.prog 110 #[.pointer (some a), .int .i64 n, .int .i64 k] w fun e w' => e = .returned (.tuple #[.slice none 0 0, .int .i64 1]) ∧ w = w' := by
  by_cases h0 : okK k
  · have hd0 : decide (okK k) = true := decide_eq_true h0
    by_cases h1 : n < 0
    · clear h
      go_enter Try.func110, Try.ntmps110
      go_wp2_with fail
      refine (isparam k w).mono ?_
      rintro e w' ⟨rfl, rfl⟩
      rw [hd0]
      go_wp2_with fail
      go_ret2
      exact ⟨rfl, rfl⟩
    · have h2 : 1048576 < n := by
        by_cases e : n ≤ 1048576
        · exact absurd ⟨h0, by omega, e⟩ h
        · omega
      clear h
      go_enter Try.func110, Try.ntmps110
      go_wp2_with fail
      refine (isparam k w).mono ?_
      rintro e w' ⟨rfl, rfl⟩
      rw [hd0]
      go_wp2_with fail
      go_ret2
      exact ⟨rfl, rfl⟩
  · have hd0 : decide (okK k) = false := decide_eq_false h0
    clear h
    go_enter Try.func110, Try.ntmps110
    go_wp2_with fail
    refine (isparam k w).mono ?_
    rintro e w' ⟨rfl, rfl⟩
    rw [hd0]
    go_wp2_with fail
    go_ret2
    exact ⟨rfl, rfl⟩
theorem riceget_arg (w : World) (a : Addr) (k : Int) (h : ¬ okK k) : Calls Try.prog 124 #[.pointer (some a), .int .i64 k] w fun e w' => e = .returned (.tuple #[.int .u64 0, .int .i64 1]) ∧ w = w' := by
  have hd0 : decide (okK k) = false := decide_eq_false h
  go_enter Try.func124, Try.ntmps124
  go_wp2_with fail
  refine (isparam k w).mono ?_
  rintro e w' ⟨rfl, rfl⟩
  rw [hd0]
  go_wp2_with fail
  go_ret2
  exact ⟨rfl, rfl⟩

set_option maxHeartbeats 1600000 in
set_option maxRecDepth 20000 in
theorem getall_any {w : World} {q g M T p : Nat} (h : Rd w q g M T p) (hp : p ≤ 8 * T) (hT : T ≤ 1048576) (k : Nat) (hk : k ≤ 30) (n : Nat) (hn : n ≤ 1048576) : Calls Try.prog 110 #[.pointer (some ⟨q, 0, none⟩), .int .i64 (n : Int), .int .i64 (k : Int)] w (GetAllPost w q g M T p k n) := by
  have hkk : okK (k : Int) := ⟨by omega, by omega⟩
  have hd0 : decide (okK (k : Int)) = true := decide_eq_true hkk
  have g1 : ¬ (n : Int) < 0 := by omega
  have g2 : ¬ (1048576 : Int) < (n : Int) := by omega
  obtain ⟨i0, hi, hz0, hz1, hz2⟩ := info_parts Try.info42
  have hq0 : q < w.heap.size := World.block_lt_of_cell? w _ h.c0
  have hg0 : g < w.heap.size := h.row.lt
  go_enter Try.func110, Try.ntmps110
  go_wp2_with fail
  refine (isparam k w).mono ?_
  rintro e w' ⟨rfl, rfl⟩
  rw [hd0]
  go_wp2_with (at_make; refine wpList_make_own _ rfl _ _ 63 rfl w.heap.size 42 i0 (.int .u64 0) 1 Try.underlying63 hi hz0 hz1 _ _ _ n rfl rfl rfl (by rw [hz2]; omega) (by unfold maxLen; omega) (Nat.le_refl _) ?_)
  intro w1 hown hgr
  have hst : GS w q g M T p k 0 (.slice (some ⟨w.heap.size, 0, none⟩) 0 n) w1 := by
    have hf : Fr (fun b => b = q) w w1 := (Fr.refl _ _).grown hgr (fun k hk => by cases hk)
    have hf0 : Fr (fun _ => False) w w1 := (Fr.refl _ _).grown hgr (fun k hk => by cases hk)
    exact ⟨[], p, _, n, ⟨rfl, rfl⟩, rfl, hown, h.keep hf0 (fun x => x) (fun x => x), hf⟩
  clear hown hgr h
  go_wp2_with fail
  go_loopg [8, 29] n (fun g' v i wr => ∃ j : Nat, j ≤ n ∧ g' = n - j ∧ i = .int .i64 j ∧ GS w q g M T p k j v wr)
  case atStart => exact ⟨0, Nat.zero_le _, rfl, rfl, hst⟩
  case round =>
    obtain ⟨j, hj, hg, rfl, l, p', lo, lcap, hrun, rfl, hul, hrd, hfr⟩ := hrel
    have HG := hid hg
    have HRUN := hid hrun
    have HP : Hid (p' ≤ 8 * T) := hid (hrun.le hp)
    have HLEN := hid hrun.len
    clear hg hrun hst
    by_cases hlt : j < n
    · have hlt2 : (j : Int) < (n : Int) := by omega
      go_wp2_with fail
      refine (rice_get hrd HP.out (by omega) k hk).mono ?_
      rintro e w2 ⟨⟨u, er, pn⟩, hx, rfl, hrd2, hf2⟩
      have hlo : ∀ g, blk lo = some g → w.heap.size ≤ g := fun g hg => (hul.lt g hg).1
      have hul2 := hul.fr hf2 fun g hg e => by have := hlo g hg; omega
      have hfr2 := hfr.trans hf2
      have HX := hid hx
      clear hul hfr hrd hf2 hx
      by_cases he : er = 0
      · subst he
        have hul3 : Ul (w2.alloc (.cells #[.int .u64 (u : Int)] 42)) w.heap.size lo lcap l := ownsRow_block hul2 fun g hg => RowKit.Below.heap_alloc _ _ _ (hul2.lt g hg).2
        have hcell : (w2.alloc (.cells #[.int .u64 (u : Int)] 42)).cell? ⟨w2.heap.size, 0, none⟩ = some (.int .u64 (u : Int)) := by simp
        unfold Ul at hul3
        rw [HLEN.out] at hul3
        have hsz : w.heap.size ≤ (w2.alloc (.cells #[.int .u64 (u : Int)] 42)).heap.size := by have := hfr2.size; simp; omega
        go_wp2_with (at_builtin; go_must (refine wpList_append_one rfl (.tmp 40) (.tmp 42) 63 rfl w.heap.size 42 i0 (.int .u64 0) 8 Try.underlying63 hi hz0 hz1 hz2 rfl lo j lcap (ul l) rfl hul3 ⟨w2.heap.size, 0, none⟩ 1 (.int .u64 (u : Int)) rfl hcell rfl (by unfold maxLen; omega) (by omega) hsz ?_))
        intro gg cap' w4 hown4 hkept
        have hst : GS w q g M T p k (j + 1) (.slice (some ⟨gg, 0, none⟩) (j + 1) cap') w4 := by
          have hrow : ∀ b, blk lo = some b → b < w.heap.size → False := fun b hb hl => by have := hlo b hb; omega
          have ha : Fr (fun _ => False) w2 (w2.alloc (.cells #[.int .u64 (u : Int)] 42)) := (Fr.refl _ _).alloc _
          have hb : Fr (fun b => blk lo = some b) w2 w4 := (ha.mono fun _ _ x => x.elim).grown hkept.grown fun b hb _ => hb
          refine ⟨l ++ [u], pn, _, cap', ⟨l, p', u, HRUN.out, HX.out, rfl⟩, rfl, ?_, hrd2.keep hb (fun e => by have := hlo q e; omega) (fun e => by have := hlo g e; omega), ?_⟩
          · unfold Ul
            rw [List.length_append, HLEN.out, ul_app]
            exact hown4
          · exact (hfr2.alloc _).grown hkept.grown fun b hb hl => (hrow b hb hl).elim
        clear hown4 hkept hul3 hcell hsz hul2 hfr2 hrd2 hlo
        go_wp2_with fail
        go_roundg (n - (j + 1))
        case measure => rw [HG.out]; omega
        case rel => exact ⟨j + 1, by omega, rfl, by go_num, hst⟩
      · have he2 : (er != 0) = true := bne_iff_ne.2 he
        have hfin : GetAllPost w q g M T p k n (.returned (.tuple #[.slice none 0 0, .int .i64 er])) w2 :=
          ⟨([], er, pn), none, 0, .inr ⟨rfl, he, j, l, p', u, hlt, HRUN.out, HX.out⟩, rfl, World.ownsRow_nil _ _ _ _, hrd2, hfr2⟩
        clear hul2 hfr2 hrd2 hlo he
        go_wp2_with fail
        go_ret2
        exact hfin
    · have hge : ¬ (j : Int) < (n : Int) := by omega
      obtain rfl : j = n := by omega
      have hfin : GetAllPost w q g M T p k j (.returned (.tuple #[.slice lo j lcap, .int .i64 0])) wr :=
        ⟨(l, 0, p'), lo, lcap, .inl ⟨HRUN.out, rfl⟩, by rw [HLEN.out], hul, hrd, hfr⟩
      clear hul hrd hfr
      go_wp2_with fail
      go_ret2
      exact hfin

def RGS (w : World) (B q : Nat) (lo' : Option Addr) (lcap' M T p k j : Nat) (v : Value) (wr : World) : Prop := ∃ (l : List Nat) (p' : Nat) (lo : Option Addr) (lcap : Nat), Run M T k p j l p' ∧ v = .slice lo j lcap ∧ Ul wr w.heap.size lo lcap l ∧ Rf wr B q lo' lcap' M T p' ∧ Fr (fun b => b = q) w wr

end Go.Proofs.Ytjimamjhakainaa.Rice
