/- A part is read into its place: by quotient and rest, by runs, as it is. Conditions: the bits begin with the part's code; its place is there, apart from the reader. -/
import Derived.Test.YtjimamjhakainaaSWa
import Derived.Test.YtjimamjhakainaaM38
import Derived.Test.YtjimamjhakainaaSGb
import Derived.Laws.CopyOwn
namespace Go.Proofs.Ytjimamjhakainaa.Part
open Go.RowKit Bit Rice Runs

/-- A reader, and the list into which its numbers go. -/
structure Ds (w : World) (q g0 gl len M T p : Nat) (F : Nat → Int) (W : World) : Prop where
  rd : Rd W q g0 M T p
  row : W.rowIs gl 3 len (fun j => .int .i64 (F j))
  fr : Fr (fun b => b = q ∨ b = gl) w W
theorem Ds.step {w W W' : World} {q g0 gl len M T p p' : Nat} {F : Nat → Int} (h : Ds w q g0 gl len M T p F W) (hq : gl ≠ q) (hr : Rd W' q g0 M T p') (hf : Fr (fun b => b = q) W W') : Ds w q g0 gl len M T p' F W' :=
  ⟨hr, h.row.of_block (hf.block gl h.row.lt hq), h.fr.trans (hf.mono fun _ _ e => .inl e)⟩
theorem Ds.still {w W W' : World} {q g0 gl len M T p : Nat} {F : Nat → Int} (h : Ds w q g0 gl len M T p F W) (hf : Fr (fun _ => False) W W') : Ds w q g0 gl len M T p F W' :=
  ⟨h.rd.keep hf (fun x => x) (fun x => x), h.row.of_block (hf.block gl h.row.lt (fun x => x)), h.fr.trans (hf.mono fun _ _ e => e.elim)⟩
theorem Ds.put {w W : World} {q g0 gl len M T p : Nat} {F : Nat → Int} (h : Ds w q g0 gl len M T p F W) (hq : gl ≠ q) (hg : gl ≠ g0) (i : Nat) (x : Int) (F' : Nat → Int) (hF : ∀ j, (if j = i then x else F j) = F' j) : Ds w q g0 gl len M T p F' (W.setCell ⟨gl, i, none⟩ (.int .i64 x)) := by
  have hf : Fr (fun b => b = gl) W (W.setCell ⟨gl, i, none⟩ (.int .i64 x)) := (Fr.refl (fun b => b = gl) W).setCell (p := ⟨gl, i, none⟩) rfl _
  exact ⟨h.rd.keep hf (fun e => hq e.symm) (fun e => hg e.symm), (h.row.set i _).congr fun j _ => by rw [← hF j]; split <;> rfl, h.fr.trans (hf.mono fun _ _ e => .inr e)⟩
def RP (w : World) (q g0 gl len M T p : Nat) (F : Nat → Int) (e : Ending) (w' : World) : Prop := e = .returned (.int .i64 0) ∧ Ds w q g0 gl len M T p F w'
theorem zg_ib {x : Int} (h : coded (zg x)) : -9223372036854775808 ≤ x ∧ x ≤ 9223372036854775807 := by
  unfold coded zg at h
  split at h <;> omega

set_option maxRecDepth 100000 in
set_option maxHeartbeats 1000000 in
theorem readrice_any {w W : World} {q g0 gl len M T : Nat} {r Q : Nat × Nat} {F I : Nat → Int} {o n k : Nat} {ad : Option Addr} {c : Nat} (hM : pad Q.1 Q.2 = M) (hT : (Q.2 + 7) / 8 = T) (hT1 : T ≤ 1048576) (h : Ds w q g0 gl len M T r.2 F W) (hq : gl ≠ q) (hg : gl ≠ g0)
    (had : 0 < n → ad = some ⟨gl, o, none⟩) (hlen : o + n ≤ len) (hn : n ≤ 65536) (hk : k ≤ 30) (hz : allZ I n) (hp : Pfx (cods (zs I) k r.1 r.2 n) Q) :
    Calls Try.prog 80 #[.pointer (some ⟨q, 0, none⟩), .slice ad n c, .int .i64 (k : Int)] W (RP w q g0 gl len M T (cods (zs I) k r.1 r.2 n).2 (ins F I o n)) := by
  have hrun : AllR M T k r.2 n (ulist (zs I) n, 0, (cods (zs I) k r.1 r.2 n).2) := by
    rw [← hM, ← hT]; exact .inl ⟨run_of_pfx (zs I) k hk r Q n hz hp, rfl⟩
  have hple : r.2 ≤ 8 * T := by rw [← hT]; exact pfx_le ((cods_pfx (zs I) k hk r n hz).trans hp)
  have HGA := hid (getall_any h.rd hple hT1 k hk n (by omega))
  have HD := hid h; have HRUN := hid hrun; have HZ := hid hz; have HAD := hid had
  have HLB := hid h.row.lt
  clear h hrun hz had hp hple hM hT
  go_enter Try.func80, Try.ntmps80
  go_wp2_with fail
  refine HGA.out.mono ?_
  rintro e w1 ⟨x, lo, lcap, hx, rfl, hul, hrd, hf1⟩
  obtain rfl := HRUN.out.one hx
  have HD1 := hid (HD.out.step hq hrd hf1)
  have hub : ∀ u ∈ ulist (zs I) n, u < 18446744073709551616 := fun u hu => by
    obtain ⟨i, hi, rfl⟩ := List.mem_map.1 hu
    exact zg_lt (zg_ib (HZ.out i (List.mem_range.1 hi)))
  obtain ⟨zb, hus⟩ := hul.us (by rw [ulist_len]; omega) hub
  simp only [ulist_len] at hus ⊢
  have hzb : 0 < n → W.heap.size ≤ zb := fun hl => by
    have := hus.addr hl
    exact (hul.lt zb (by rw [this]; rfl)).1
  have HUS := hid hus; have HZB := hid hzb
  have HU1 := hid (fun j (hj : j < n) => ulist_at (zs I) n j hj)
  clear hx hul hrd hf1 hub hus hzb HRUN
  generalize (cods (zs I) k r.1 r.2 n).2 = p' at *
  go_wp2_with fail
  go_loopg [9, 10, 21] n (fun gh va vb i wr => ∃ (j : Nat) (za zb' : Value), j ≤ n ∧ gh = n - j ∧ va = za ∧ vb = zb' ∧ i = .int .i64 (j : Int) ∧ Ds w q g0 gl len M T p' (ins F I o j) wr ∧ Fr (fun b => b = gl) w1 wr)
  case atStart => exact ⟨0, _, _, Nat.zero_le _, rfl, rfl, rfl, rfl, by rw [ins_0]; exact HD1.out, Fr.refl _ _⟩
  case round =>
    obtain ⟨j, za, zb', hj, hgh, rfl, rfl, rfl, hd, hf⟩ := hrel
    have HGH := hid hgh
    have HDJ := hid hd; have HFJ := hid hf
    by_cases hlt : j < n
    · have hlt2 : (j : Int) < (n : Int) := by omega
      have husj := HUS.out.fr hf (fun hl e => by have := HZB.out hl; have := HLB.out; omega)
      have ha := husj.addr (by omega)
      have cj := husj.c j hlt
      rw [HU1.out j hlt, Nat.zero_add] at cj
      have cl := hd.row.cell (show o + j < len by omega)
      have fl := hd.row.frozen (o + j)
      have had := HAD.out (by omega)
      have hcz := HZ.out j hlt
      have HZA := hid (zag_any (zs I j : Int) (zs I j) rfl (show zg (I j) < 9223372036854775808 by unfold coded at hcz; omega) wr)
      have HZG := hid (show zgi (zs I j) = I j from zgi_zg (I j))
      clear hd hf husj hgh hcz
      subst ha
      subst had
      go_wp2_with fail
      refine HZA.out.mono ?_
      rintro e w2 ⟨rfl, rfl⟩
      rw [HZG.out]
      go_wp2_with fail
      go_roundg (n - (j + 1))
      case measure => rw [HGH.out]; omega
      case rel => exact ⟨j + 1, _, _, by omega, rfl, rfl, rfl, by go_num, HDJ.out.put hq hg (o + j) (I j) _ (ins_step F I o j), HFJ.out.setCell (p := ⟨gl, o + j, none⟩) rfl _⟩
    · have hge : ¬ (j : Int) < (n : Int) := by omega
      obtain rfl : j = n := by omega
      clear hd hf hgh
      go_wp2_with fail
      go_ret
      exact ⟨rfl, HDJ.out⟩
end Go.Proofs.Ytjimamjhakainaa.Part
/- A part is read into its place: by runs. Conditions: the bits begin with the part's code; its place is there, apart from the reader. -/
namespace Go.Proofs.Ytjimamjhakainaa.Part
open Go.RowKit Bit Rice Runs

theorem fr_setRow (w : World) (g : Nat) (cs : Array Value) : Fr (fun b => b = g) w (w.setRow g cs) :=
  ⟨rfl, rfl, rfl, by rw [size_setRow]; exact Nat.le_refl _, fun k _ hk => setRow_other w g k cs hk⟩
def ilist (I : Nat → Int) (n : Nat) : List Value := (List.range n).map fun i => .int .i64 (I i)
theorem ilist_len (I : Nat → Int) (n : Nat) : (ilist I n).length = n := by simp [ilist]
theorem ilist_at (I : Nat → Int) (n i : Nat) (h : i < n) : (ilist I n)[i]? = some (.int .i64 (I i)) := by simp [ilist, h]
theorem ilist_one (I : Nat → Int) (n : Nat) : ∀ v ∈ ilist I n, v.oneCell' = true := fun v hv => by
  obtain ⟨i, _, rfl⟩ := List.mem_map.1 hv
  rfl
theorem row_splice {w : World} {g len : Nat} {F I : Nat → Int} {o n : Nat} {C : Array Value} (hg : w.heap[g]? = some (.cells C 3 (0, 0))) (hs : C.size = len) (hc : ∀ i, i < len → C[i]? = some (.int .i64 (F i))) (hl : o + n ≤ len) :
    (w.setRow g (C.toList.take o ++ (ilist I n ++ C.toList.drop (o + (ilist I n).length))).toArray).rowIs g 3 len (fun j => .int .i64 (ins F I o n j)) := by
  refine ⟨_, setRow_heap w g _ _ 3 (0, 0) hg, ?_, fun j hj => ?_⟩
  · rw [List.size_toArray, List.length_append, List.length_append, ilist_len, List.length_take, List.length_drop, Array.length_toList, hs]
    omega
  · have hlo : (C.toList.take o).length = o := by rw [List.length_take, Array.length_toList, hs]; omega
    rw [List.getElem?_toArray]
    unfold ins
    dsimp only
    by_cases h1 : j < o
    · rw [if_neg (by omega), List.getElem?_append_left (by rw [hlo]; exact h1), List.getElem?_take_of_lt h1, Array.getElem?_toList]
      exact hc j hj
    · rw [List.getElem?_append_right (by rw [hlo]; omega), hlo]
      by_cases h2 : j < o + n
      · rw [if_pos (by omega), List.getElem?_append_left (by rw [ilist_len]; omega)]
        exact ilist_at I n (j - o) (by omega)
      · rw [if_neg (by omega), List.getElem?_append_right (by rw [ilist_len]; omega), ilist_len, List.getElem?_drop, Array.getElem?_toList, show o + n + (j - o - n) = j by omega]
        exact hc j hj
theorem s3 : (Try.prog.info? 3).map (·.size) = some 1 := by kernel_rfl

set_option maxRecDepth 100000 in
set_option maxHeartbeats 1000000 in
theorem readruns_any {w W : World} {q g0 gl len M T : Nat} {r Q : Nat × Nat} {F I : Nat → Int} {o n k : Nat} {c : Nat} (hM : pad Q.1 Q.2 = M) (hT : (Q.2 + 7) / 8 = T) (hT1 : T ≤ 1048576) (h : Ds w q g0 gl len M T r.2 F W) (hq : gl ≠ q) (hg : gl ≠ g0)
    (h0 : 0 < n) (hlen : o + n ≤ len) (hn : n ≤ 65536) (hk : k ≤ 30) (hz : allZ I n) (hp : Pfx (cfin I k (app r k 5) n) Q) :
    Calls Try.prog 81 #[.pointer (some ⟨q, 0, none⟩), .slice (some ⟨gl, o, none⟩) n c] W (RP w q g0 gl len M T (cfin I k (app r k 5) n).2 (ins F I o n)) := by
  have hp1 : Pfx (app r k 5) Q := (cgd_pfx0 I k hk (app r k 5) n (by omega) hz).trans hp
  have hk5 : k < 2 ^ 5 := by omega
  have hgn := pfx_get hk5 hp1
  have hle1 := pfx_le ((pfx_app r hk5).trans hp1)
  have hle2 := pfx_le hp1
  have hrun := grun_of_pfx I k n hk (by omega) hz (app r k 5) Q hp n 0 (Nat.zero_le _) (by omega) rfl
  have e0 : cgd I k (app r k 5) 0 = app r k 5 := rfl
  rw [e0, Nat.sub_zero] at hrun
  rw [hM, hT] at hgn hrun
  rw [hT] at hle1 hle2
  have hgc := get_n h.rd hle1 (by omega) 5 (by decide)
  unfold GetNPost at hgc
  rw [hgn] at hgc
  have HGC := hid hgc
  have HD := hid h; have HRUN := hid hrun; have HL2 := hid hle2
  have hmk : ¬ (30 : Int) < (k : Int) := by omega
  clear h hrun hz hp hp1 hgn hle1 hle2 hgc hM hT e0 hk5
  generalize (cfin I k (app r k 5) n).2 = p' at *
  generalize (app r k 5).2 = p1 at *
  go_enter Try.func81, Try.ntmps81
  go_wp2_with fail
  refine HGC.out.mono ?_
  rintro e w1 ⟨rfl, hrd1, hf1⟩
  have HD1 := hid (HD.out.step hq hrd1 hf1)
  clear hrd1 hf1
  simp only []
  go_wp2_with fail
  refine (get_any HD1.out.rd HL2.out hT1 n k hk (by omega)).mono ?_
  rintro e w2 ⟨x, lo, lcap, hx, rfl, hlo, hl1, hl2, hcells, hlt, hrd2, hf2⟩
  obtain rfl := HRUN.out.one hx
  simp only [li_len] at hlo hl1 hcells ⊢
  obtain rfl := hlo h0
  have HD2 := hid (HD1.out.step hq hrd2 hf2)
  obtain ⟨C, hC1, hC2, hC3⟩ := HD2.out.row
  have hsrc : ∀ j v, (ilist I n)[j]? = some v → w2.cell? ((⟨w1.heap.size, 0, none⟩ : Addr).add j) = some v := fun j v hv => by
    have hj : j < n := by rw [← ilist_len I n]; exact (List.getElem?_eq_some_iff.1 hv).1
    rw [ilist_at I n j hj] at hv
    cases hv
    rw [Addr.add_lit, Nat.zero_add, hcells j hj, li_at I n 0 j hj, Nat.zero_add]
  have HSRC := hid hsrc; have HC1 := hid hC1
  have HROW := hid (row_splice (I := I) (o := o) (n := n) hC1 hC2 hC3 hlen)
  have HFR := hid (fr_setRow w2 gl (C.toList.take o ++ (ilist I n ++ C.toList.drop (o + (ilist I n).length))).toArray)
  have hfit : o + (ilist I n).length ≤ C.size := by rw [ilist_len, hC2]; exact hlen
  have hcl : (ilist I n).length = Nat.min n n := by rw [ilist_len]; exact (Nat.min_self n).symm
  have HFIT := hid hfit; have HCL := hid hcl
  have HONE := hid (ilist_one I n)
  clear hx hlo hcells hrd2 hf2 hC1 hC2 hC3 hsrc hfit hcl hl1 hl2 hlt HRUN
  generalize ilist I n = L at *
  go_wp2_with ((refine wpList_copy_own rfl (.tmp 29) (.tmp 30) 22 22 rfl 3 Try.underlying22 s3 gl o n c ⟨w1.heap.size, 0, none⟩ n lcap rfl rfl C 3 HC1.out L HCL.out HSRC.out HFIT.out HONE.out ?_))
  go_ret
  exact ⟨rfl, HD2.out.rd.keep HFR.out (fun e => hq e.symm) (fun e => hg e.symm), HROW.out, HD2.out.fr.trans (HFR.out.mono fun _ _ e => .inr e)⟩
end Go.Proofs.Ytjimamjhakainaa.Part
/- A part is read into its place: as it is. Conditions: the bits begin with the part's code; its place is there, apart from the reader. -/
namespace Go.Proofs.Ytjimamjhakainaa.Part
open Go.RowKit Bit Rice Runs

/-- What a number of K bits tells. -/
theorem raw_u {x : Int} {k : Nat} (hk : 1 ≤ k) (hk2 : k ≤ 41) (h : -(2 ^ (k - 1) : Int) ≤ x ∧ x < 2 ^ (k - 1)) : (x % 2 ^ k).toNat < 2 ^ 41 ∧ (x < 0 → (x % 2 ^ k).toNat / 2 ^ (k - 1) = 1 ∧ ((x % 2 ^ k).toNat : Int) - ((2 ^ k : Nat) : Int) = x) ∧ (¬ x < 0 → (x % 2 ^ k).toNat / 2 ^ (k - 1) = 0 ∧ ((x % 2 ^ k).toNat : Int) = x) := by
  have hm := raw_mod hk h
  have hlt := mask_lt x k
  obtain ⟨j, rfl⟩ : ∃ j, k = j + 1 := ⟨k - 1, by omega⟩
  rw [Nat.add_sub_cancel] at h ⊢
  have e2 : 2 ^ (j + 1) = 2 * 2 ^ j := by rw [Nat.pow_succ, Nat.mul_comm]
  have e3 : (2 : Int) ^ (j + 1) = ((2 * 2 ^ j : Nat) : Int) := by rw [← e2]; push_cast; rfl
  have e4 : (2 : Int) ^ j = ((2 ^ j : Nat) : Int) := by push_cast; rfl
  have hpos : 0 < 2 ^ j := Nat.two_pow_pos j
  have hb : 2 ^ (j + 1) ≤ 2 ^ 41 := Nat.pow_le_pow_right (by decide) hk2
  rw [e4] at h
  generalize (x % 2 ^ (j + 1)).toNat = u at *
  rw [e3] at hm
  rw [e2] at hlt hb ⊢
  generalize 2 ^ j = P at *
  refine ⟨by omega, fun hx => ?_, fun hx => ?_⟩
  · rw [if_pos hx] at hm
    refine ⟨?_, by omega⟩
    apply Nat.div_eq_of_lt_le <;> omega
  · rw [if_neg hx] at hm
    exact ⟨Nat.div_eq_of_lt (by omega), hm⟩

theorem raw_neg {u k : Nat} {x : Int} (hk2 : k ≤ 41) (h1 : u / 2 ^ (k - 1) = 1) (h2 : (u : Int) - ((2 ^ k : Nat) : Int) = x) (hu : u < 2 ^ 41) : ((u : Int) / 2 ^ (k - 1) == 1) = true ∧ wrap64 ((2 : Int) ^ k) = ((2 ^ k : Nat) : Int) ∧ wrap64 ((u : Int) - ((2 ^ k : Nat) : Int)) = x := by
  have hb : 2 ^ k ≤ 2 ^ 41 := Nat.pow_le_pow_right (by decide) hk2
  refine ⟨by rw [shr_val, h1]; rfl, ?_, ?_⟩
  · rw [show (2 : Int) ^ k = ((2 ^ k : Nat) : Int) from by push_cast; rfl]
    generalize 2 ^ k = P at *
    exact IntWalk.wrap64_in _ (by omega)
  · rw [← h2]
    generalize 2 ^ k = P at *
    exact IntWalk.wrap64_in _ (by omega)
theorem wr_41 {u : Nat} (h : u < 2 ^ 41) : wrap64 (u : Int) = (u : Int) := IntWalk.wrap64_in _ (by omega)
theorem raw_pos {u k : Nat} (h1 : u / 2 ^ (k - 1) = 0) : ((u : Int) / 2 ^ (k - 1) == 1) = false := by rw [shr_val, h1]; rfl
set_option maxRecDepth 100000 in
set_option maxHeartbeats 1000000 in
theorem readraw_any {w W : World} {q g0 gl len M T : Nat} {r Q : Nat × Nat} {F I : Nat → Int} {o n k : Nat} {c : Nat} (hM : pad Q.1 Q.2 = M) (hT : (Q.2 + 7) / 8 = T) (hT1 : T ≤ 1048576) (h : Ds w q g0 gl len M T r.2 F W) (hq : gl ≠ q) (hg : gl ≠ g0)
    (h0 : 0 < n) (hlen : o + n ≤ len) (hn : n ≤ 65536) (hk : 1 ≤ k) (hk2 : k ≤ 41) (hz : allZ I n) (hfit : ∀ j, j < n → -(2 ^ (k - 1) : Int) ≤ I j ∧ I j < 2 ^ (k - 1)) (hp : Pfx (rawc I k (app r k 6) n) Q) :
    Calls Try.prog 82 #[.pointer (some ⟨q, 0, none⟩), .slice (some ⟨gl, o, none⟩) n c] W (RP w q g0 gl len M T (rawc I k (app r k 6) n).2 (ins F I o n)) := by
  have hk6 : k < 2 ^ 6 := by omega
  have hp1 : Pfx (app r k 6) Q := (rawc_pfx I k (app r k 6) 0 n (Nat.zero_le _)).trans hp
  have hgn := pfx_get hk6 hp1
  have hle1 := pfx_le ((pfx_app r hk6).trans hp1)
  rw [hM, hT] at hgn
  rw [hT] at hle1
  have hgc := get_n h.rd hle1 (by omega) 6 (by decide)
  unfold GetNPost at hgc
  rw [hgn] at hgc
  have HGC := hid hgc
  have HGJ : RowKit.Hid (∀ (j : Nat) (W' : World), j < n → Rd W' q g0 M T (rawc I k (app r k 6) j).2 → Calls Try.prog 54 #[.pointer (some ⟨q, 0, none⟩), .int .i64 (k : Int)] W' fun e w' => e = .returned (.tuple #[.int .u64 (((I j % 2 ^ k).toNat : Nat) : Int), .int .i64 0]) ∧ Rd w' q g0 M T (rawc I k (app r k 6) (j + 1)).2 ∧ Fr (fun b => b = q) W' w') := hid fun j W' hj hrd => by
    have hpj : Pfx (app (rawc I k (app r k 6) j) (I j % 2 ^ k).toNat k) Q := (rawc_pfx I k (app r k 6) (j + 1) n hj).trans hp
    have hgj := pfx_get (mask_lt (I j) k) hpj
    have hlj := pfx_le ((pfx_app _ (mask_lt (I j) k)).trans hpj)
    rw [hM, hT] at hgj
    rw [hT] at hlj
    have := get_n hrd hlj (by omega) k (by omega)
    unfold GetNPost at this
    rw [hgj] at this
    exact this
  have HU := hid fun j (hj : j < n) => raw_u hk hk2 (hfit j hj)
  have HD := hid h; have HZ := hid hz
  have h00 : (rawc I k (app r k 6) 0).2 = (app r k 6).2 := rfl
  have H00 := hid h00
  clear h hz hfit hp hp1 hgn hle1 hgc hM hT hk6 h00
  have hk3 : ¬ (k : Int) < 1 := by omega
  have hk4 : ¬ (41 : Int) < (k : Int) := by omega
  go_enter Try.func82, Try.ntmps82
  go_wp2_with fail
  refine HGC.out.mono ?_
  rintro e w1 ⟨rfl, hrd1, hf1⟩
  have HD1 := hid (HD.out.step hq hrd1 hf1)
  clear hrd1 hf1
  simp only []
  go_wp2_with fail
  go_loopg [7, 8, 9, 28] n (fun gh va vb vc i wr => ∃ (j : Nat) (za zb zc : Value), j ≤ n ∧ gh = n - j ∧ va = za ∧ vb = zb ∧ vc = zc ∧ i = .int .i64 (j : Int) ∧ Ds w q g0 gl len M T (rawc I k (app r k 6) j).2 (ins F I o j) wr)
  case atStart => exact ⟨0, _, _, _, Nat.zero_le _, rfl, rfl, rfl, rfl, rfl, by rw [ins_0, H00.out]; exact HD1.out⟩
  case round =>
    obtain ⟨j, za, zb, zc, hj, hgh, rfl, rfl, rfl, rfl, hd⟩ := hrel
    have HGH := hid hgh
    have HDJ := hid hd
    by_cases hlt : j < n
    · have hlt2 : (j : Int) < (n : Int) := by omega
      have HGG := hid (HGJ.out j wr hlt hd.rd)
      have HUJ := hid (HU.out j hlt)
      have hcz := HZ.out j hlt
      have HZI := hid fun w' => pzig (I j) (zg_ib hcz) w'
      have HCZ := hid hcz
      obtain ⟨u, hu⟩ : ∃ u, (I j % 2 ^ k).toNat = u := ⟨_, rfl⟩
      rw [hu] at HGG HUJ
      clear hd hgh hcz hu
      go_wp2_with fail
      refine HGG.out.mono ?_
      rintro e w2 ⟨rfl, hrd2, hf2⟩
      have HD2 := hid (HDJ.out.step hq hrd2 hf2)
      clear hrd2 hf2
      have cl := HD2.out.row.cell (show o + j < len by omega)
      have fl := HD2.out.row.frozen (o + j)
      have hdv := HUJ.out.1
      have hwu := wr_41 hdv
      by_cases hx : I j < 0
      · obtain ⟨a1, a2⟩ := HUJ.out.2.1 hx
        obtain ⟨hq1, hw1, hw2⟩ := raw_neg hk2 a1 a2 hdv
        have HP0 := hid (HD2.out.put hq hg (o + j) (u : Int) (fun i => if i = o + j then (u : Int) else ins F I o j i) (fun _ => rfl))
        have HP1 := hid (HP0.out.put hq hg (o + j) (I j) (ins F I o (j + 1)) (fun i => by rw [← ins_step]; split <;> rfl))
        have c2 := HP0.out.row.cell (show o + j < len by omega)
        have f2 := HP0.out.row.frozen (o + j)
        have c3 := HP1.out.row.cell (show o + j < len by omega)
        rw [if_pos rfl] at c2
        have hi3 : ins F I o (j + 1) (o + j) = I j := by rw [← ins_step, if_pos rfl]
        rw [hi3] at c3
        clear a1 a2 hi3 hx hdv
        generalize 2 ^ k = P at *
        go_wp2_with fail
        refine (HZI.out _).mono ?_
        rintro e w3 ⟨rfl, rfl⟩
        rw [decide_eq_true HCZ.out]
        go_wp2_with fail
        go_roundg (n - (j + 1))
        case measure => rw [HGH.out]; omega
        case rel => exact ⟨j + 1, _, _, _, by omega, rfl, rfl, rfl, rfl, by go_num, HP1.out⟩
      · obtain ⟨a1, a2⟩ := HUJ.out.2.2 (by omega)
        have hq1 := raw_pos a1
        have HZ2 : RowKit.Hid (∀ w', Calls Try.prog 58 #[.int .i64 (u : Int)] w' fun e w'' => e = .returned (.bool (decide (coded (zg (I j))))) ∧ w' = w'') := hid fun w' => by rw [a2]; exact HZI.out w'
        have HP1 := hid (HD2.out.put hq hg (o + j) (u : Int) (ins F I o (j + 1)) (fun i => by rw [a2]; exact ins_step F I o j i))
        have c3 := HP1.out.row.cell (show o + j < len by omega)
        have hi3 : ins F I o (j + 1) (o + j) = (u : Int) := by rw [← ins_step, if_pos rfl, a2]
        rw [hi3] at c3
        clear a1 a2 hi3 hx hdv
        go_wp2_with fail
        refine (HZ2.out _).mono ?_
        rintro e w3 ⟨rfl, rfl⟩
        rw [decide_eq_true HCZ.out]
        go_wp2_with fail
        go_roundg (n - (j + 1))
        case measure => rw [HGH.out]; omega
        case rel => exact ⟨j + 1, _, _, _, by omega, rfl, rfl, rfl, rfl, by go_num, HP1.out⟩
    · have hge : ¬ (j : Int) < (n : Int) := by omega
      obtain rfl : j = n := by omega
      clear hd hgh
      go_wp2_with fail
      go_ret
      exact ⟨rfl, HDJ.out⟩
end Go.Proofs.Ytjimamjhakainaa.Part
/- A part is read into its place, by whichever way stands there. Conditions: the bits begin with the part's code; its place is there, apart from the reader, and holds noughts. -/
namespace Go.Proofs.Ytjimamjhakainaa.Part
open Go.RowKit Bit Rice Runs

theorem wy_zero {I : Nat → Int} {n : Nat} (h : (wy I n).1 = 0) : nz I n = n := by
  unfold wy at h
  by_cases e : nz I n = n
  · exact e
  · rw [if_neg e] at h
    dsimp only at h
    repeat' split at h
    all_goals (first
      | exact absurd (show (1 : Nat) = 0 from h) (by decide)
      | exact absurd (show (2 : Nat) = 0 from h) (by decide)
      | exact absurd (show (3 : Nat) = 0 from h) (by decide))
theorem wy_pos {I : Nat → Int} {n : Nat} (h : ¬ (wy I n).1 = 0) : 0 < n := by
  rcases Nat.eq_zero_or_pos n with e | e
  · subst e
    exact absurd (show (wy I 0).1 = 0 from rfl) h
  · exact e

set_option maxRecDepth 100000 in
set_option maxHeartbeats 1000000 in
theorem read_part {w W : World} {q g0 gl len M T : Nat} {r Q : Nat × Nat} {F I : Nat → Int} {o n : Nat} {ad : Option Addr} {c : Nat} (hM : pad Q.1 Q.2 = M) (hT : (Q.2 + 7) / 8 = T) (hT1 : T ≤ 1048576) (h : Ds w q g0 gl len M T r.2 F W) (hq : gl ≠ q) (hg : gl ≠ g0)
    (had : 0 < n → ad = some ⟨gl, o, none⟩) (hlen : o + n ≤ len) (hn : n ≤ 65536) (hz : allZ I n) (hF : ∀ i, i < n → F (o + i) = 0) (hp : Pfx (pcode I n r) Q) :
    Calls Try.prog 55 #[.pointer (some ⟨q, 0, none⟩), .slice ad n c] W (RP w q g0 gl len M T (pcode I n r).2 (ins F I o n)) := by
  have hok := wy_ok I n (gr_cd hz)
  have hpx := hp
  have hgr := gr_cd hz
  obtain ⟨x, hx⟩ : ∃ x, wy I n = x := ⟨_, rfl⟩
  unfold pcode at hp ⊢
  rw [hx] at hp hok ⊢
  unfold pcw at hp ⊢
  rcases hok with h1 | ⟨h1, h2⟩ | ⟨h1, h2⟩ | ⟨h1, h2, h3⟩
  · rw [if_pos h1] at hp ⊢
    have hnz := nz_all (wy_zero (by rw [hx]; exact h1))
    have hgn := pfx_get (v := 31) (l := 6) (by decide) hp
    have hle := pfx_le ((pfx_app r (v := 31) (l := 6) (by decide)).trans hp)
    rw [hM, hT] at hgn
    rw [hT] at hle
    have hgc := get_n h.rd hle (by omega) 6 (by decide)
    unfold GetNPost at hgc
    rw [hgn] at hgc
    have HGC := hid hgc
    have HI := hid (ins_same (F := F) (I := I) (o := o) (n := n) fun i hi => by rw [hF i hi, hnz i hi])
    have HD := hid h
    clear hgc hgn hle hnz hp hpx hx h1 had hF hz h hgr hM hT
    generalize (app r 31 6).2 = p1 at *
    go_enter Try.func55, Try.ntmps55
    go_wp2_with fail
    refine HGC.out.mono ?_
    rintro e w1 ⟨rfl, hrd1, hf1⟩
    have HD1 := hid (HD.out.step hq hrd1 hf1)
    clear hrd1 hf1
    simp only []
    go_wp2_with fail
    go_ret
    exact ⟨rfl, by rw [HI.out]; exact HD1.out⟩
  · rw [if_neg (by omega), if_pos h1] at hp ⊢
    have h0 := wy_pos (I := I) (n := n) (by rw [hx, h1]; decide)
    obtain ⟨k, hk⟩ : ∃ k, x.2.1 = k := ⟨_, rfl⟩
    rw [hk] at hp h2 ⊢
    have hk6 : k < 2 ^ 6 := by omega
    have hp1 : Pfx (app r k 6) Q := (cods_pfx (zs I) k h2 (app r k 6) n hz).trans hp
    have hgn := pfx_get hk6 hp1
    have hle := pfx_le ((pfx_app r hk6).trans hp1)
    rw [hM, hT] at hgn
    rw [hT] at hle
    have hgc := get_n h.rd hle (by omega) 6 (by decide)
    unfold GetNPost at hgc
    rw [hgn] at hgc
    have HGC := hid hgc
    have HRR := hid fun (W' : World) (hd : Ds w q g0 gl len M T (app r k 6).2 F W') => readrice_any (c := c) (F := F) (o := o) hM hT hT1 hd hq hg had hlen hn h2 hz hp
    have HD := hid h
    have hk30 : (k : Int) ≤ 30 := by omega
    clear hgc hgn hle hp hp1 hpx hx h1 had hF hz h hgr hM hT hk6 hk
    generalize (cods (zs I) k (app r k 6).1 (app r k 6).2 n).2 = p' at *
    generalize (app r k 6).2 = p1 at *
    go_enter Try.func55, Try.ntmps55
    go_wp2_with fail
    refine HGC.out.mono ?_
    rintro e w1 ⟨rfl, hrd1, hf1⟩
    have HD1 := hid (HRR.out w1 (HD.out.step hq hrd1 hf1))
    clear hrd1 hf1
    simp only []
    go_wp2_with fail
    refine HD1.out.mono ?_
    rintro e w2 ⟨rfl, hd2⟩
    go_wp2_with fail
    go_ret
    exact ⟨rfl, hd2⟩
  · rw [if_neg (by omega), if_neg (by omega), if_pos h1] at hp ⊢
    have h0 := wy_pos (I := I) (n := n) (by rw [hx, h1]; decide)
    obtain rfl := had h0
    obtain ⟨k, hk⟩ : ∃ k, x.2.1 = k := ⟨_, rfl⟩
    rw [hk] at hp h2 ⊢
    have hp1 : Pfx (app r 32 6) Q := ((pfx_app (app r 32 6) (v := k) (l := 5) (by omega)).trans (cgd_pfx0 I k h2 _ n (by omega) hz)).trans hp
    have hgn := pfx_get (v := 32) (l := 6) (by decide) hp1
    have hle := pfx_le ((pfx_app r (v := 32) (l := 6) (by decide)).trans hp1)
    rw [hM, hT] at hgn
    rw [hT] at hle
    have hgc := get_n h.rd hle (by omega) 6 (by decide)
    unfold GetNPost at hgc
    rw [hgn] at hgc
    have HGC := hid hgc
    have HRR := hid fun (W' : World) (hd : Ds w q g0 gl len M T (app r 32 6).2 F W') => readruns_any (c := c) (F := F) (o := o) hM hT hT1 hd hq hg h0 hlen hn h2 hz hp
    have HD := hid h
    clear hgc hgn hle hp hp1 hpx hx h1 had hF hz h hgr hM hT hk
    generalize (cfin I k (app (app r 32 6) k 5) n).2 = p' at *
    generalize (app r 32 6).2 = p1 at *
    go_enter Try.func55, Try.ntmps55
    go_wp2_with fail
    refine HGC.out.mono ?_
    rintro e w1 ⟨rfl, hrd1, hf1⟩
    have HD1 := hid (HRR.out w1 (HD.out.step hq hrd1 hf1))
    clear hrd1 hf1
    simp only []
    go_wp2_with fail
    refine HD1.out.mono ?_
    rintro e w2 ⟨rfl, hd2⟩
    go_wp2_with fail
    go_ret
    exact ⟨rfl, hd2⟩
  · rw [if_neg (by omega), if_neg (by omega), if_neg (by omega)] at hp ⊢
    have h0 := wy_pos (I := I) (n := n) (by rw [hx, h1]; decide)
    have h4 : x.2.1 = rw_ I n := by rw [← hx]; exact wy_three (by rw [hx]; exact h1)
    obtain rfl := had h0
    rw [h4] at hp h2 h3 ⊢
    have hfit : ∀ j, j < n → -(2 ^ (rw_ I n - 1) : Int) ≤ I j ∧ I j < 2 ^ (rw_ I n - 1) := fun j hj => raw_fits hj hgr
    obtain ⟨k, hk⟩ : ∃ k, rw_ I n = k := ⟨_, rfl⟩
    rw [hk] at hp h2 h3 hfit ⊢
    have hp1 : Pfx (app r 33 6) Q := ((pfx_app (app r 33 6) (v := k) (l := 6) (by omega)).trans (rawc_pfx I k _ 0 n (Nat.zero_le _))).trans hp
    have hgn := pfx_get (v := 33) (l := 6) (by decide) hp1
    have hle := pfx_le ((pfx_app r (v := 33) (l := 6) (by decide)).trans hp1)
    rw [hM, hT] at hgn
    rw [hT] at hle
    have hgc := get_n h.rd hle (by omega) 6 (by decide)
    unfold GetNPost at hgc
    rw [hgn] at hgc
    have HGC := hid hgc
    have HRR := hid fun (W' : World) (hd : Ds w q g0 gl len M T (app r 33 6).2 F W') => readraw_any (c := c) (F := F) (o := o) hM hT hT1 hd hq hg h0 hlen hn h2 h3 hz hfit hp
    have HD := hid h
    clear hgc hgn hle hp hp1 hpx hx h1 had hF hz h hgr hM hT hk h4 hfit
    generalize (rawc I k (app (app r 33 6) k 6) n).2 = p' at *
    generalize (app r 33 6).2 = p1 at *
    go_enter Try.func55, Try.ntmps55
    go_wp2_with fail
    refine HGC.out.mono ?_
    rintro e w1 ⟨rfl, hrd1, hf1⟩
    have HD1 := hid (HRR.out w1 (HD.out.step hq hrd1 hf1))
    clear hrd1 hf1
    simp only []
    go_wp2_with fail
    refine HD1.out.mono ?_
    rintro e w2 ⟨rfl, hd2⟩
    go_wp2_with fail
    go_ret
    exact ⟨rfl, hd2⟩
end Go.Proofs.Ytjimamjhakainaa.Part
