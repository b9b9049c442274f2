/- each: the blocks of bytes are told one behind the other, to any closure. Conditions: at most 2^30 bytes; what the closure is asked stands in its contract. -/
import Derived.Test.YtgcnbeigchppfaaMb
namespace Go.Proofs.Ytgcnbeigchppfaa.Mnd
open Go.RowKit Gen
attribute [local go_sem] Oper.semAt_some

set_option maxHeartbeats 4000000 in
set_option maxRecDepth 100000 in
theorem each_any (kf : FuncId) (caps : Array Value) (hent : ∀ args w, (callFunc kf args).run Try.prog w = .ok (.enter kf args) w) {w : World} {t : Nat} {ba : Option Addr} {b : List Nat} {bn bc : Nat} (hbn : b.length = bn) (hbc : bn ≤ bc) (hm : bn ≤ 1073741824)
    (I : List Nat → World → Prop) (h0 : I [] w) (hI : ∀ S w', I S w' → Crc.Tab w' t ∧ Byts w' ba b) (hkeep : ∀ S w' w'', I S w' → Below w'.heap.size w' w'' → I S w'')
    (hcall : ∀ S w0 w' p (x : Fnd), I S w0 → Below w0.heap.size w0 w' → p < bn → Head.opE (b.drop p) = 0 → FnOk w' b x p → (∀ q, blk x.a = some q → w0.heap.size ≤ q ∧ q < w'.heap.size) → blen b S ≤ p →
      Calls Try.prog kf (#[.agg (fnl x).toArray] ++ caps) w' fun e w'' => e = .returned (.tuple #[]) ∧ I (S ++ [p]) w'' ∧ ∀ k, w0.heap.size ≤ k → k < w'.heap.size → w''.heap[k]? = w'.heap[k]?) :
    Calls Try.prog 27 #[.pointer (some ⟨t, 0, none⟩), .slice ba bn bc, .func (.func kf) #[] caps] w fun e w' => e = .returned (.tuple #[]) ∧ I (sc b 0) w' := by
  have HC := hid hcall
  have HI := hid hI
  have HK := hid hkeep
  have HN := hid (And.intro hbn hbc)
  have H0 := hid h0
  clear hcall hI hkeep h0
  go_enter Try.func27, Try.ntmps27
  go_wp2_with fail
  go_loopg [6] bn (fun gh vp wr => ∃ (p : Nat) (S : List Nat), p ≤ bn ∧ gh = bn - p ∧ vp = .int .i64 (p : Int) ∧ I S wr ∧ S ++ sc b p = sc b 0 ∧ blen b S ≤ p)
  case atStart => exact ⟨0, [], Nat.zero_le _, rfl, rfl, H0.out, rfl, Nat.le_refl _⟩
  case round =>
    clear H0
    obtain ⟨p, S, hp, hgh, rfl, hi, hs, hbl⟩ := hrel
    have HG := hid hgh
    have HII := hid hi
    have HSS := hid hs
    have HBL := hid hbl
    clear hgh hi hs hbl
    by_cases hlt : p < bn
    rotate_left 1
    · obtain rfl : p = bn := by omega
      have hnl : ¬ (p : Int) < (p : Int) := by omega
      have hfin : S = sc b 0 := by rw [← HSS.out, sc_end (by rw [HN.out.1]; exact Nat.le_refl _), List.append_nil]
      go_wp2_with fail
      go_end0
      exact ⟨rfl, hfin ▸ HII.out⟩
    have hlti : (p : Int) < (bn : Int) := by omega
    have hple : (p : Int) ≤ (bn : Int) := by omega
    have hpc : p ≤ bc := by have := HN.out.2; omega
    have hne : ¬ bc = p := by have := HN.out.2; omega
    obtain ⟨bq, bo, rfl⟩ : ∃ bq bo, ba = some ⟨bq, bo, none⟩ := by
      obtain ⟨q, off, e, _⟩ := (HI.out _ _ HII.out).2.at_ 0 _ (List.getElem?_eq_getElem (by rw [HN.out.1]; omega))
      exact ⟨q, off, e⟩
    have hdl : (b.drop p).length = bn - p := by rw [List.length_drop, HN.out.1]
    have HOP := hid (hdl ▸ Head.open_any (cap := bc - p) (HI.out _ _ HII.out).1 ((HI.out _ _ HII.out).2.drop p) (by have := HN.out.2; omega) (by omega) : Calls Try.prog 47 #[.pointer (some ⟨t, 0, none⟩), .slice (some ⟨bq, bo + p, none⟩) (bn - p) (bc - p)] wr (Head.OpenP wr (Head.opH (b.drop p)) (Head.opP (b.drop p)) (Head.opS (b.drop p)) (Head.opE (b.drop p))))
    obtain ⟨r, hr⟩ : ∃ r, b.drop p = r := ⟨_, rfl⟩
    rw [hr] at HOP hdl
    have HR := hid hr
    obtain ⟨eo, heo⟩ : ∃ eo, Head.opE r = eo := ⟨_, rfl⟩
    obtain ⟨hd, hhd⟩ : ∃ hd, Head.opH r = hd := ⟨_, rfl⟩
    rw [heo, hhd] at HOP
    have HEO := hid heo
    have HHD := hid hhd
    have HDL := hid hdl
    clear hr heo hhd hdl
    go_wp2_with fail
    refine HOP.out.mono ?_
    rintro e w2 ⟨ao, co, rfl, hnl⟩
    rw [show Head.hv hd = .agg (Head.hvl hd) from rfl]
    have HNB := hid (show Byts w2 ao (Head.opP r) from hnl.byts)
    have HNQ := hid (show ∀ q, blk ao = some q → wr.heap.size ≤ q ∧ q < w2.heap.size from fun q hq => own_in hnl.own q hq)
    have HB2 := hid hnl.bel
    have HI2 := hid (HK.out _ _ _ HII.out hnl.bel)
    have HAN := hid (heap_alloc_new w2 (.cells #[.int .i64 0, .int .i64 0, .int .i64 0, .int .i64 0, .int .i64 0, .bool false, .int .u32 0, .int .i64 0] 38))
    have hb3 : Below w2.heap.size w2 ((w2.alloc (.cells #[.int .i64 0, .int .i64 0, .int .i64 0, .int .i64 0, .int .i64 0, .bool false, .int .u32 0, .int .i64 0] 38)).setRow w2.heap.size (Head.hvl hd)) := Head.fr_rowBelow (Head.below_new w2 _) (Nat.le_refl _)
    have HX3 := hid (show Head.Bx ((w2.alloc (.cells #[.int .i64 0, .int .i64 0, .int .i64 0, .int .i64 0, .int .i64 0, .bool false, .int .u32 0, .int .i64 0] 38)).setRow w2.heap.size (Head.hvl hd)) w2.heap.size hd from ⟨setRow_heap _ _ _ _ _ _ HAN.out⟩)
    have HI3 := hid (HK.out _ _ _ HI2.out hb3)
    have HNB3 := hid (HNB.out.keep hb3)
    have HSZ3 := hid hb3.size
    have HB3 := hid hb3
    clear hnl hb3 HOP HI2 HNB
    obtain ⟨w3, hw3⟩ : ∃ w3, ((w2.alloc (.cells #[.int .i64 0, .int .i64 0, .int .i64 0, .int .i64 0, .int .i64 0, .bool false, .int .u32 0, .int .i64 0] 38)).setRow w2.heap.size (Head.hvl hd)) = w3 := ⟨_, rfl⟩
    rw [hw3] at HX3 HI3 HNB3 HSZ3 HB3
    have HW3 := hid hw3
    have hwp : wrap64 ((p : Int) + 1) = (p : Int) + 1 := wr_4 (by omega)
    have c0 := HX3.out.c0
    have c1 := HX3.out.c1
    have c2 := HX3.out.c2
    have c3 := HX3.out.c3
    have c4 := HX3.out.c4
    have c5 := HX3.out.c5
    have c6 := HX3.out.c6
    have c7 := HX3.out.c7
    clear hw3
    by_cases hE : eo = 0
    rotate_left 1
    · have hE' : (eo != 0) = true := bne_iff_ne.2 hE
      have hms : sc b p = sc b (p + 1) := sc_miss (by rw [HN.out.1]; exact hlt) (by rw [HR.out, HEO.out]; exact hE)
      have HMS := hid hms
      clear hms
      go_wp2_with (refine wpList_store_row rfl 38 _ _ rfl w2.heap.size (Head.hvl hd) rfl rfl 38 #[.int .i64 0, .int .i64 0, .int .i64 0, .int .i64 0, .int .i64 0, .bool false, .int .u32 0, .int .i64 0] HAN.out (Head.hvl_size hd) rfl (by simp [Head.hvl, Value.oneCell']) ?_; rw [HW3.out])
      go_roundg (bn - (p + 1))
      case measure => rw [HG.out]; omega
      case rel => exact ⟨p + 1, S, by omega, rfl, by first | rfl | go_num, HI3.out, by rw [← HMS.out]; exact HSS.out, by have := HBL.out; omega⟩
    subst hE
    have hho : Head.opE (b.drop p) = 0 := by rw [HR.out]; exact HEO.out
    have HHIT := hid (sc_hit (by rw [HN.out.1]; exact hlt) hho)
    obtain ⟨hrt, hsz', hle, hzl⟩ := Fil.op_ok hho
    rw [HR.out, HHD.out] at hrt hsz'
    rw [HR.out] at hle hzl
    obtain ⟨z, hz⟩ : ∃ z, Head.szn r = z := ⟨_, rfl⟩
    rw [hz] at hsz' hle hzl
    have HCL := hid (HC.out S wr w3 p ⟨p, hd, ao, (Head.opP r).length, co, Head.opS r⟩ HII.out (HB2.out.trans (HB3.out.mono HB2.out.size)) hlt hho ⟨by rw [HR.out]; exact HHD.out.symm, by rw [HR.out], by rw [HR.out]; exact HNB3.out, by rw [HR.out], rfl⟩ (fun q hq => by
      have h1 := HNQ.out q hq
      have h3 := HSZ3.out
      omega) HBL.out)
    have HLG := hid fun w' => Head.long_any hd w'
    rw [if_pos hrt, hsz'] at HLG
    have HSZ := hid hz
    have HLE := hid (show p + (36 + z) ≤ bn from by have h1 := HDL.out; rw [h1] at hle; omega)
    have hwz : wrap64 ((p : Int) + (36 + (z : Int))) = (p : Int) + (36 + (z : Int)) := wr_5 (by omega) (by omega)
    clear hrt hsz' hle hzl hz hho hwp
    go_wp2_with (refine wpList_store_row rfl 38 _ _ rfl w2.heap.size (Head.hvl hd) rfl rfl 38 #[.int .i64 0, .int .i64 0, .int .i64 0, .int .i64 0, .int .i64 0, .bool false, .int .u32 0, .int .i64 0] HAN.out (Head.hvl_size hd) rfl (by simp [Head.hvl, Value.oneCell']) ?_; rw [HW3.out])
    refine HCL.out.mono ?_
    rintro e w4 ⟨rfl, hi4, hst⟩
    have HI4 := hid hi4
    have HX4 := hid (show Head.Bx w4 w2.heap.size hd from ⟨(hst _ HB2.out.size HX3.out.lt).trans HX3.out.row⟩)
    clear hi4 hst HCL c0 c1 c2 c3 c4 c5 c6 c7
    have c0 := HX4.out.c0
    have c1 := HX4.out.c1
    have c2 := HX4.out.c2
    have c3 := HX4.out.c3
    have c4 := HX4.out.c4
    have c5 := HX4.out.c5
    have c6 := HX4.out.c6
    have c7 := HX4.out.c7
    go_wp2_with fail
    refine (HLG.out _).mono ?_
    rintro e w5 ⟨rfl, hb5⟩
    have HI5 := hid (HK.out _ _ _ HI4.out hb5)
    clear hb5 c0 c1 c2 c3 c4 c5 c6 c7
    go_wp2_with fail
    go_roundg (bn - (p + (36 + z)))
    case measure => rw [HG.out]; have := HLE.out; omega
    case rel => exact ⟨p + (36 + z), S ++ [p], HLE.out, rfl, by first | rfl | go_num | (rw [hwz]; go_num), HI5.out, by rw [← HSS.out, HHIT.out, HR.out, HSZ.out]; simp, by rw [blen_snoc, HR.out, HSZ.out]; have := HBL.out; omega⟩
end Go.Proofs.Ytgcnbeigchppfaa.Mnd
