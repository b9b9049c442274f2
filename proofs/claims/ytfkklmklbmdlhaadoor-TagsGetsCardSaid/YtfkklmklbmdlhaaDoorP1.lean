/- The bytes of tags, and their sum: of lists, and of the program's calls. Conditions: those that each lemma names. -/
import Derived.Test.YtfkklmklbmdlhaaDoorSum
import Derived.Test.YtfkklmklbmdlhaaDoorTa4
import Derived.Test.YtfkklmklbmdlhaaDoorU5
namespace Go.Proofs.YtfkklmklbmdlhaaDoor.Tg
open Go.RowKit Gen Fld
open Crc hiding hid

/-- The sum of bytes. -/
def cs (l : List Nat) : Nat := sm (fun i => l.getD i 0) l.length 0
theorem getD_lt {l : List Nat} (h : ∀ b ∈ l, b < 256) (i : Nat) : l.getD i 0 < 256 := by
  by_cases hi : i < l.length
  · rw [List.getD_eq_getElem?_getD, List.getElem?_eq_getElem hi]; exact h _ (List.getElem_mem hi)
  · rw [List.getD_eq_getElem?_getD, List.getElem?_eq_none (by omega)]; decide
theorem cs_lt {l : List Nat} (h : ∀ b ∈ l, b < 256) : cs l < 4294967296 := sm_lt (getD_lt h) _ _ (by decide)
theorem byts_f {w : World} {a : Option Addr} {l : List Nat} (h : Byts w a l) : Bytf w a l.length (fun i => l.getD i 0) :=
  ⟨getD_lt h.lt, fun j hj => by
    obtain ⟨b, off, e, hc⟩ := h.at_ j (l[j]) (List.getElem?_eq_getElem hj)
    refine ⟨b, off, e, ?_⟩
    rw [hc, List.getD_eq_getElem?_getD, List.getElem?_eq_getElem hj]; rfl⟩
theorem tsum_any {w : World} {g : Nat} (h : Tab w g) {a : Option Addr} {l : List Nat} {cap : Nat} (hb : Byts w a l) (hl : l.length ≤ 1099511627776) :
    Calls Tryd.prog 45 #[.pointer (some ⟨g, 0, none⟩), .slice a l.length cap] w fun e w' => e = .returned (.int .u32 (cs l : Int)) ∧ w = w' := sum_any h (byts_f hb) hl
theorem rcsum_any {w : World} {a : Option Addr} {l : List Nat} {cap : Nat} (hb : Byts w a l) (hl : l.length ≤ 1099511627776) :
    Calls Tryd.prog 54 #[.slice a l.length cap] w fun e w' => e = .returned (.int .u32 (cs l : Int)) ∧ w = w' := rsum_any (byts_f hb) hl
theorem uerr_four (v : Nat) (h : v < 4294967296) : uErr v 4 = 0 := by
  unfold uErr
  rw [if_neg (by omega), if_neg]
  have : (2 : Nat) ^ (8 * (4 : Int).toNat) = 4294967296 := by decide
  omega
theorem uerr_one (v : Nat) (h : v < 256) : uErr v 1 = 0 := by
  unfold uErr
  rw [if_neg (by omega), if_neg]
  have : (2 : Nat) ^ (8 * (1 : Int).toNat) = 256 := by decide
  omega
theorem uerr_two (v : Nat) (h : v < 65536) : uErr v 2 = 0 := by
  unfold uErr
  rw [if_neg (by omega), if_neg]
  have : (2 : Nat) ^ (8 * (2 : Int).toNat) = 65536 := by decide
  omega

/-- A tag's bytes. -/
def tby (t : Tag) : List Nat := le t.k.size 1 ++ sb t.k ++ (le t.v.size 2 ++ sb t.v)
/-- Those of all tags. -/
def tbs : List Tag → List Nat
  | [] => []
  | t :: l => tby t ++ tbs l
theorem tbs_app : ∀ l m : List Tag, tbs (l ++ m) = tbs l ++ tbs m
  | [], _ => rfl
  | t :: l, m => by show tby t ++ tbs (l ++ m) = _; rw [tbs_app l m, ← List.append_assoc]; rfl
/-- What the sum is of. -/
def bod (l : List Tag) : List Nat := [84, 71] ++ le l.length 1 ++ tbs l
/-- The bytes of tags. -/
def pby (l : List Tag) : List Nat := bod l ++ le (cs (bod l)) 4
theorem tby_lt (t : Tag) : ∀ b ∈ tby t, b < 256 := by
  intro b hb
  unfold tby at hb
  simp only [List.mem_append] at hb
  rcases hb with (hb | hb) | (hb | hb)
  · exact le_lt _ _ b hb
  · exact sb_lt _ b hb
  · exact le_lt _ _ b hb
  · exact sb_lt _ b hb
theorem tbs_lt : ∀ (l : List Tag), ∀ b ∈ tbs l, b < 256
  | [], b, hb => by cases hb
  | t :: l, b, hb => by
    rcases List.mem_append.1 hb with hb | hb
    · exact tby_lt t b hb
    · exact tbs_lt l b hb
theorem bod_lt (l : List Tag) : ∀ b ∈ bod l, b < 256 := by
  intro b hb
  unfold bod at hb
  simp only [List.mem_append] at hb
  rcases hb with (hb | hb) | hb
  · simp at hb; omega
  · exact le_lt _ _ b hb
  · exact tbs_lt l b hb
theorem pby_lt (l : List Tag) : ∀ b ∈ pby l, b < 256 := by
  intro b hb
  rcases List.mem_append.1 hb with hb | hb
  · exact bod_lt l b hb
  · exact le_lt _ _ b hb
/-- A tag's texts are short enough for its fields. -/
def Ft (t : Tag) : Prop := t.k.size < 256 ∧ t.v.size < 65536
theorem tby_len (t : Tag) : (tby t).length = t.k.size + t.v.size + 3 := by
  unfold tby
  simp only [List.length_append, le_len, sb_len]
  omega
theorem tbs_len : ∀ (l : List Tag), (∀ t ∈ l, Ft t) → (tbs l).length ≤ l.length * 65794
  | [], _ => Nat.zero_le _
  | t :: l, h => by
    have h1 := tbs_len l (fun x hx => h x (by simp [hx]))
    have h2 := h t (by simp)
    unfold Ft at h2
    show (tby t ++ tbs l).length ≤ (l.length + 1) * 65794
    rw [List.length_append, tby_len]
    omega
end Go.Proofs.YtfkklmklbmdlhaaDoor.Tg
