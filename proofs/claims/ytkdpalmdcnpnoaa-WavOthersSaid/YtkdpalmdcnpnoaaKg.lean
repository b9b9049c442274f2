/- Cut of pcm: its part lies in new memory. Condition: the sound's lists lie in their room. -/
import Derived.Test.YtkdpalmdcnpnoaaKc
import Derived.Test.YtkdpalmdcnpnoaaJf
namespace Go.Proofs.Ytkdpalmdcnpnoaa.Pcm
open Go.RowKit Gen

/-- What Cut answers: the part in new memory, or none. -/
def SndNew (w : World) (code : Int) (ok : Dat → Prop) (e : Ending) (w' : World) : Prop := ∃ d : Dat, e = .returned (.tuple #[d.v, .int .i64 code]) ∧ Snd w' d ∧ Below w.heap.size w w' ∧ (code = 0 → ok d ∧ NewSnd w.heap.size w' d) ∧ (code ≠ 0 → d = Dat.nil)

end Go.Proofs.Ytkdpalmdcnpnoaa.Pcm
