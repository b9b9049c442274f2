/- The function that Join hands on. Conditions: both sounds' boxes. -/
import Derived.Test.YtkdpalmdcnpnoaaJb
namespace Go.Proofs.Ytkdpalmdcnpnoaa.Pcm
open Go.RowKit Gen

end Go.Proofs.Ytkdpalmdcnpnoaa.Pcm
