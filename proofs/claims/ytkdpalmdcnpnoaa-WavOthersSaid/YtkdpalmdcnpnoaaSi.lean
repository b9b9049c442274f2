/- The function that Silence hands on: a list of noughts. Condition: the captured number lies in memory and is from 0 to 2^20. -/
import Derived.Test.YtkdpalmdcnpnoaaBu
namespace Go.Proofs.Ytkdpalmdcnpnoaa.Pcm
open Go.RowKit Gen

end Go.Proofs.Ytkdpalmdcnpnoaa.Pcm
