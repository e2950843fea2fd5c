/- Package pattern's small functions: checkNets, ones, countOnes, serving's functions. -/
import Derived.Test.YtdejjplkignaoaaStream
import Derived.Test.YtdejjplkignaoaaVgM
namespace Go.Proofs.Ytdejjplkignaoaa
open Go.RowKit

/-- What is wrong with a number of nets. -/
def netsErr (n : Int) : Int := if 1 ≤ n ∧ n ≤ 100 then 0 else 1
theorem popN_le (n : Nat) : popN n ≤ 10 := by
  unfold popN
  have := List.length_filter_le (fun i => n.testBit i) (List.range 10)
  simpa using this

end Go.Proofs.Ytdejjplkignaoaa
