/- What Broken answers, as plain functions: the places, and the error. -/
import Derived.Test.YtglggigndhbpcaaZHasks
import Derived.Test.YtglggigndhbpcaaZHs
import Derived.Test.YtglggigndhbpcaaZOwn
import Derived.Test.YtglggigndhbpcaaZWpl
import Derived.Deep.RegionHeld3
namespace Go.Proofs.Ytglggigndhbpcaa
open Go.RowKit

def bkR (m : List Int) (l : List Cl) : List Int := if brkOk m l = true then brkL m l else []
def bkE (m : List Int) (l : List Cl) : Int := if brkOk m l = true then 0 else 1
end Go.Proofs.Ytglggigndhbpcaa
