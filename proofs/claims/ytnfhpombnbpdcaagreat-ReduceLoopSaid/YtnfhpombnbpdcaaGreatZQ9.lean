/- Row. No condition but those that stand in each statement. -/
import Derived.Test.YtnfhpombnbpdcaaGreatZQ2
import Derived.Test.YtnfhpombnbpdcaaGreatZQ8
namespace Go.Proofs.YtnfhpombnbpdcaaGreat
open Go.RowKit
end Go.Proofs.YtnfhpombnbpdcaaGreat
