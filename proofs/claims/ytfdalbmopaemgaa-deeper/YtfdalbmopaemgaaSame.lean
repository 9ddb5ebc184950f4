import Derived.Test.YtfdalbmopaemgaaW8
namespace Go.Proofs.Ytfdalbmopaemgaa
open Go.RowKit

/-! ### sameEvents -/
end Go.Proofs.Ytfdalbmopaemgaa
