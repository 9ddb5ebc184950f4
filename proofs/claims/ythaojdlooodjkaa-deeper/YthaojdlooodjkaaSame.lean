import Derived.Test.YthaojdlooodjkaaW8
namespace Go.Proofs.Ythaojdlooodjkaa
open Go.RowKit

/-! ### sameEvents -/
end Go.Proofs.Ythaojdlooodjkaa
