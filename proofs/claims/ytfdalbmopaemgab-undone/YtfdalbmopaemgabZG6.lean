import Derived.Test.YtfdalbmopaemgabZG5
namespace Go.Proofs.Ytfdalbmopaemgab
open Go.RowKit

end Go.Proofs.Ytfdalbmopaemgab
