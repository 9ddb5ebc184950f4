import Derived.Test.YtfdalbmopaemgaaR9
namespace Go.Proofs.Ytfdalbmopaemgaa
open Go.RowKit

theorem tup2i {a b c d : Int} (h : a = b) (h' : c = d) : Ending.returned (.tuple #[.int .i64 a, .int .i64 c]) = .returned (.tuple #[.int .i64 b, .int .i64 d]) := by rw [h, h']

end Go.Proofs.Ytfdalbmopaemgaa
