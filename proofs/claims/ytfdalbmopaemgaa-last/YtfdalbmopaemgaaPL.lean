import Derived.Test.YtfdalbmopaemgaaPLa
import Derived.Test.YtfdalbmopaemgaaPLb
import Derived.Test.YtfdalbmopaemgaaPLc
namespace Go.Proofs.Ytfdalbmopaemgaa
open Go.ChangeShapes Go.WideShapes Go.ChangeAt Go.RowKit

theorem last_walk (a0 a1 a2 : Int) (a3 : Bool) (h00 : 0 ≤ a0) (h10 : -2147483648 ≤ a1) (h11 : a1 ≤ 2147483647) (h20 : -2147483648 ≤ a2) (h21 : a2 ≤ 2147483647) (w : World) :
    Calls Try.prog 3 #[.int .u8 a0, .int .i32 a1, .int .i32 a2, .bool a3] w fun e w' => e = .returned (.bool true) ∧ Below w.heap.size w w' := by
  have hx : a0.tmod 4 = 0 ∨ a0.tmod 4 = 1 ∨ a0.tmod 4 = 2 ∨ a0.tmod 4 = 3 := by rw [Int.tmod_eq_emod_of_nonneg h00]; omega
  cases a3 with
  | false =>
    rcases hx with hx | hx | hx | hx
    · exact last_first0 a0 a1 a2 hx h10 h11 h20 h21 w
    · exact last_first1 a0 a1 a2 hx h10 h11 h20 h21 w
    · exact last_first2 a0 a1 a2 hx h10 h11 h20 h21 w
    · exact last_first3 a0 a1 a2 hx h10 h11 h20 h21 w
  | true =>
    by_cases hv : a1 = 0
    · subst hv
      rcases hx with hx | hx | hx | hx
      · exact last_fits0 a0 a2 hx h20 h21 w
      · exact last_fits1 a0 a2 hx h20 h21 w
      · exact last_fits2 a0 a2 hx h20 h21 w
      · exact last_fits3 a0 a2 hx h20 h21 w
    · have hvn : (a1 != 0) = true := by simpa using hv
      rcases hx with hx | hx | hx | hx
      · exact last_misfit0 a0 a1 a2 hx hv hvn h10 h11 h20 h21 w
      · exact last_misfit1 a0 a1 a2 hx hv hvn h10 h11 h20 h21 w
      · exact last_misfit2 a0 a1 a2 hx hv hvn h10 h11 h20 h21 w
      · exact last_misfit3 a0 a1 a2 hx hv hvn h10 h11 h20 h21 w

end Go.Proofs.Ytfdalbmopaemgaa
