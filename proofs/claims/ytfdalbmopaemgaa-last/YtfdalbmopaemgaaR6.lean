import Derived.Test.YtfdalbmopaemgaaR5
namespace Go.Proofs.Ytfdalbmopaemgaa
open Go.RowKit

theorem countL_take (es : List Ev) (k : Nat) (h : k < es.length) : countL (es.take (k + 1)) = countL (es.take k) + (if es[k].k == 1 then 1 else 0) := by
  unfold countL
  rw [List.take_succ_eq_append_getElem h, List.filter_append, List.length_append]
  congr 1
  cases hq : (es[k].k == 1) <;> simp [List.filter, hq]

theorem countL_le (es : List Ev) : countL es ≤ es.length := List.length_filter_le ..

theorem ret_u8 {a b : Int} (h : a = b) : Ending.returned (.int .u8 a) = .returned (.int .u8 b) := by rw [h]

end Go.Proofs.Ytfdalbmopaemgaa
