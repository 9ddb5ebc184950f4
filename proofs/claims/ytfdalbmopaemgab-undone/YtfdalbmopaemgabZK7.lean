import Derived.Test.YtfdalbmopaemgabZK5
namespace Go.Proofs.Ytfdalbmopaemgab
open Go.RowKit

def faultL (T : Tr) (k : Int) (t a : Nat) (v s : Int) : Int :=
  if isKind k = false then 3 else if txL T k t a ≠ 0 then txL T k t a else if onObj k = true ∧ 4 ≤ a then 6 else if strayL ⟨k, (t : Int), (a : Int), v, s⟩ = true then 7 else if k = 5 ∧ childT T (t : Int) = true then 8 else 0

end Go.Proofs.Ytfdalbmopaemgab
