import Derived.Test.YtfdalbmopaemgaaR6
namespace Go.Proofs.Ytfdalbmopaemgaa
open Go.RowKit

theorem any_drop_at {p : Ev → Bool} (l : List Ev) (b k : Nat) (hb : b ≤ k) (hk : k < l.length) (h : p l[k] = true) : (l.drop b).any p = true := by
  rw [List.any_eq_true]
  refine ⟨l[k], ?_, h⟩
  have : (l.drop b)[k - b]'(by rw [List.length_drop]; omega) = l[k] := by
    rw [List.getElem_drop]
    congr 1
    omega
  rw [← this]
  exact List.getElem_mem _

theorem any_drop_none {p : Ev → Bool} (l : List Ev) (b : Nat) (h : ∀ (i : Nat) (hi : i < l.length), b ≤ i → p l[i] = false) : (l.drop b).any p = false := by
  rw [List.any_eq_false]
  intro e he
  obtain ⟨i, hi, rfl⟩ := List.getElem_of_mem he
  rw [List.getElem_drop, h _ _ (by omega)]
  decide

def childL (h : List Ev) (t : Int) : Bool := (List.range 15).any fun i => openL h ((i + 1 : Nat) : Int) && parentL h ((i + 1 : Nat) : Int) == t

end Go.Proofs.Ytfdalbmopaemgaa
