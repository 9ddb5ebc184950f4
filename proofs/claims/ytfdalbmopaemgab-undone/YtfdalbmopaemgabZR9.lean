import Derived.Test.YtfdalbmopaemgabZC
namespace Go.Proofs.Ytfdalbmopaemgab
open Go.RowKit

theorem checkG_stop (es : List Ev) (k : Nat) (hk : k < es.length) (h : wrongL (es.take k) es[k] ≠ 0) : checkG (es.take k) (es.drop k) = (wrongL (es.take k) es[k], (k : Int)) := by
  rw [List.drop_eq_getElem_cons hk, checkG, if_neg h, List.length_take, Nat.min_eq_left (by omega)]
theorem checkG_on (es : List Ev) (k : Nat) (hk : k < es.length) (h : wrongL (es.take k) es[k] = 0) : checkG (es.take k) (es.drop k) = checkG (es.take (k + 1)) (es.drop (k + 1)) := by
  rw [List.drop_eq_getElem_cons hk, checkG, if_pos h, List.take_succ_eq_append_getElem hk]

theorem SlEv.head {w : World} {a : Option Addr} {c c' : Nat} {es : List Ev} (h : SlEv w (.slice a es.length c) es) (k : Nat) (hk : k ≤ es.length) : SlEv w (.slice a k c') (es.take k) := by
  have hl : (es.take k).length = k := by rw [List.length_take]; omega
  rcases h with ⟨rfl, _⟩ | ⟨b, off, c1, h1, h2, h3⟩
  · obtain rfl : k = 0 := by simpa using hk
    exact Or.inl ⟨by simp, a, c', rfl⟩
  · simp only [Value.slice.injEq] at h1
    obtain ⟨rfl, _, _⟩ := h1
    refine Or.inr ⟨b, off, c', by rw [hl], h2, fun i hi => ?_⟩
    have := h3 i (by rw [hl] at hi; omega)
    rw [List.getElem_take]
    exact this

def CheckPost (w : World) (es : List Ev) (r : Ending) (w' : World) : Prop :=
  r = .returned (.tuple #[.int .i64 (checkG [] es).1, .int .i64 (checkG [] es).2]) ∧ Below w.heap.size w w'

end Go.Proofs.Ytfdalbmopaemgab
