import Derived.Test.YtfdalbmopaemgaaL3
namespace Go.Proofs.Ytfdalbmopaemgaa
open Go.RowKit

theorem below_app {w0 w w' : World} {B : Nat} {v v' : Value} (hb : Below B w0 w) (ha : AppPost w w' v v') (hv : ∀ g, v.ownBlock = some g → B ≤ g) (hB : B ≤ w.heap.size) : Below B w0 w' := by
  rcases ha with ⟨g, e1, _, hg⟩ | ⟨g, _, _, hg⟩
  · exact hb.trans (below_grownBy hg (hv g e1) hB)
  · exact hb.trans ⟨hg.os, hg.tape, hg.output, hg.size, fun k hk => hg.block k (Nat.lt_of_lt_of_le hk hB) (by intro e; cases e)⟩

theorem hold_new (w1 : World) (T : TypeId) (lv : Value) (m : Int) : ∀ j u, ([lv, .int .i32 m] : List Value)[j]? = some u → (w1.alloc (.cells #[lv, .int .i32 m] T)).cell? ((⟨w1.heap.size, 0, none⟩ : Addr).add j) = some u := by
  intro j u hj
  rw [addp]
  have hlt : j < 2 := by
    have := (List.getElem?_eq_some_iff.1 hj).1
    simpa using this
  have hc : j = 0 ∨ j = 1 := by omega
  rcases hc with rfl | rfl <;> simp at hj <;> subst hj <;> simp [go_sem]

theorem evC_new1 (w1 : World) (T : TypeId) (ev : Ev) : ∀ j u, (evC ev)[j]? = some u → (w1.alloc (.cells #[.int .u8 ev.k, .int .u8 ev.t, .int .u8 ev.a, .int .i32 ev.v, .int .i32 ev.s] T)).cell? ((⟨w1.heap.size, 0, none⟩ : Addr).add j) = some u := by
  intro j u hj
  rw [addp]
  have hlt : j < 5 := by
    have := (List.getElem?_eq_some_iff.1 hj).1
    simpa [evC] using this
  have hc : j = 0 ∨ j = 1 ∨ j = 2 ∨ j = 3 ∨ j = 4 := by omega
  rcases hc with rfl | rfl | rfl | rfl | rfl <;> simp [evC] at hj <;> subst hj <;> simp [go_sem]

theorem own_one_cell {w : World} {B : Nat} {v : Value} {es : List Ev} (h : Own w B v es) : v.oneCell' = true := by
  obtain ⟨a, c, rfl⟩ := h.form
  rfl

theorem hold_cells_one (lv : Value) (m : Int) (h : lv.oneCell' = true) : ∀ u ∈ ([lv, .int .i32 m] : List Value), u.oneCell' = true := by
  intro u hu
  simp at hu
  rcases hu with rfl | rfl
  · exact h
  · rfl

theorem ownsRow_form {w : World} {b : Nat} {e : TypeId} {size : Nat} {v : Value} {n : Nat} {xs : List Value} (h : w.ownsRow b e size v n xs) : ∃ a c, v = .slice a n c := by
  rcases h.2 with ⟨rfl, h0⟩ | ⟨g, cap, cur, rfl, _⟩
  · exact ⟨none, 0, by rw [h0]⟩
  · exact ⟨_, cap, rfl⟩

/-! ### looks -/
end Go.Proofs.Ytfdalbmopaemgaa
