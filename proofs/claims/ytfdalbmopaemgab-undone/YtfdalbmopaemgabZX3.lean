import Derived.Test.YtfdalbmopaemgabZX2
import Derived.Test.YtfdalbmopaemgabZG6
import Derived.Test.YtfdalbmopaemgabZK9
namespace Go.Proofs.Ytfdalbmopaemgab
open Go.RowKit

/-! ### The numbers of a store's events are in their bounds -/
theorem wrap32_in (z : Int) : -2147483648 ≤ wrap32 z ∧ wrap32 z ≤ 2147483647 := by unfold wrap32; omega

theorem isL_in {es : List Ev} (h : ∀ e ∈ es, e.Ok) (t x : Int) : -2147483648 ≤ isL es t x ∧ isL es t x ≤ 2147483647 := by
  have main : ∀ k, -2147483648 ≤ isG es t x k ∧ isG es t x k ≤ 2147483647 := by
    intro k
    induction k with
    | zero => unfold isG; omega
    | succ k ih =>
      unfold isG
      cases he : es[k]? with
      | none => exact ih
      | some e =>
        simp only
        by_cases hh : isHit es t x e = true
        · rw [if_pos hh]
          unfold madeBy
          have := h e (List.mem_of_getElem? he)
          by_cases h3 : e.k = 3
          · rw [if_pos h3]; exact ⟨this.v0, this.v1⟩
          · rw [if_neg h3]; exact wrap32_in _
        · rw [if_neg hh]; exact ih
  exact main es.length

theorem ok_snoc {es : List Ev} (h : ∀ e ∈ es, e.Ok) {e : Ev} (he : e.Ok) : ∀ x ∈ es ++ [e], x.Ok := fun x hx => by
  rw [List.mem_append, List.mem_singleton] at hx
  rcases hx with hx | rfl
  · exact h x hx
  · exact he

theorem begin_ok {es : List Ev} (h : ∀ e ∈ es, e.Ok) (up : Nat) (hu : up ≤ 255) : ∀ e ∈ (beginR es (up : Int)).1, e.Ok := by
  unfold beginR
  split
  · exact h
  · split
    · exact h
    · split
      · exact h
      · refine ok_snoc h ?_
        constructor <;> simp only <;> omega

theorem end_ok {es : List Ev} (h : ∀ e ∈ es, e.Ok) (k : Int) (hk : k = 5 ∨ k = 6) (t : Nat) (ht : t ≤ 255) : ∀ e ∈ (endR es k (t : Int)).1, e.Ok := by
  unfold endR
  split
  · exact h
  · split
    · exact h
    · split
      · exact h
      · refine ok_snoc h ?_
        constructor <;> simp only <;> omega

theorem access_ok {es : List Ev} (h : ∀ e ∈ es, e.Ok) (k : Int) (hk : k = 2 ∨ k = 3 ∨ k = 4) (t x : Nat) (v : Int) (ht : t ≤ 255) (hx : x ≤ 255) (h0 : -2147483648 ≤ v) (h1 : v ≤ 2147483647) : ∀ e ∈ (accessR es k (t : Int) (x : Int) v).1, e.Ok := by
  have hi := isL_in h (t : Int) (x : Int)
  unfold accessR
  split
  · exact h
  · split
    · exact h
    · split
      · exact h
      · split
        · exact h
        · refine ok_snoc h ?_
          unfold accEv
          constructor <;> simp only
          all_goals first | omega | (split <;> omega)

theorem actR_ok {es : List Ev} (h : ∀ e ∈ es, e.Ok) (d : StD) (hd : d.Ok) : ∀ e ∈ actR es d, e.Ok := by
  unfold actR
  split
  · exact begin_ok h d.t hd.t
  · split
    · exact access_ok h 2 (by omega) d.t d.x 0 hd.t hd.x (by omega) (by omega)
    · split
      · exact access_ok h 3 (by omega) d.t d.x d.v hd.t hd.x hd.v0 hd.v1
      · split
        · exact access_ok h 4 (by omega) d.t d.x d.v hd.t hd.x hd.v0 hd.v1
        · split
          · exact end_ok h 5 (by omega) d.t hd.t
          · split
            · exact end_ok h 6 (by omega) d.t hd.t
            · exact h

theorem actsR_ok : ∀ (ds : List StD) (es : List Ev), (∀ e ∈ es, e.Ok) → (∀ d ∈ ds, d.Ok) → ∀ e ∈ actsR es ds, e.Ok
  | [], es, h, _ => h
  | d :: ds, es, h, hd => by
    show ∀ e ∈ actsR (actR es d) ds, e.Ok
    exact actsR_ok ds _ (actR_ok h d (hd d (List.mem_cons_self ..))) (fun x hx => hd x (List.mem_cons_of_mem _ hx))

theorem StC.len {w : World} {b : Nat} {es : List Ev} (h : StC w b es) : es.length ≤ 60 := by
  obtain ⟨_, _, _, _, _, h⟩ := h
  exact h

theorem StC.rinv {w : World} {b : Nat} {es : List Ev} (h : StC w b es) : ∃ T W, RInv es T W := by
  obtain ⟨T, W, _, q, _, _⟩ := h
  exact ⟨T, W, q.r⟩

/-! ### Serial -/
end Go.Proofs.Ytfdalbmopaemgab
