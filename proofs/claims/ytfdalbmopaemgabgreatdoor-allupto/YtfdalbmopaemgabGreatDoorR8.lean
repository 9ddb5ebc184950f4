import Derived.Test.YtfdalbmopaemgabGreatDoorR7
namespace Go.Proofs.YtfdalbmopaemgabGreatDoor
open Go.RowKit

def emptyL (e : Ev) : Bool :=
  if e.k = 1 then e.v == 0 && e.s == 0 else if e.k = 2 then e.v == 0 else if e.k = 3 then e.s == 0 else if e.k = 4 then true else e.a == 0 && e.v == 0 && e.s == 0

def wrongL (h : List Ev) (e : Ev) : Int :=
  if 60 ≤ h.length then 1
  else if isKind e.k = false then 3
  else if e.k = 1 ∧ (15 ≤ countL h ∨ e.t ≠ (countL h : Int) + 1) then 4
  else if e.k = 1 ∧ e.a ≠ 0 ∧ openL h e.a = false then 5
  else if e.k ≠ 1 ∧ openL h e.t = false then 4
  else if 2 ≤ e.k ∧ e.k ≤ 4 ∧ 4 ≤ e.a then 6
  else if emptyL e = false then 7
  else if e.k = 5 ∧ childL h e.t = true then 8
  else 0

def checkG : List Ev → List Ev → Int × Int
  | _, [] => (0, 0)
  | pre, e :: l => if wrongL pre e = 0 then checkG (pre ++ [e]) l else (wrongL pre e, (pre.length : Int))

theorem kinds6 {k : Int} (h : isKind k = true) : k = 1 ∨ k = 2 ∨ k = 3 ∨ k = 4 ∨ k = 5 ∨ k = 6 := by
  unfold isKind at h
  simp at h
  omega

set_option maxRecDepth 100000 in
set_option maxHeartbeats 1000000 in
theorem refEmpty (e : Ev) (w : World) (hk : isKind e.k = true) :
    Calls Tryz.prog 78 #[evV e] w fun r w' => r = .returned (.bool (emptyL e)) ∧ Below w.heap.size w w' := by
  obtain ⟨k, t, a, v, s⟩ := e
  have hba : ∀ o, Below w.heap.size w (w.alloc o) := fun o => (Below.refl _ _).alloc (Nat.le_refl _) o
  have hc := kinds6 hk
  simp only at hc
  clear hk
  cases h1 : (v == 0) <;> cases h2 : (s == 0) <;> cases h3 : (a == 0) <;> rcases hc with rfl | rfl | rfl | rfl | rfl | rfl
  all_goals
    go_enter Tryz.func78, Tryz.ntmps78
    go_wp2_with fail
    go_ret
    exact ⟨ret_bool (by simp [emptyL, h1, h2, h3]), hba _⟩

end Go.Proofs.YtfdalbmopaemgabGreatDoor
