import Derived.Test.YtfdalbmopaemgabGreatDoorK4
namespace Go.Proofs.YtfdalbmopaemgabGreatDoor
open Go.RowKit

def strayL (e : Ev) : Bool := (e.a != 0 && !nArg e.k) || (e.v != 0 && !nVal e.k) || (e.s != 0 && !nSeen e.k)

theorem three (x : Int) (n : Bool) : (x != 0) = false ∨ ((x != 0) = true ∧ n = true) ∨ ((x != 0) = true ∧ n = false) := by
  cases (x != 0) <;> cases n <;> simp

set_option maxRecDepth 100000 in
set_option maxHeartbeats 4000000 in
theorem stray_any (e : Ev) (w : World) :
    Calls Tryz.prog 111 #[evV e] w fun r w' => r = .returned (.bool (strayL e)) ∧ Below w.heap.size w w' := by
  obtain ⟨k, t, a, v, s⟩ := e
  have hba : ∀ o, Below w.heap.size w (w.alloc o) := fun o => (Below.refl _ _).alloc (Nat.le_refl _) o
  rcases three a (nArg k) with ha | ⟨ha, hA⟩ | ⟨ha, hA⟩ <;> rcases three v (nVal k) with hv | ⟨hv, hV⟩ | ⟨hv, hV⟩ <;> rcases three s (nSeen k) with hs | ⟨hs, hS⟩ | ⟨hs, hS⟩
  all_goals
    have HV := hidIt (show strayL ⟨k, t, a, v, s⟩ = _ by simp only [strayL, *]; rfl)
    go_enter Tryz.func111, Tryz.ntmps111
    go_wp2_with (first | (go_at_call 105; refine (namesArg_any _ _).mono ?_; rintro r w' ⟨rfl, rfl⟩) | (go_at_call 106; refine (namesValue_any _ _).mono ?_; rintro r w' ⟨rfl, rfl⟩) | (go_at_call 80; refine (namesSeen_any _ _).mono ?_; rintro r w' ⟨rfl, rfl⟩))
    go_ret
    exact ⟨ret_bool HV.out.symm, hba _⟩

end Go.Proofs.YtfdalbmopaemgabGreatDoor
