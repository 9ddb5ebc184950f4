import Derived.Test.YtfdalbmopaemgaaChecked

import Derived.Test.YtfdalbmopaemgaaPlain
import Derived.WalkKit
import Derived.WalkSpells
import Derived.WalkLawsBesides
namespace Go.Proofs.Ytfdalbmopaemgaa
open Go.RowKit

theorem ret_bool {a b : Bool} (h : a = b) : Ending.returned (.bool a) = .returned (.bool b) := by rw [h]
theorem ret_int {k : IntKind} {a b : Int} (h : a = b) : Ending.returned (.int k a) = .returned (.int k b) := by rw [h]
theorem ret_str {a b : List UInt8} (h : a = b) : Ending.returned (.string ⟨a.toArray⟩) = .returned (.string ⟨b.toArray⟩) := by rw [h]

/-! ### The library's table -/
theorem below_grow (w : World) (k : Nat) (os : Array Obj) : Below w.heap.size w (Sort.grow (w.drewN k) os) :=
  ⟨rfl, rfl, rfl, by simp, fun _ h => Sort.heap_grow_old (w.drewN k) os h⟩

/-! ### Small functions of the kinds -/
set_option maxHeartbeats 400000 in
theorem onObject_any (k : Int) (w : World) :
    Calls Try.prog 38 #[.int .u8 k] w fun e w' => e = .returned (.bool (onObj k)) ∧ w' = w := by
  unfold onObj
  go_enter Try.func38, Try.ntmps38
  go_wp2
  all_goals (go_ret; exact ⟨by simp [*], rfl⟩)

set_option maxHeartbeats 400000 in
theorem namesArg_any (k : Int) (w : World) :
    Calls Try.prog 59 #[.int .u8 k] w fun e w' => e = .returned (.bool (nArg k)) ∧ w' = w := by
  unfold nArg
  go_enter Try.func59, Try.ntmps59
  go_wp2_with (go_at_call 38; refine (onObject_any _ _).mono ?_; rintro e w' ⟨rfl, rfl⟩)
  all_goals (go_ret; exact ⟨by simp [*], rfl⟩)

set_option maxHeartbeats 400000 in
theorem namesValue_any (k : Int) (w : World) :
    Calls Try.prog 60 #[.int .u8 k] w fun e w' => e = .returned (.bool (nVal k)) ∧ w' = w := by
  unfold nVal
  go_enter Try.func60, Try.ntmps60
  go_wp2
  all_goals (go_ret; exact ⟨by simp [*], rfl⟩)

set_option maxHeartbeats 400000 in
theorem namesSeen_any (k : Int) (w : World) :
    Calls Try.prog 28 #[.int .u8 k] w fun e w' => e = .returned (.bool (nSeen k)) ∧ w' = w := by
  unfold nSeen
  go_enter Try.func28, Try.ntmps28
  go_wp2
  all_goals (go_ret; exact ⟨by simp [*], rfl⟩)

set_option maxHeartbeats 400000 in
theorem letter_any (k : Int) (w : World) (h0 : 0 ≤ k) (h1 : k ≤ 255) :
    Calls Try.prog 40 #[.int .u8 k] w fun e w' => e = .returned (.string ⟨(letterL k).toArray⟩) ∧ w' = w := by
  have hc : k = 0 ∨ k = 1 ∨ k = 2 ∨ k = 3 ∨ k = 4 ∨ k = 5 ∨ k = 6 ∨ 7 ≤ k := by omega
  rcases hc with rfl | rfl | rfl | rfl | rfl | rfl | rfl | hc
  all_goals try (go_enter Try.func40, Try.ntmps40; go_wp2; go_ret; exact ⟨rfl, rfl⟩)
  have e : letterL k = [] := by unfold letterL; rw [if_neg (by omega), if_neg (by omega), if_neg (by omega), if_neg (by omega), if_neg (by omega), if_neg (by omega)]
  rw [e]
  clear e
  go_enter Try.func40, Try.ntmps40
  go_wp2
  go_ret
  exact ⟨rfl, rfl⟩

theorem letters_at (k : Nat) (c : UInt8) (hp : k < (⟨#[66, 82, 87, 65, 67, 88]⟩ : ByteArray).size) : (((((⟨#[66, 82, 87, 65, 67, 88]⟩ : ByteArray)[k]'hp).toNat : Int) == (c.toNat : Int)) = true → kindOfL c = (k : Int) + 1) ∧
    (((((⟨#[66, 82, 87, 65, 67, 88]⟩ : ByteArray)[k]'hp).toNat : Int) == (c.toNat : Int)) = false → c ≠ ([66, 82, 87, 65, 67, 88] : List UInt8).getD k 0) := by
  have hk : k < 6 := hp
  have hm : k = 0 ∨ k = 1 ∨ k = 2 ∨ k = 3 ∨ k = 4 ∨ k = 5 := by omega
  constructor
  · intro h
    have hc : (⟨#[66, 82, 87, 65, 67, 88]⟩ : ByteArray)[k]'hp = c := UInt8.toNat_inj.1 (by have := beq_iff_eq.1 h; omega)
    subst hc
    rcases hm with rfl | rfl | rfl | rfl | rfl | rfl <;> rfl
  · intro h e
    subst e
    rcases hm with rfl | rfl | rfl | rfl | rfl | rfl <;> simp at h <;> exact absurd rfl h

theorem kindOf_none (c : UInt8) (h : ∀ j, j < 6 → c ≠ ([66, 82, 87, 65, 67, 88] : List UInt8).getD j 0) : kindOfL c = 0 := by
  have h0 := h 0 (by omega)
  have h1 := h 1 (by omega)
  have h2 := h 2 (by omega)
  have h3 := h 3 (by omega)
  have h4 := h 4 (by omega)
  have h5 := h 5 (by omega)
  simp at h0 h1 h2 h3 h4 h5
  simp [kindOfL, *]

theorem app_str (a b : List UInt8) : (⟨a.toArray⟩ ++ ⟨b.toArray⟩ : ByteArray) = ⟨(a ++ b).toArray⟩ := by
  apply ByteArray.ext
  simp

/-! ### The numbers of an event -/
abbrev evV (e : Ev) : Value := .agg #[.int .u8 e.k, .int .u8 e.t, .int .u8 e.a, .int .i32 e.v, .int .i32 e.s]

theorem bcells {B : Nat} {W w1 : World} (hb : Below B W w1) : ∀ b o, b < B → w1.cell? ⟨b, o, none⟩ = W.cell? ⟨b, o, none⟩ := fun b o h => hb.cell (p := ⟨b, o, none⟩) h
theorem bfroz {B : Nat} {W w1 : World} (hb : Below B W w1) : ∀ b o, b < B → w1.frozen? ⟨b, o, none⟩ = W.frozen? ⟨b, o, none⟩ := fun b o h => hb.frozen (p := ⟨b, o, none⟩) h

theorem numL_pos (n : Int) : 0 < (numL n).length := by simp [numL]

end Go.Proofs.Ytfdalbmopaemgaa
