import Derived.Test.YtfdalbmopaemgaaG6
import Derived.Test.YtfdalbmopaemgaaEqV
import Derived.Test.YtfdalbmopaemgaaRows
import Derived.ProofKit
import Derived.OpenShut
namespace Go.Proofs.Ytfdalbmopaemgaa
open Go.ChangeShapes Go.WideShapes Go.ChangeAt Go.RowKit

/-! ### Last -/
def lastEs (x v w t5 t6 : Int) : List Ev := [⟨1, 1, 0, 0, 0⟩, ⟨1, 2, 0, 0, 0⟩, ⟨3, 1, x, v, 0⟩, ⟨4, 2, x, w, v⟩, ⟨5, t5, 0, 0, 0⟩, ⟨5, t6, 0, 0, 0⟩]

theorem last_check (x v w : Int) (hx : x = 0 ∨ x = 1 ∨ x = 2 ∨ x = 3) : checkG [] (lastEs x v w 1 2) = (0, 0) := by
  rcases hx with rfl | rfl | rfl | rfl <;> rfl
theorem last_check2 (x v w : Int) (hx : x = 0 ∨ x = 1 ∨ x = 2 ∨ x = 3) : checkG [] (lastEs x v w 2 1) = (0, 0) := by
  rcases hx with rfl | rfl | rfl | rfl <;> rfl
theorem last_order (x v w : Int) : orderL (lastEs x v w 1 2) = [2, 3] := by rfl
theorem last_order2 (x v w : Int) : orderL (lastEs x v w 2 1) = [3, 2] := by rfl

theorem last_first (x : Nat) (hx : x < 4) (v w : Int) : replayG (lastEs (x : Int) v w 1 2) = (-1, upd (upd (fun _ => 0) x v) x (wrap32 (v + w)), 0) := by
  unfold replayG
  rw [last_check (x : Int) v w (by omega), if_pos rfl, last_order]
  have h2 : (lastEs (x : Int) v w 1 2)[2]? = some ⟨3, 1, (x : Int), v, 0⟩ := rfl
  have h3 : (lastEs (x : Int) v w 1 2)[3]? = some ⟨4, 2, (x : Int), w, v⟩ := rfl
  rw [playL, h2]
  simp only [nSeen, becL, Int.toNat_natCast]
  rw [if_neg (by simp), if_pos trivial, playL, h3]
  simp only [nSeen, becL, Int.toNat_natCast]
  rw [if_neg (by simp [upd]), if_neg (by simp), if_pos trivial]
  simp only [playL]

theorem last_fits (x : Nat) (hx : x < 4) (w : Int) : replayG (lastEs (x : Int) 0 w 2 1) = (-1, upd (upd (fun _ => 0) x (wrap32 (0 + w))) x 0, 0) := by
  unfold replayG
  rw [last_check2 (x : Int) 0 w (by omega), if_pos rfl, last_order2]
  have h2 : (lastEs (x : Int) 0 w 2 1)[2]? = some ⟨3, 1, (x : Int), 0, 0⟩ := rfl
  have h3 : (lastEs (x : Int) 0 w 2 1)[3]? = some ⟨4, 2, (x : Int), w, 0⟩ := rfl
  rw [playL, h3]
  simp only [nSeen, becL, Int.toNat_natCast]
  rw [if_neg (by simp), if_neg (by simp), if_pos trivial, playL, h2]
  simp only [nSeen, becL, Int.toNat_natCast]
  rw [if_neg (by simp), if_pos trivial]
  simp only [playL]

theorem last_misfit (x : Nat) (hx : x < 4) (v w : Int) (hv : v ≠ 0) : replayG (lastEs (x : Int) v w 2 1) = (3, fun _ => 0, 0) := by
  unfold replayG
  rw [last_check2 (x : Int) v w (by omega), if_pos rfl, last_order2]
  have h3 : (lastEs (x : Int) v w 2 1)[3]? = some ⟨4, 2, (x : Int), w, v⟩ := rfl
  rw [playL, h3]
  simp only [nSeen, becL, Int.toNat_natCast]
  rw [if_pos ⟨by simp, fun q => hv q.symm⟩]
  rfl

theorem last_ok (x v w t5 t6 : Int) (hx0 : 0 ≤ x) (hx : x < 4) (hv0 : -2147483648 ≤ v) (hv1 : v ≤ 2147483647) (hw0 : -2147483648 ≤ w) (hw1 : w ≤ 2147483647) (h5 : 0 ≤ t5 ∧ t5 ≤ 255) (h6 : 0 ≤ t6 ∧ t6 ≤ 255) : ∀ e ∈ lastEs x v w t5 t6, e.Ok := by
  intro e he
  simp only [lastEs, List.mem_cons, List.not_mem_nil, or_false] at he
  rcases he with rfl | rfl | rfl | rfl | rfl | rfl <;> constructor <;> simp only <;> omega

set_option maxRecDepth 100000 in
theorem last_sl (w : World) (x v u t5 t6 : Int) (T : TypeId) (o : Obj) : SlEv ((w.alloc (.cells #[.int .u8 1, .int .u8 1, .int .u8 0, .int .i32 0, .int .i32 0, .int .u8 1, .int .u8 2, .int .u8 0, .int .i32 0, .int .i32 0, .int .u8 3, .int .u8 1, .int .u8 x, .int .i32 v, .int .i32 0, .int .u8 4, .int .u8 2, .int .u8 x, .int .i32 u, .int .i32 v, .int .u8 5, .int .u8 t5, .int .u8 0, .int .i32 0, .int .i32 0, .int .u8 5, .int .u8 t6, .int .u8 0, .int .i32 0, .int .i32 0] T)).alloc o) (.slice (some ⟨w.heap.size, 0, none⟩) 6 6) (lastEs x v u t5 t6) := by
  have hb := fun c => ((Below.refl (w.heap.size + 1) (w.alloc (.cells c T))).alloc (by simp) o)
  refine Or.inr ⟨w.heap.size, 0, 6, rfl, by simp; omega, fun i hi => ?_⟩
  have hc : i = 0 ∨ i = 1 ∨ i = 2 ∨ i = 3 ∨ i = 4 ∨ i = 5 := by simp [lastEs] at hi; omega
  rcases hc with rfl | rfl | rfl | rfl | rfl | rfl
  all_goals
    refine ⟨?_, ?_, ?_, ?_, ?_⟩ <;> rw [bcells (hb _) _ _ (by omega)] <;> simp [go_sem, lastEs]

end Go.Proofs.Ytfdalbmopaemgaa
