import Derived.Test.YtfdalbmopaemgaaPLp
namespace Go.Proofs.Ytfdalbmopaemgaa
open Go.ChangeShapes Go.WideShapes Go.ChangeAt Go.RowKit

set_option maxRecDepth 100000 in
set_option maxHeartbeats 4000000 in
theorem last_fits0 (a0 a2 : Int) (hx : a0.tmod 4 = 0) (h20 : -2147483648 ≤ a2) (h21 : a2 ≤ 2147483647) (w : World) :
    Calls Try.prog 3 #[.int .u8 a0, .int .i32 0, .int .i32 a2, .bool true] w fun e w' => e = .returned (.bool true) ∧ Below w.heap.size w w' := by
  have HSL := hidIt (last_sl w 0 0 a2 2 1 23 (.cells #[.int .i32 0, .int .i32 0, .int .i32 0, .int .i32 0] 26))
  have HRP := hidIt (replay_all _ (lastEs 0 0 a2 2 1) _ HSL.out (last_ok 0 0 a2 2 1 (by omega) (by omega) (by omega) (by omega) h20 h21 (by omega) (by omega)) (by simp [lastEs]))
  have HRG := hidIt (last_fits 0 (by omega) a2)
  go_enter Try.func3, Try.ntmps3
  go_wp2_with fail
  refine HRP.out.mono ?_
  rintro r w1 ⟨rfl, hb1⟩
  have hrg : replayG (lastEs 0 0 a2 2 1) = _ := HRG.out
  rw [hrg]
  simp only
  clear hrg
  have c0 : w1.cell? ⟨w.heap.size + 1, 0, none⟩ = some (.int .i32 0) := by rw [bcells hb1 _ _ (by simp)]; simp [go_sem]
  have c1 : w1.cell? ⟨w.heap.size + 1, 1, none⟩ = some (.int .i32 0) := by rw [bcells hb1 _ _ (by simp)]; simp [go_sem]
  have c2 : w1.cell? ⟨w.heap.size + 1, 2, none⟩ = some (.int .i32 0) := by rw [bcells hb1 _ _ (by simp)]; simp [go_sem]
  have c3 : w1.cell? ⟨w.heap.size + 1, 3, none⟩ = some (.int .i32 0) := by rw [bcells hb1 _ _ (by simp)]; simp [go_sem]
  have hz1 : w.heap.size + 1 < w1.heap.size := by have := hb1.size; simp at this; omega
  have hbw : Below w.heap.size w w1 := (((Below.refl _ _).alloc (Nat.le_refl _) _).alloc (by simp) _).trans (hb1.mono (by simp; omega))
  have heqv := Try.eqVals
  go_wp2_with fail
  go_ret
  exact ⟨ret_bool (by simp [upd]), hbw.alloc hbw.size _⟩

set_option maxRecDepth 100000 in
set_option maxHeartbeats 4000000 in
theorem last_fits1 (a0 a2 : Int) (hx : a0.tmod 4 = 1) (h20 : -2147483648 ≤ a2) (h21 : a2 ≤ 2147483647) (w : World) :
    Calls Try.prog 3 #[.int .u8 a0, .int .i32 0, .int .i32 a2, .bool true] w fun e w' => e = .returned (.bool true) ∧ Below w.heap.size w w' := by
  have HSL := hidIt (last_sl w 1 0 a2 2 1 23 (.cells #[.int .i32 0, .int .i32 0, .int .i32 0, .int .i32 0] 26))
  have HRP := hidIt (replay_all _ (lastEs 1 0 a2 2 1) _ HSL.out (last_ok 1 0 a2 2 1 (by omega) (by omega) (by omega) (by omega) h20 h21 (by omega) (by omega)) (by simp [lastEs]))
  have HRG := hidIt (last_fits 1 (by omega) a2)
  go_enter Try.func3, Try.ntmps3
  go_wp2_with fail
  refine HRP.out.mono ?_
  rintro r w1 ⟨rfl, hb1⟩
  have hrg : replayG (lastEs 1 0 a2 2 1) = _ := HRG.out
  rw [hrg]
  simp only
  clear hrg
  have c0 : w1.cell? ⟨w.heap.size + 1, 0, none⟩ = some (.int .i32 0) := by rw [bcells hb1 _ _ (by simp)]; simp [go_sem]
  have c1 : w1.cell? ⟨w.heap.size + 1, 1, none⟩ = some (.int .i32 0) := by rw [bcells hb1 _ _ (by simp)]; simp [go_sem]
  have c2 : w1.cell? ⟨w.heap.size + 1, 2, none⟩ = some (.int .i32 0) := by rw [bcells hb1 _ _ (by simp)]; simp [go_sem]
  have c3 : w1.cell? ⟨w.heap.size + 1, 3, none⟩ = some (.int .i32 0) := by rw [bcells hb1 _ _ (by simp)]; simp [go_sem]
  have hz1 : w.heap.size + 1 < w1.heap.size := by have := hb1.size; simp at this; omega
  have hbw : Below w.heap.size w w1 := (((Below.refl _ _).alloc (Nat.le_refl _) _).alloc (by simp) _).trans (hb1.mono (by simp; omega))
  have heqv := Try.eqVals
  go_wp2_with fail
  go_ret
  exact ⟨ret_bool (by simp [upd]), hbw.alloc hbw.size _⟩

set_option maxRecDepth 100000 in
set_option maxHeartbeats 4000000 in
theorem last_fits2 (a0 a2 : Int) (hx : a0.tmod 4 = 2) (h20 : -2147483648 ≤ a2) (h21 : a2 ≤ 2147483647) (w : World) :
    Calls Try.prog 3 #[.int .u8 a0, .int .i32 0, .int .i32 a2, .bool true] w fun e w' => e = .returned (.bool true) ∧ Below w.heap.size w w' := by
  have HSL := hidIt (last_sl w 2 0 a2 2 1 23 (.cells #[.int .i32 0, .int .i32 0, .int .i32 0, .int .i32 0] 26))
  have HRP := hidIt (replay_all _ (lastEs 2 0 a2 2 1) _ HSL.out (last_ok 2 0 a2 2 1 (by omega) (by omega) (by omega) (by omega) h20 h21 (by omega) (by omega)) (by simp [lastEs]))
  have HRG := hidIt (last_fits 2 (by omega) a2)
  go_enter Try.func3, Try.ntmps3
  go_wp2_with fail
  refine HRP.out.mono ?_
  rintro r w1 ⟨rfl, hb1⟩
  have hrg : replayG (lastEs 2 0 a2 2 1) = _ := HRG.out
  rw [hrg]
  simp only
  clear hrg
  have c0 : w1.cell? ⟨w.heap.size + 1, 0, none⟩ = some (.int .i32 0) := by rw [bcells hb1 _ _ (by simp)]; simp [go_sem]
  have c1 : w1.cell? ⟨w.heap.size + 1, 1, none⟩ = some (.int .i32 0) := by rw [bcells hb1 _ _ (by simp)]; simp [go_sem]
  have c2 : w1.cell? ⟨w.heap.size + 1, 2, none⟩ = some (.int .i32 0) := by rw [bcells hb1 _ _ (by simp)]; simp [go_sem]
  have c3 : w1.cell? ⟨w.heap.size + 1, 3, none⟩ = some (.int .i32 0) := by rw [bcells hb1 _ _ (by simp)]; simp [go_sem]
  have hz1 : w.heap.size + 1 < w1.heap.size := by have := hb1.size; simp at this; omega
  have hbw : Below w.heap.size w w1 := (((Below.refl _ _).alloc (Nat.le_refl _) _).alloc (by simp) _).trans (hb1.mono (by simp; omega))
  have heqv := Try.eqVals
  go_wp2_with fail
  go_ret
  exact ⟨ret_bool (by simp [upd]), hbw.alloc hbw.size _⟩

set_option maxRecDepth 100000 in
set_option maxHeartbeats 4000000 in
theorem last_fits3 (a0 a2 : Int) (hx : a0.tmod 4 = 3) (h20 : -2147483648 ≤ a2) (h21 : a2 ≤ 2147483647) (w : World) :
    Calls Try.prog 3 #[.int .u8 a0, .int .i32 0, .int .i32 a2, .bool true] w fun e w' => e = .returned (.bool true) ∧ Below w.heap.size w w' := by
  have HSL := hidIt (last_sl w 3 0 a2 2 1 23 (.cells #[.int .i32 0, .int .i32 0, .int .i32 0, .int .i32 0] 26))
  have HRP := hidIt (replay_all _ (lastEs 3 0 a2 2 1) _ HSL.out (last_ok 3 0 a2 2 1 (by omega) (by omega) (by omega) (by omega) h20 h21 (by omega) (by omega)) (by simp [lastEs]))
  have HRG := hidIt (last_fits 3 (by omega) a2)
  go_enter Try.func3, Try.ntmps3
  go_wp2_with fail
  refine HRP.out.mono ?_
  rintro r w1 ⟨rfl, hb1⟩
  have hrg : replayG (lastEs 3 0 a2 2 1) = _ := HRG.out
  rw [hrg]
  simp only
  clear hrg
  have c0 : w1.cell? ⟨w.heap.size + 1, 0, none⟩ = some (.int .i32 0) := by rw [bcells hb1 _ _ (by simp)]; simp [go_sem]
  have c1 : w1.cell? ⟨w.heap.size + 1, 1, none⟩ = some (.int .i32 0) := by rw [bcells hb1 _ _ (by simp)]; simp [go_sem]
  have c2 : w1.cell? ⟨w.heap.size + 1, 2, none⟩ = some (.int .i32 0) := by rw [bcells hb1 _ _ (by simp)]; simp [go_sem]
  have c3 : w1.cell? ⟨w.heap.size + 1, 3, none⟩ = some (.int .i32 0) := by rw [bcells hb1 _ _ (by simp)]; simp [go_sem]
  have hz1 : w.heap.size + 1 < w1.heap.size := by have := hb1.size; simp at this; omega
  have hbw : Below w.heap.size w w1 := (((Below.refl _ _).alloc (Nat.le_refl _) _).alloc (by simp) _).trans (hb1.mono (by simp; omega))
  have heqv := Try.eqVals
  go_wp2_with fail
  go_ret
  exact ⟨ret_bool (by simp [upd]), hbw.alloc hbw.size _⟩

end Go.Proofs.Ytfdalbmopaemgaa
