import Derived.Test.YtfdalbmopaemgabZR9
import Derived.Test.YtfdalbmopaemgabZK8
namespace Go.Proofs.Ytfdalbmopaemgab
open Go.RowKit

theorem tup2i {a b c d : Int} (h : a = b) (h' : c = d) : Ending.returned (.tuple #[.int .i64 a, .int .i64 c]) = .returned (.tuple #[.int .i64 b, .int .i64 d]) := by rw [h, h']

end Go.Proofs.Ytfdalbmopaemgab

namespace Go.Proofs.Ytfdalbmopaemgab
open Go.RowKit

theorem tr_new (w : World) (T : TypeId) : TrAt (w.alloc (.cells #[.int .u8 0, .int .u8 0, .int .u8 0, .int .u8 0, .int .u8 0, .int .u8 0, .int .u8 0, .int .u8 0, .int .u8 0, .int .u8 0, .int .u8 0, .int .u8 0, .int .u8 0, .int .u8 0, .int .u8 0, .int .u8 0, .int .u8 0, .bool false, .bool false, .bool false, .bool false, .bool false, .bool false, .bool false, .bool false, .bool false, .bool false, .bool false, .bool false, .bool false, .bool false, .bool false, .bool false] T)) w.heap.size ⟨0, fun _ => 0, fun _ => false⟩ := by
  refine ⟨by simp [go_sem], fun i hi => ?_, fun i hi => ?_, fun o => by simp [go_sem], by simp⟩
  all_goals
    have hc : i = 0 ∨ i = 1 ∨ i = 2 ∨ i = 3 ∨ i = 4 ∨ i = 5 ∨ i = 6 ∨ i = 7 ∨ i = 8 ∨ i = 9 ∨ i = 10 ∨ i = 11 ∨ i = 12 ∨ i = 13 ∨ i = 14 ∨ i = 15 := by omega
    rcases hc with rfl | rfl | rfl | rfl | rfl | rfl | rfl | rfl | rfl | rfl | rfl | rfl | rfl | rfl | rfl | rfl <;> simp [go_sem]

def CkLoop (w : World) (es : List Ev) (k : Nat) (wr : World) : Prop :=
  ∃ T, TrAt wr w.heap.size T ∧ JJ (es.take k) T ∧ Below w.heap.size w wr ∧ checkG [] es = checkG (es.take k) (es.drop k)

theorem ev_nat (e : Ev) (h : e.Ok) : ∃ (k : Int) (t a : Nat) (v s : Int), e = ⟨k, (t : Int), (a : Int), v, s⟩ ∧ 0 ≤ k ∧ k ≤ 255 ∧ t ≤ 255 ∧ a ≤ 255 := by
  obtain ⟨k0, k1, t0, t1, a0, a1, v0, v1, s0, s1⟩ := h
  obtain ⟨k, t, a, v, s⟩ := e
  simp only at k0 k1 t0 t1 a0 a1
  obtain ⟨t', rfl⟩ : ∃ t' : Nat, t = (t' : Int) := ⟨t.toNat, by omega⟩
  obtain ⟨a', rfl⟩ : ∃ a' : Nat, a = (a' : Int) := ⟨a.toNat, by omega⟩
  exact ⟨k, t', a', v, s, rfl, k0, k1, by omega, by omega⟩

end Go.Proofs.Ytfdalbmopaemgab
