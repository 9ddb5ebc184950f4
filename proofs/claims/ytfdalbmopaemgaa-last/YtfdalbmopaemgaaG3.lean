import Derived.Test.YtfdalbmopaemgaaG2
namespace Go.Proofs.Ytfdalbmopaemgaa
open Go.RowKit

set_option maxHeartbeats 1000000 in
theorem parent_any (b m : Nat) (T : Tr) (w : World) (h : TrAt w b T) (h15 : m ≤ 15) :
    Calls Try.prog 39 #[.pointer (some ⟨b, 0, none⟩), .int .u8 (m : Int)] w fun r w' => r = .returned (.int .u8 (T.par m)) ∧ w' = w := by
  have g := h.par m h15
  have h15' : ¬ (15 : Int) < (m : Int) := by omega
  have h16 : (m : Int) < 16 := by omega
  clear h
  go_enter Try.func39, Try.ntmps39
  go_wp2_with fail
  go_ret
  exact ⟨rfl, rfl⟩

theorem Try.infoInt : (Try.prog.info? 3).map (fun i => (i.zero, i.size, i.bytes)) = some (some (.int .i64 0), 1, 8) := by kernel_rfl

def PoLoop (w : World) (es : List Ev) (k : Nat) (wr : World) : Prop :=
  ∃ T W V, PoSt w.heap.size w T W V wr ∧ GI es k T W ∧ gatherG tr0 (fun _ => []) 0 es = gatherG T W k (es.drop k)

def PoPost (w : World) (es : List Ev) (r : Ending) (w' : World) : Prop :=
  ∃ v, r = .returned v ∧ w'.ownsRow w.heap.size 3 1 v (orderL es).length (intC (orderL es)) ∧ Below w.heap.size w w'

theorem po_start (w : World) (Tt Tw : TypeId) (es : List Ev) : PoLoop w es 0 ((w.alloc (.cells #[.int .u8 0, .int .u8 0, .int .u8 0, .int .u8 0, .int .u8 0, .int .u8 0, .int .u8 0, .int .u8 0, .int .u8 0, .int .u8 0, .int .u8 0, .int .u8 0, .int .u8 0, .int .u8 0, .int .u8 0, .int .u8 0, .int .u8 0, .bool false, .bool false, .bool false, .bool false, .bool false, .bool false, .bool false, .bool false, .bool false, .bool false, .bool false, .bool false, .bool false, .bool false, .bool false, .bool false] Tt)).alloc (.cells #[.slice none 0 0, .slice none 0 0, .slice none 0 0, .slice none 0 0, .slice none 0 0, .slice none 0 0, .slice none 0 0, .slice none 0 0, .slice none 0 0, .slice none 0 0, .slice none 0 0, .slice none 0 0, .slice none 0 0, .slice none 0 0, .slice none 0 0, .slice none 0 0] Tw)) := by
  refine ⟨tr0, fun _ => [], fun _ => .slice none 0 0, ⟨(tr_new w Tt).below ((Below.refl _ _).alloc (Nat.le_refl _) _), ?_, ((Below.refl _ _).alloc (Nat.le_refl _) _).alloc (by simp) _⟩, GI.start es, rfl⟩
  have := wat_new (w.alloc (.cells #[.int .u8 0, .int .u8 0, .int .u8 0, .int .u8 0, .int .u8 0, .int .u8 0, .int .u8 0, .int .u8 0, .int .u8 0, .int .u8 0, .int .u8 0, .int .u8 0, .int .u8 0, .int .u8 0, .int .u8 0, .int .u8 0, .int .u8 0, .bool false, .bool false, .bool false, .bool false, .bool false, .bool false, .bool false, .bool false, .bool false, .bool false, .bool false, .bool false, .bool false, .bool false, .bool false, .bool false] Tt)) Tw
  rwa [World.size_alloc] at this

theorem evcells_of {w w' : World} {b : Nat} {e : Ev} {T : TypeId} (h : w'.heap[b]? = (w.alloc (.cells #[.int .u8 e.k, .int .u8 e.t, .int .u8 e.a, .int .i32 e.v, .int .i32 e.s] T)).heap[b]?) (hb : b = w.heap.size) : EvAt w' b 0 e := by
  subst hb
  refine ⟨?_, ?_, ?_, ?_, ?_⟩ <;> rw [World.cell?_of_block (a := ⟨w.heap.size, _, none⟩) h] <;> simp [go_sem]

end Go.Proofs.Ytfdalbmopaemgaa
