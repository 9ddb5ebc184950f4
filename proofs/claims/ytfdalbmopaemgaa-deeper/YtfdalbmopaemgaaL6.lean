import Derived.Test.YtfdalbmopaemgaaL5
namespace Go.Proofs.Ytfdalbmopaemgaa
open Go.RowKit

structure OpAt (w : World) (b o : Nat) (d : OpD) : Prop where
  c0 : w.cell? ⟨b, o, none⟩ = some (.int .i64 d.k)
  c1 : w.cell? ⟨b, o + 1, none⟩ = some (.int .i64 d.n)
  c2 : w.cell? ⟨b, o + 2, none⟩ = some (.int .u8 d.t)
  c3 : w.cell? ⟨b, o + 3, none⟩ = some (.int .u8 d.x)
  c4 : w.cell? ⟨b, o + 4, none⟩ = some (.int .i32 d.v)
  c5 : w.cell? ⟨b, o + 5, none⟩ = some d.hv
  c6 : w.cell? ⟨b, o + 6, none⟩ = some (.string d.s)

theorem OpAt.below {w w' : World} {B b o : Nat} {d : OpD} (h : OpAt w b o d) (hB : b < B) (hb : Below B w w') : OpAt w' b o d :=
  ⟨by rw [bcells hb _ _ hB]; exact h.c0, by rw [bcells hb _ _ hB]; exact h.c1, by rw [bcells hb _ _ hB]; exact h.c2, by rw [bcells hb _ _ hB]; exact h.c3, by rw [bcells hb _ _ hB]; exact h.c4,
   by rw [bcells hb _ _ hB]; exact h.c5, by rw [bcells hb _ _ hB]; exact h.c6⟩

/-- The slice value v holds the script ds. -/
def SlOp (w : World) (v : Value) (ds : List OpD) : Prop :=
  (ds = [] ∧ ∃ a c, v = .slice a 0 c) ∨ (∃ b off cap, v = .slice (some ⟨b, off, none⟩) ds.length cap ∧ b < w.heap.size ∧ ∀ (i : Nat) (h : i < ds.length), OpAt w b (off + i * 7) ds[i])

end Go.Proofs.Ytfdalbmopaemgaa
