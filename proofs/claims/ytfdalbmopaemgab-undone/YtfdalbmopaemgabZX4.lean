import Derived.Test.YtfdalbmopaemgabZX1
import Derived.ProofKit
import Derived.OpenShut
import Derived.ChangeSlices
import Derived.Carry
import Derived.Deep.Slices
namespace Go.Proofs.Ytfdalbmopaemgab
open Go.ChangeShapes Go.WideShapes Go.ChangeAt Go.WideMaps Go.WideElems Go.RowKit Go.Deep

def stC (d : StD) : List Value := [.int .u8 (d.k : Int), .int .u8 (d.t : Int), .int .u8 (d.x : Int), .int .i32 d.v]

theorem ownX : ownKnob Try.prog.godebug = none := by kernel_rfl

set_option maxRecDepth 100000 in
/-- What reads as a step holds one. -/
theorem st_of_trod {H : Type} {enc : TypeId × Value → H} {w : World} {base : Nat} {spare : Nat → Bool} {held : Bool} {fuel : Nat} {cs : List Value} {x : DataW H × List MemPlace}
    (h : DataW.trod enc Try.prog w base spare held fuel 46 cs = some x) : ∃ d : StD, cs = stC d ∧ d.Ok := by
  obtain ⟨xs, n, _, _, hl, hlen, hf⟩ := DataW.trod_struct Try.underlying46 h
  have c5 : Try.prog.cellsOf 46 = 4 := by kernel_rfl
  have c1 : Try.prog.cellsOf 5 = 1 := by kernel_rfl
  have c2 : Try.prog.cellsOf 21 = 1 := by kernel_rfl
  rw [c5] at hl
  match cs, hl, xs, hlen, hf with
  | [a0, a1, a2, a3], _, [y0, y1, y2, y3], _, hf =>
    have f0 : DataW.trod enc Try.prog w base spare held n 5 [a0] = some y0 := by simpa [c1] using hf 0 _ rfl
    have f1 : DataW.trod enc Try.prog w base spare held n 5 [a1] = some y1 := by simpa [c1] using hf 1 _ rfl
    have f2 : DataW.trod enc Try.prog w base spare held n 5 [a2] = some y2 := by simpa [c1] using hf 2 _ rfl
    have f3 : DataW.trod enc Try.prog w base spare held n 21 [a3] = some y3 := by simpa [c2] using hf 3 _ rfl
    obtain ⟨k, e0, _, w0⟩ := DataW.trod_int Try.underlying5 f0
    obtain ⟨t, e1, _, w1⟩ := DataW.trod_int Try.underlying5 f1
    obtain ⟨a, e2, _, w2⟩ := DataW.trod_int Try.underlying5 f2
    obtain ⟨v, e3, _, w3⟩ := DataW.trod_int Try.underlying21 f3
    simp at e0 e1 e2 e3
    subst e0 e1 e2 e3
    have b0 := bounds_u8 w0
    have b1 := bounds_u8 w1
    have b2 := bounds_u8 w2
    have b3 := bounds_i32 w3
    refine ⟨⟨k.toNat, t.toNat, a.toNat, v⟩, ?_, ⟨by simp only; omega, by simp only; omega, by simp only; omega, b3.1, b3.2⟩⟩
    unfold stC
    simp only
    rw [Int.toNat_of_nonneg b0.1, Int.toNat_of_nonneg b1.1, Int.toNat_of_nonneg b2.1]

theorem stAt_of_cells {w : World} {base : Nat} {a : Addr} {d : StD} (h : w.cells? base a 4 = some (stC d)) : ∃ b o, a = ⟨b, o, none⟩ ∧ StepAt w b o d := by
  have hc : ∀ i, i < 4 → w.cell? (a.add i) = (stC d)[i]? := by
    intro i hi
    unfold World.cells? at h
    split at h
    · obtain ⟨u, hu, hw⟩ := Lib.mapM_at h i i (by simp [hi])
      rw [hu, hw]
    · cases h
  obtain ⟨b, o, spot⟩ := a
  have hspot : spot = none := by simpa [Addr.add] using World.cell?_spot (show w.cell? _ = some (.int .u8 (d.k : Int)) from hc 0 (by omega))
  subst hspot
  refine ⟨b, o, rfl, ⟨?_, ?_, ?_, ?_⟩⟩
  · simpa [Addr.add, stC] using hc 0 (by omega)
  · simpa [Addr.add, stC] using hc 1 (by omega)
  · simpa [Addr.add, stC] using hc 2 (by omega)
  · simpa [Addr.add, stC] using hc 3 (by omega)

/-- A list of steps that came in. -/
theorem steps_of_trod {H : Type} {enc : TypeId × Value → H} {w : World} {base : Nat} {held : Bool} {fuel : Nat} {v : Value} {x : DataW H × List MemPlace}
    (h : DataW.trod enc Try.prog w base (fun _ => true) held fuel 22 [v] = some x) : ∃ ds : List StD, SlSt w w.heap.size v ds ∧ (∀ d ∈ ds, d.Ok) ∧ ds.length ≤ 9223372036854775807 := by
  rcases open_slice Try.underlying22 h with ⟨h0, _⟩ | ⟨a, len, cap, m, n, D, Pl, h0, hb, hl, hm, hmm, _, hx⟩
  · simp only [List.cons.injEq, and_true] at h0
    exact ⟨[], Or.inl ⟨rfl, none, 0, h0⟩, fun e he => (by cases he), by simp⟩
  · simp only [List.cons.injEq, and_true] at h0
    simp only [if_true] at hmm
    have c5 : Try.prog.cellsOf 46 = 4 := by kernel_rfl
    rw [c5] at hx
    have hex : ∀ i, ∃ e : StD, i < len → (w.cells? base (a.add (i * 4)) 4 = some (stC e) ∧ e.Ok) := by
      intro i
      by_cases hi : i < len
      · obtain ⟨cs', h1, h2⟩ := hx i (by omega)
        obtain ⟨e, rfl, he⟩ := st_of_trod h2
        exact ⟨e, fun _ => ⟨h1, he⟩⟩
      · exact ⟨⟨0, 0, 0, 0⟩, fun h => absurd h hi⟩
    obtain ⟨f, hf⟩ := Classical.axiomOfChoice hex
    have hlen : ((List.range len).map f).length = len := by simp
    refine ⟨(List.range len).map f, ?_, ?_, by rw [hlen]; unfold maxLen at *; omega⟩
    · by_cases hz : len = 0
      · subst hz
        exact Or.inl ⟨rfl, some a, cap, h0⟩
      · obtain ⟨b, o, hab, _⟩ := stAt_of_cells (hf 0 (by omega)).1
        have ha : a = ⟨b, o, none⟩ := by simpa [Addr.add] using hab
        subst ha
        have hblt : b < w.heap.size := by
          have := World.cells?_block (hf 0 (by omega)).1 (by omega)
          simpa [Addr.add] using this
        refine Or.inr ⟨b, o, cap, by rw [hlen]; exact h0, hblt, hblt, fun i hi => ?_⟩
        rw [hlen] at hi
        obtain ⟨b', o', hab', hev⟩ := stAt_of_cells (hf i hi).1
        rw [Go.WideShapes.add_plain] at hab'
        simp only [Addr.mk.injEq] at hab'
        obtain ⟨rfl, rfl, _⟩ := hab'
        simpa using hev
    · intro e he
      simp only [List.mem_map, List.mem_range] at he
      obtain ⟨i, hi, rfl⟩ := he
      exact (hf i hi).2

end Go.Proofs.Ytfdalbmopaemgab
