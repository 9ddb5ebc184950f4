import Derived.Test.YtfdalbmopaemgaaL1
namespace Go.Proofs.Ytfdalbmopaemgaa
open Go.RowKit

theorem addp (b off j : Nat) : (⟨b, off, none⟩ : Addr).add j = ⟨b, off + j, none⟩ := by unfold Addr.add; split <;> simp_all

theorem evs_cells {w : World} {b off : Nat} {es : List Ev} (h : EvsAt w b off es) : ∀ j v, (evCells es)[j]? = some v → w.cell? ((⟨b, off, none⟩ : Addr).add j) = some v := by
  intro j v hj
  have hlen := (List.getElem?_eq_some_iff.1 hj).1
  rw [evCells_length] at hlen
  have hi : j / 5 < es.length := by omega
  have hdm : j = j / 5 * 5 + j % 5 := by omega
  have hf : j % 5 < 5 := Nat.mod_lt _ (by decide)
  rw [hdm, evCells_at es (j / 5) hi (j % 5) hf] at hj
  rw [addp]
  have he := h (j / 5) hi
  have hc : j % 5 = 0 ∨ j % 5 = 1 ∨ j % 5 = 2 ∨ j % 5 = 3 ∨ j % 5 = 4 := by omega
  have hoff : off + j = off + j / 5 * 5 + j % 5 := by omega
  rw [hoff]
  rcases hc with hc | hc | hc | hc | hc <;> rw [hc] at hj ⊢ <;> simp [evC] at hj <;> subst hj
  · exact he.c0
  · exact he.c1
  · exact he.c2
  · exact he.c3
  · exact he.c4

theorem evCells_one (es : List Ev) : ∀ u ∈ evCells es, u.oneCell' = true := by
  induction es with
  | nil => intro u hu; cases hu
  | cons e l ih =>
    intro u hu
    simp only [evCells, List.mem_append] at hu
    rcases hu with hu | hu
    · exact evC_one e u hu
    · exact ih u hu

theorem Try.sizeEv : (Try.prog.info? 23).map (·.size) = some 5 := by kernel_rfl

theorem wpList_copy_evs {w : World} {ops : Array Oper} {rest : List Oper} {o : Oper} {a : Act} {Q : Exit → Act → World → Prop} (hgd : o.guard = none) (d s : Operand)
    (ho : o.op = .call { callee := .builtin .copy, args := #[d, s], argTypes := #[24, 24] }) (g cap : Nat) (v : Value) (es : List Ev)
    (hd : a.eval d = .slice (some ⟨g, 0, none⟩) cap cap) (hs : a.eval s = v) (hsl : SlEv w v es) (hrow : Row w g cap []) (hle : es.length ≤ cap)
    (h : ∀ w', Row w' g cap es → w.grownBy w' (some g) → wpList Try.prog ops Q rest (a.put o.dst (goInt es.length)) w') : wpList Try.prog ops Q (o :: rest) a w := by
  refine wpList_plain hgd fun K hK => ?_
  rcases hsl with ⟨rfl, ad, c, rfl⟩ | ⟨b, off, c, rfl, _, hev⟩
  · have hrun := run_copy_nonek (P := Try.prog) w 24 24 o.type 23 (some ⟨g, 0, none⟩) ad cap cap c Try.underlying24 Try.sizeEv
    unfold Oper.wp
    simp [execOp, ho, resolve, invoke, builtin, hd, hs, hrun, Result.andThen]
    exact hK _ _ (h w hrow (World.grownBy.refl w _))
  · obtain ⟨cur, h1, h2, h3, h4, h5⟩ := hrow
    have hlen := evCells_length es
    have hrun := run_copy_rowk (P := Try.prog) w 24 24 o.type 23 g 0 cap cap ⟨b, off, none⟩ es.length c cur 23 (evCells es) 5 es.length Try.underlying24 Try.sizeEv h1 (Nat.min_eq_left hle) hlen (evs_cells hev) (by rw [hlen, h2]; omega) (evCells_one es)
    unfold Oper.wp
    simp [execOp, ho, resolve, invoke, builtin, hd, hs, hrun, Result.andThen]
    refine hK _ _ (h _ ⟨_, setRow_heap w g cur _ _ _ h1, ?_, hle, h4, ?_⟩ ⟨rfl, rfl, rfl, by simp [World.setRow], fun k _ hk => setRow_other w g k _ (fun e => hk (by rw [e]))⟩)
    · simp [hlen, h2]
      omega
    · rw [← hlen]
      exact List.take_left

theorem Row.grown {w w' : World} {g cap : Nat} {L : List Ev} {row : Option Nat} (h : Row w g cap L) (hg : w.grownBy w' row) (hne : some g ≠ row) : Row w' g cap L := h.of_heap (hg.block g h.lt hne)

theorem below_grownBy {w w' : World} {B g : Nat} (h : w.grownBy w' (some g)) (hg : B ≤ g) (hB : B ≤ w.heap.size) : Below B w w' :=
  ⟨h.os, h.tape, h.output, h.size, fun k hk => h.block k (Nat.lt_of_lt_of_le hk hB) (by intro e; cases e; omega)⟩

/-! ### handed -/
def HandPost (w : World) (es : List Ev) (r : Ending) (w' : World) : Prop :=
  ∃ g, r = .returned (.slice (some ⟨g, 0, none⟩) (es.length + 8) (es.length + 8)) ∧ w.heap.size ≤ g ∧ Row w' g (es.length + 8) (es ++ List.replicate 8 byEv) ∧ Below w.heap.size w w'

/-! ### still -/
theorem Row.slEv {w : World} {g cap c : Nat} {L : List Ev} (h : Row w g cap L) : SlEv w (.slice (some ⟨g, 0, none⟩) L.length c) L := Or.inr ⟨g, 0, c, rfl, h.lt, h.evs⟩

end Go.Proofs.Ytfdalbmopaemgaa
