import Derived.Test.YtfdalbmopaemgabZV3
namespace Go.Proofs.Ytfdalbmopaemgab
open Go.RowKit

/-! ### An object in memory -/
structure ObAt (w : World) (b o : Nat) (x : Ob) : Prop where
  rd : w.cell? ⟨b, o, none⟩ = some (.int .u16 (x.rd : Int))
  wr : w.cell? ⟨b, o + 1, none⟩ = some (.int .u16 (x.wr : Int))
  own : ∀ i, i ≤ 15 → w.cell? ⟨b, o + 2 + i, none⟩ = some (.int .i32 (x.own i))

theorem set_other (w : World) (b o o' : Nat) (v : Value) (h : o' ≠ o) : (w.setCell ⟨b, o, none⟩ v).cell? ⟨b, o', none⟩ = w.cell? ⟨b, o', none⟩ :=
  World.cell?_setCell_other _ _ _ _ (by intro e; injection e with _ e2 _; exact h e2.symm)

theorem ObAt.setRd {w : World} {b o : Nat} {x : Ob} (h : ObAt w b o x) (a : Nat) : ObAt (w.setCell ⟨b, o, none⟩ (.int .u16 (a : Int))) b o ⟨a, x.wr, x.own⟩ :=
  ⟨World.cell?_setCell_same _ _ _ h.rd, by rw [set_other _ _ _ _ _ (by omega)]; exact h.wr, fun i hi => by rw [set_other _ _ _ _ _ (by omega)]; exact h.own i hi⟩

theorem ObAt.setWr {w : World} {b o : Nat} {x : Ob} (h : ObAt w b o x) (a : Nat) : ObAt (w.setCell ⟨b, o + 1, none⟩ (.int .u16 (a : Int))) b o ⟨x.rd, a, x.own⟩ :=
  ⟨by rw [set_other _ _ _ _ _ (by omega)]; exact h.rd, World.cell?_setCell_same _ _ _ h.wr, fun i hi => by rw [set_other _ _ _ _ _ (by omega)]; exact h.own i hi⟩

theorem ObAt.setOwn {w : World} {b o : Nat} {x : Ob} (h : ObAt w b o x) (t : Nat) (ht : t ≤ 15) (v : Int) : ObAt (w.setCell ⟨b, o + 2 + t, none⟩ (.int .i32 v)) b o ⟨x.rd, x.wr, upd x.own t v⟩ := by
  refine ⟨by rw [set_other _ _ _ _ _ (by omega)]; exact h.rd, by rw [set_other _ _ _ _ _ (by omega)]; exact h.wr, fun i hi => ?_⟩
  show _ = some (Value.int .i32 (upd x.own t v i))
  unfold upd
  by_cases e : i = t
  · subst e; rw [if_pos rfl]; exact World.cell?_setCell_same _ _ _ (h.own i hi)
  · rw [if_neg e, set_other _ _ _ _ _ (by omega)]; exact h.own i hi

/-- Of the block b only the cells from lo up to hi have changed. -/
structure OnlyC (w w' : World) (b lo hi : Nat) : Prop where
  below : Below b w w'
  size : w'.heap.size = w.heap.size
  rest : ∀ k, k ≠ b → w'.heap[k]? = w.heap[k]?
  cells : ∀ o, (o < lo ∨ hi ≤ o) → w'.cell? ⟨b, o, none⟩ = w.cell? ⟨b, o, none⟩
  fz : ∀ o, w'.frozen? ⟨b, o, none⟩ = w.frozen? ⟨b, o, none⟩

theorem OnlyC.refl (w : World) (b lo hi : Nat) : OnlyC w w b lo hi := ⟨Below.refl _ _, rfl, fun _ _ => rfl, fun _ _ => rfl, fun _ => rfl⟩
theorem OnlyC.set {a w : World} {b lo hi : Nat} (h : OnlyC a w b lo hi) (o : Nat) (h1 : lo ≤ o) (h2 : o < hi) (v : Value) : OnlyC a (w.setCell ⟨b, o, none⟩ v) b lo hi :=
  ⟨h.below.setCell (p := ⟨b, o, none⟩) (Nat.le_refl _) _, by simpa using h.size, fun k hk => by rw [Below.heap_setCell _ ⟨b, o, none⟩ _ _ hk]; exact h.rest k hk,
   fun o' ho' => by rw [set_other _ _ _ _ _ (by omega)]; exact h.cells o' ho', fun o' => by rw [World.frozen?_setCell]; exact h.fz o'⟩
theorem OnlyC.drewN {a w : World} {b lo hi : Nat} (h : OnlyC a w b lo hi) (n : Nat) : OnlyC a (w.drewN n) b lo hi := ⟨below_drewN h.below n, h.size, h.rest, h.cells, h.fz⟩
theorem OnlyC.drew {a w : World} {b lo hi : Nat} (h : OnlyC a w b lo hi) : OnlyC a w.drew b lo hi := h.drewN 1
theorem OnlyC.trans {w w' w'' : World} {b lo hi : Nat} (h : OnlyC w w' b lo hi) (h' : OnlyC w' w'' b lo hi) : OnlyC w w'' b lo hi :=
  ⟨h.below.trans h'.below, h'.size.trans h.size, fun k hk => (h'.rest k hk).trans (h.rest k hk), fun o ho => (h'.cells o ho).trans (h.cells o ho), fun o => (h'.fz o).trans (h.fz o)⟩
theorem OnlyC.wide {w w' : World} {b lo hi lo' hi' : Nat} (h : OnlyC w w' b lo hi) (h1 : lo' ≤ lo) (h2 : hi ≤ hi') : OnlyC w w' b lo' hi' :=
  ⟨h.below, h.size, h.rest, fun o ho => h.cells o (by omega), h.fz⟩

theorem ObAt.drewN {w : World} {b o : Nat} {x : Ob} (h : ObAt w b o x) (n : Nat) : ObAt (w.drewN n) b o x := ⟨h.rd, h.wr, h.own⟩
theorem ObAt.drew {w : World} {b o : Nat} {x : Ob} (h : ObAt w b o x) : ObAt w.drew b o x := ⟨h.rd, h.wr, h.own⟩
theorem ObAt.stay {w w' : World} {b o lo hi : Nat} {x : Ob} (h : ObAt w b o x) (hh : OnlyC w w' b lo hi) (ho : o + 18 ≤ lo ∨ hi ≤ o) : ObAt w' b o x :=
  ⟨by rw [hh.cells _ (by omega)]; exact h.rd, by rw [hh.cells _ (by omega)]; exact h.wr, fun i hi' => by rw [hh.cells _ (by omega)]; exact h.own i hi'⟩
theorem TrAt.stay {w w' : World} {b lo hi : Nat} {T : Tr} (h : TrAt w b T) (hh : OnlyC w w' b lo hi) (ho : 33 ≤ lo) : TrAt w' b T :=
  ⟨by rw [hh.cells _ (by omega)]; exact h.n, fun i hi' => by rw [hh.cells _ (by omega)]; exact h.par i hi', fun i hi' => by rw [hh.cells _ (by omega)]; exact h.op i hi', fun o => by rw [hh.fz]; exact h.fz o, by rw [hh.size]; exact h.lt⟩
theorem EvAt.stay {w w' : World} {b o lo hi : Nat} {e : Ev} (h : EvAt w b o e) (hh : OnlyC w w' b lo hi) (ho : o + 5 ≤ lo ∨ hi ≤ o) : EvAt w' b o e :=
  ⟨by rw [hh.cells _ (by omega)]; exact h.c0, by rw [hh.cells _ (by omega)]; exact h.c1, by rw [hh.cells _ (by omega)]; exact h.c2, by rw [hh.cells _ (by omega)]; exact h.c3, by rw [hh.cells _ (by omega)]; exact h.c4⟩

theorem Only1.toC {w w' : World} {b : Nat} (h : Only1 w w' b) (hf : ∀ o, w.frozen? ⟨b, o, none⟩ = false) (hf' : ∀ o, w'.frozen? ⟨b, o, none⟩ = false) : OnlyC w w' b 0 33 :=
  ⟨h.below, h.size, h.rest, fun o ho => h.cells o (by omega), fun o => by rw [hf, hf']⟩

/-! ### A store in memory -/
def evZ : Ev := ⟨0, 0, 0, 0, 0⟩
def evF (es : List Ev) (i : Nat) : Ev := es.getD i evZ

structure StAt (w : World) (b : Nat) (T : Tr) (O : Nat → Ob) (es : List Ev) : Prop where
  tr : TrAt w b T
  ob : ∀ x, x < 4 → ObAt w b (33 + x * 18) (O x)
  ev : ∀ i, i < 60 → EvAt w b (105 + i * 5) (evF es i)
  n : w.cell? ⟨b, 405, none⟩ = some (.int .i64 (es.length : Int))

theorem StAt.of_heap {w w' : World} {b : Nat} {T : Tr} {O : Nat → Ob} {es : List Ev} (h : StAt w b T O es) (hh : w'.heap[b]? = w.heap[b]?) (hz : w.heap.size ≤ w'.heap.size) : StAt w' b T O es := by
  have hc : ∀ o, w'.cell? ⟨b, o, none⟩ = w.cell? ⟨b, o, none⟩ := fun o => World.cell?_of_block (a := ⟨b, o, none⟩) hh
  exact ⟨h.tr.of_heap hh hz, fun x hx => ⟨by rw [hc]; exact (h.ob x hx).rd, by rw [hc]; exact (h.ob x hx).wr, fun i hi => by rw [hc]; exact (h.ob x hx).own i hi⟩,
    fun i hi => ⟨by rw [hc]; exact (h.ev i hi).c0, by rw [hc]; exact (h.ev i hi).c1, by rw [hc]; exact (h.ev i hi).c2, by rw [hc]; exact (h.ev i hi).c3, by rw [hc]; exact (h.ev i hi).c4⟩, by rw [hc]; exact h.n⟩

theorem StAt.drewN {w : World} {b : Nat} {T : Tr} {O : Nat → Ob} {es : List Ev} (h : StAt w b T O es) (n : Nat) : StAt (w.drewN n) b T O es := h.of_heap rfl (Nat.le_refl _)
theorem StAt.drew {w : World} {b : Nat} {T : Tr} {O : Nat → Ob} {es : List Ev} (h : StAt w b T O es) : StAt w.drew b T O es := h.of_heap rfl (Nat.le_refl _)

/-- The tree has changed. -/
theorem StAt.setTr {w w' : World} {b : Nat} {T T' : Tr} {O : Nat → Ob} {es : List Ev} (h : StAt w b T O es) (ht : TrAt w' b T') (hh : Only1 w w' b) : StAt w' b T' O es := by
  have hc := hh.toC h.tr.fz ht.fz
  exact ⟨ht, fun x hx => (h.ob x hx).stay hc (by omega), fun i hi => (h.ev i hi).stay hc (by omega), by rw [hc.cells _ (by omega)]; exact h.n⟩

/-- An object has changed. -/
theorem StAt.setOb {w w' : World} {b : Nat} {T : Tr} {O : Nat → Ob} {es : List Ev} (h : StAt w b T O es) (x : Nat) (hx : x < 4) (o' : Ob) (ho : ObAt w' b (33 + x * 18) o') (hh : OnlyC w w' b (33 + x * 18) (33 + x * 18 + 18)) : StAt w' b T (upd O x o') es := by
  refine ⟨h.tr.stay hh (by omega), fun y hy => ?_, fun i hi => (h.ev i hi).stay hh (by omega), by rw [hh.cells _ (by omega)]; exact h.n⟩
  unfold upd
  by_cases e : y = x
  · subst e; rw [if_pos rfl]; exact ho
  · rw [if_neg e]; exact (h.ob y hy).stay hh (by omega)

/-- An event more. -/
def addW (w : World) (b n : Nat) (e : Ev) : World := (store5 w b (105 + n * 5) e).setCell ⟨b, 405, none⟩ (.int .i64 ((n : Int) + 1))

theorem store5_at (w : World) (b o : Nat) (e : Ev) (x : Ev) (h : EvAt w b o x) : EvAt (store5 w b o e) b o e := by
  unfold store5
  refine ⟨?_, ?_, ?_, ?_, ?_⟩
  · rw [set_other _ _ _ _ _ (by omega), set_other _ _ _ _ _ (by omega), set_other _ _ _ _ _ (by omega), set_other _ _ _ _ _ (by omega)]
    exact World.cell?_setCell_same _ _ _ h.c0
  · rw [set_other _ _ _ _ _ (by omega), set_other _ _ _ _ _ (by omega), set_other _ _ _ _ _ (by omega)]
    exact World.cell?_setCell_same _ _ _ (by rw [set_other _ _ _ _ _ (by omega)]; exact h.c1)
  · rw [set_other _ _ _ _ _ (by omega), set_other _ _ _ _ _ (by omega)]
    exact World.cell?_setCell_same _ _ _ (by rw [set_other _ _ _ _ _ (by omega), set_other _ _ _ _ _ (by omega)]; exact h.c2)
  · rw [set_other _ _ _ _ _ (by omega)]
    exact World.cell?_setCell_same _ _ _ (by rw [set_other _ _ _ _ _ (by omega), set_other _ _ _ _ _ (by omega), set_other _ _ _ _ _ (by omega)]; exact h.c3)
  · exact World.cell?_setCell_same _ _ _ (by rw [set_other _ _ _ _ _ (by omega), set_other _ _ _ _ _ (by omega), set_other _ _ _ _ _ (by omega), set_other _ _ _ _ _ (by omega)]; exact h.c4)

theorem store5_only (w : World) (b o : Nat) (e : Ev) : OnlyC w (store5 w b o e) b o (o + 5) := by
  unfold store5
  exact (((((OnlyC.refl w b o (o + 5)).set o (by omega) (by omega) _).set (o + 1) (by omega) (by omega) _).set (o + 2) (by omega) (by omega) _).set (o + 3) (by omega) (by omega) _).set (o + 4) (by omega) (by omega) _

theorem evF_snoc (es : List Ev) (e : Ev) (i : Nat) : evF (es ++ [e]) i = if i = es.length then e else evF es i := by
  unfold evF
  rw [List.getD_eq_getElem?_getD, List.getD_eq_getElem?_getD]
  by_cases h : i = es.length
  · subst h; simp
  · rw [if_neg h]
    by_cases hl : i < es.length
    · rw [List.getElem?_append_left hl]
    · rw [List.getElem?_eq_none (by simp; omega), List.getElem?_eq_none (by omega)]

theorem StAt.addEv {w : World} {b : Nat} {T : Tr} {O : Nat → Ob} {es : List Ev} (h : StAt w b T O es) (e : Ev) (hl : es.length < 60) : StAt (addW w b es.length e) b T O (es ++ [e]) := by
  have h1 := store5_only w b (105 + es.length * 5) e
  have h2 : OnlyC (store5 w b (105 + es.length * 5) e) (addW w b es.length e) b 405 406 := (OnlyC.refl _ _ _ _).set 405 (by omega) (by omega) _
  refine ⟨(h.tr.stay h1 (by omega)).stay h2 (by omega), fun x hx => ((h.ob x hx).stay h1 (by omega)).stay h2 (by omega), fun i hi => ?_, ?_⟩
  · rw [evF_snoc]
    by_cases e' : i = es.length
    · rw [if_pos e', e']
      exact (store5_at w b _ e _ (h.ev es.length hl)).stay h2 (by omega)
    · rw [if_neg e']
      exact ((h.ev i hi).stay h1 (by omega)).stay h2 (by omega)
  · unfold addW
    rw [World.cell?_setCell_same _ _ _ (u := .int .i64 (es.length : Int)) (by rw [h1.cells _ (by omega)]; exact h.n)]
    simp

theorem addW_only (w : World) (b n : Nat) (e : Ev) (hn : n < 60) : OnlyC w (addW w b n e) b 105 406 :=
  ((store5_only w b (105 + n * 5) e).wide (by omega) (by omega)).set 405 (by omega) (by omega) _

/-- What a step leaves of the rest. -/
structure OnlyB (w w' : World) (b : Nat) : Prop where
  below : Below b w w'
  size : w'.heap.size = w.heap.size
  rest : ∀ k, k ≠ b → w'.heap[k]? = w.heap[k]?

theorem OnlyB.refl (w : World) (b : Nat) : OnlyB w w b := ⟨Below.refl _ _, rfl, fun _ _ => rfl⟩
theorem OnlyB.drewN {a w : World} {b : Nat} (h : OnlyB a w b) (n : Nat) : OnlyB a (w.drewN n) b := ⟨below_drewN h.below n, h.size, h.rest⟩
theorem OnlyB.drew {a w : World} {b : Nat} (h : OnlyB a w b) : OnlyB a w.drew b := h.drewN 1
theorem OnlyB.trans {w w' w'' : World} {b : Nat} (h : OnlyB w w' b) (h' : OnlyB w' w'' b) : OnlyB w w'' b :=
  ⟨h.below.trans h'.below, h'.size.trans h.size, fun k hk => (h'.rest k hk).trans (h.rest k hk)⟩
theorem OnlyC.toB {w w' : World} {b lo hi : Nat} (h : OnlyC w w' b lo hi) : OnlyB w w' b := ⟨h.below, h.size, h.rest⟩
theorem Only1.toB {w w' : World} {b : Nat} (h : Only1 w w' b) : OnlyB w w' b := ⟨h.below, h.size, h.rest⟩

end Go.Proofs.Ytfdalbmopaemgab
