import Derived.Test.YtfdalbmopaemgabZG6
namespace Go.Proofs.Ytfdalbmopaemgab
open Go.RowKit

/-! ### The document's own playing -/
structure AgAt (w : World) (b : Nat) (hv : Value) (V : Nat → Int) (r : Int) : Prop where
  h : w.cell? ⟨b, 0, none⟩ = some hv
  cell : ∀ i, i < 4 → w.cell? ⟨b, 1 + i, none⟩ = some (.int .i32 (V i))
  wrong : w.cell? ⟨b, 5, none⟩ = some (.int .i64 r)
  fz : ∀ o, w.frozen? ⟨b, o, none⟩ = false
  lt : b < w.heap.size

theorem AgAt.of_heap {w w' : World} {b : Nat} {hv : Value} {V : Nat → Int} {r : Int} (h : AgAt w b hv V r) (hh : w'.heap[b]? = w.heap[b]?) (hz : w.heap.size ≤ w'.heap.size) : AgAt w' b hv V r :=
  ⟨by rw [World.cell?_of_block (a := ⟨b, _, none⟩) hh]; exact h.h, fun i hi => by rw [World.cell?_of_block (a := ⟨b, _, none⟩) hh]; exact h.cell i hi, by rw [World.cell?_of_block (a := ⟨b, _, none⟩) hh]; exact h.wrong,
   fun o => by rw [World.frozen?_of_block (a := ⟨b, _, none⟩) hh]; exact h.fz o, Nat.lt_of_lt_of_le h.lt hz⟩

theorem AgAt.below {w w' : World} {b : Nat} {hv : Value} {V : Nat → Int} {r : Int} (h : AgAt w b hv V r) (hb : Below w.heap.size w w') : AgAt w' b hv V r := h.of_heap (hb.block b h.lt) hb.size
theorem AgAt.drew {w : World} {b : Nat} {hv : Value} {V : Nat → Int} {r : Int} (h : AgAt w b hv V r) : AgAt w.drew b hv V r := ⟨h.h, h.cell, h.wrong, h.fz, h.lt⟩
theorem AgAt.drewN {w : World} {b : Nat} {hv : Value} {V : Nat → Int} {r : Int} (h : AgAt w b hv V r) (n : Nat) : AgAt (w.drewN n) b hv V r := ⟨h.h, h.cell, h.wrong, h.fz, h.lt⟩

theorem AgAt.set {w : World} {b : Nat} {hv : Value} {V : Nat → Int} {r : Int} (h : AgAt w b hv V r) (i : Nat) (hi : i < 4) (v : Int) : AgAt (w.setCell ⟨b, 1 + i, none⟩ (.int .i32 v)) b hv (upd V i v) r := by
  have ho : ∀ j, j ≠ 1 + i → (w.setCell ⟨b, 1 + i, none⟩ (.int .i32 v)).cell? ⟨b, j, none⟩ = w.cell? ⟨b, j, none⟩ := fun j hj => World.cell?_setCell_other _ _ _ _ (by intro e; injection e with _ e2 _; exact hj e2.symm)
  refine ⟨by rw [ho _ (by omega)]; exact h.h, fun j hj => ?_, by rw [ho _ (by omega)]; exact h.wrong, fun o => by rw [World.frozen?_setCell]; exact h.fz o, by simpa using h.lt⟩
  unfold upd
  by_cases e : j = i
  · subst e
    rw [if_pos rfl]
    exact World.cell?_setCell_same _ _ _ (h.cell j hj)
  · rw [if_neg e, ho _ (by omega)]
    exact h.cell j hj

theorem AgAt.setWrong {w : World} {b : Nat} {hv : Value} {V : Nat → Int} {r : Int} (h : AgAt w b hv V r) (r' : Int) : AgAt (w.setCell ⟨b, 5, none⟩ (.int .i64 r')) b hv V r' := by
  have ho : ∀ j, j ≠ 5 → (w.setCell ⟨b, 5, none⟩ (.int .i64 r')).cell? ⟨b, j, none⟩ = w.cell? ⟨b, j, none⟩ := fun j hj => World.cell?_setCell_other _ _ _ _ (by intro e; injection e with _ e2 _; exact hj e2.symm)
  exact ⟨by rw [ho _ (by omega)]; exact h.h, fun j hj => by rw [ho _ (by omega)]; exact h.cell j hj, World.cell?_setCell_same _ _ _ h.wrong, fun o => by rw [World.frozen?_setCell]; exact h.fz o, by simpa using h.lt⟩

def AgPost (w : World) (b : Nat) (hv : Value) (x : Int × (Nat → Int)) (r : Ending) (w' : World) : Prop := r = .returned (.tuple #[]) ∧ AgAt w' b hv x.2 x.1 ∧ ExB w w' b

theorem upd_same {α : Type} (f : Nat → α) (i : Nat) (v : α) (h : f i = v) : upd f i v = f := by
  funext j
  unfold upd
  by_cases e : j = i
  · rw [if_pos e, e, h]
  · rw [if_neg e]

theorem play_one {es : List Ev} {V : Nat → Int} {p : Nat} {e : Ev} (he : es[p]? = some e) : playL es V [p] = if nSeen e.k = true ∧ V e.a.toNat ≠ e.s then ((p : Int), V) else (-1, upd V e.a.toNat (becL e)) := by
  rw [playL, he]
  simp only [playL]

end Go.Proofs.Ytfdalbmopaemgab

namespace Go.Proofs.Ytfdalbmopaemgab
open Go.RowKit

theorem play_app {es : List Ev} : ∀ (l m : List Nat) (V : Nat → Int), (playL es V l).1 = -1 → playL es V (l ++ m) = playL es (playL es V l).2 m
  | [], m, V, _ => rfl
  | p :: l, m, V, h => by
    rw [List.cons_append, playL, playL]
    rw [playL] at h
    cases he : es[p]? with
    | none =>
      rw [he] at h
      exact play_app l m V h
    | some e =>
      rw [he] at h
      simp only at h ⊢
      by_cases hc : nSeen e.k = true ∧ V e.a.toNat ≠ e.s
      · rw [if_pos hc] at h; simp only at h; omega
      · rw [if_neg hc] at h
        rw [if_neg hc, if_neg hc]
        exact play_app l m _ h

theorem play_app_stop {es : List Ev} : ∀ (l m : List Nat) (V : Nat → Int), (playL es V l).1 ≠ -1 → playL es V (l ++ m) = playL es V l
  | [], m, V, h => absurd rfl h
  | p :: l, m, V, h => by
    rw [List.cons_append, playL, playL]
    rw [playL] at h
    cases he : es[p]? with
    | none =>
      rw [he] at h
      exact play_app_stop l m V h
    | some e =>
      rw [he] at h
      simp only at h ⊢
      by_cases hc : nSeen e.k = true ∧ V e.a.toNat ≠ e.s
      · rw [if_pos hc, if_pos hc]
      · rw [if_neg hc] at h
        rw [if_neg hc, if_neg hc]
        exact play_app_stop l m _ h

theorem play_range {es : List Ev} : ∀ (l : List Nat) (V : Nat → Int), (playL es V l).1 = -1 ∨ 0 ≤ (playL es V l).1
  | [], V => Or.inl rfl
  | p :: l, V => by
    rw [playL]
    cases he : es[p]? with
    | none => exact play_range l V
    | some e =>
      simp only
      by_cases hc : nSeen e.k = true ∧ V e.a.toNat ≠ e.s
      · rw [if_pos hc]; right; simp only; omega
      · rw [if_neg hc]; exact play_range l _

theorem flat_split (es : List Ev) (W : Nat → List Nat) (x i : Nat) : ∀ k, i ≤ k → ∃ m, flat es W k x = flat es W i x ++ m
  | 0, h => ⟨[], by rw [show i = 0 by omega, List.append_nil]⟩
  | k + 1, h => by
    by_cases e : i = k + 1
    · exact ⟨[], by rw [e, List.append_nil]⟩
    · obtain ⟨m, hm⟩ := flat_split es W x i k (by omega)
      exact ⟨m ++ seg es W x k, by rw [flat_succ, hm, List.append_assoc]⟩

/-- What the document's playing of t has come to, ahead of the event i. -/
def PlLoop (w : World) (b : Nat) (hv : Value) (es : List Ev) (W : Nat → List Nat) (t : Nat) (V : Nat → Int) (i : Nat) (wr : World) : Prop :=
  AgAt wr b hv (playL es V (flat es W i t)).2 (playL es V (flat es W i t)).1 ∧ ExB w wr b

theorem seg_own {es : List Ev} {W : Nat → List Nat} {x i : Nat} {e : Ev} (he : es[i]? = some e) (h1 : onObj e.k = true) (h2 : e.t = (x : Int)) : seg es W x i = [i] := by
  unfold seg; rw [he]; simp only; rw [if_pos ⟨h1, h2⟩]
theorem seg_com {es : List Ev} {W : Nat → List Nat} {x i : Nat} {e : Ev} (he : es[i]? = some e) (h1 : e.k = 5) (h2 : parentL es e.t = (x : Int)) : seg es W x i = W e.t.toNat := by
  unfold seg; rw [he]; simp only; rw [if_neg (fun q => by rw [h1] at q; exact absurd q.1 (by decide)), if_pos ⟨h1, h2⟩]
theorem seg_none {es : List Ev} {W : Nat → List Nat} {x i : Nat} {e : Ev} (he : es[i]? = some e) (h1 : ¬ (onObj e.k = true ∧ e.t = (x : Int))) (h2 : ¬ (e.k = 5 ∧ parentL es e.t = (x : Int))) : seg es W x i = [] := by
  unfold seg; rw [he]; simp only; rw [if_neg h1, if_neg h2]

theorem ExB.trans {w w' w'' : World} {b : Nat} (h : ExB w w' b) (h' : ExB w' w'' b) : ExB w w'' b :=
  ⟨h.below.trans h'.below, fun k hk hl => (h'.rest k hk (Nat.lt_of_lt_of_le hl h.below.size)).trans (h.rest k hk hl)⟩

theorem SlEv.drewN {w : World} {v : Value} {es : List Ev} (h : SlEv w v es) (n : Nat) : SlEv (w.drewN n) v es := h.of_heap (Nat.le_refl _) (fun _ _ _ => rfl)

/-- The events of a history: what is asked of each, as a whole history is known. -/
theorem ev_facts {es : List Ev} {T : Tr} {W : Nat → List Nat} (hok : ∀ e ∈ es, e.Ok) (hck : (checkG [] es).1 = 0) (hgi : GI es es.length T W) (i : Nat) (hi : i < es.length) : (onObj es[i].k = true → es[i].a < 4) ∧ (es[i].k = 5 → 1 ≤ es[i].t ∧ es[i].t ≤ 15 ∧ 0 ≤ parentL es es[i].t ∧ parentL es es[i].t < es[i].t) := by
  have hw := check_none es [] hck i hi
  rw [List.nil_append] at hw
  obtain ⟨kk, tt, aa, vv, ss, hev, _⟩ := ev_nat es[i] (hok _ (List.getElem_mem _))
  rw [hev] at hw
  obtain ⟨_, _, _, h4⟩ := wrong_facts hw
  have hj := hgi.jj
  rw [List.take_length] at hj
  refine ⟨fun h => ?_, fun h => ?_⟩
  · rw [hev] at h ⊢
    have h2 := onObj_iff.1 h
    have := h4 h2.1 h2.2
    simp only
    omega
  · have hc := hj.com es[i].t (List.any_eq_true.2 ⟨es[i], List.getElem_mem _, by unfold isC; simp [h]⟩)
    have hn := hj.n15
    obtain ⟨m, hm⟩ : ∃ m : Nat, es[i].t = (m : Int) := ⟨es[i].t.toNat, by omega⟩
    rw [hm] at hc ⊢
    have hl := hj.low m (by omega) (by omega)
    exact ⟨hc.1, by omega, hl.1, hl.2⟩

end Go.Proofs.Ytfdalbmopaemgab
