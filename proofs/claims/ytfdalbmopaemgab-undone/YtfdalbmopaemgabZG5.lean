import Derived.Test.YtfdalbmopaemgabZG4
import Derived.BigQuiet
import Derived.Deep.RegionWith
namespace Go.Proofs.Ytfdalbmopaemgab
open Go.RowKit

/-! ### Playing -/
def becL (e : Ev) : Int := if e.k = 3 then e.v else if e.k = 4 then wrap32 (e.s + e.v) else e.s

def playL (es : List Ev) : (Nat → Int) → List Nat → Int × (Nat → Int)
  | V, [] => (-1, V)
  | V, p :: l => match es[p]? with
    | none => playL es V l
    | some e => if nSeen e.k = true ∧ V e.a.toNat ≠ e.s then ((p : Int), V) else playL es (upd V e.a.toNat (becL e)) l

abbrev valsV (V : Nat → Int) : Value := .agg #[.int .i32 (V 0), .int .i32 (V 1), .int .i32 (V 2), .int .i32 (V 3)]

def replayG (es : List Ev) : Int × (Nat → Int) × Int :=
  if (checkG [] es).1 = 0 then ((playL es (fun _ => 0) (orderL es)).1, (playL es (fun _ => 0) (orderL es)).2, 0) else (0, fun _ => 0, (checkG [] es).1)

def RePost (w : World) (es : List Ev) (r : Ending) (w' : World) : Prop :=
  r = .returned (.tuple #[.int .i64 (replayG es).1, valsV (replayG es).2.1, .int .i64 (replayG es).2.2]) ∧ Below w.heap.size w w'

theorem gi_upto {es : List Ev} (hok : ∀ e ∈ es, e.Ok) (hck : (checkG [] es).1 = 0) : ∀ k, k ≤ es.length → ∃ T W, GI es k T W ∧ gatherG tr0 (fun _ => []) 0 es = gatherG T W k (es.drop k)
  | 0, _ => ⟨tr0, fun _ => [], GI.start es, rfl⟩
  | k + 1, hk => by
    obtain ⟨T, W, hg, he⟩ := gi_upto hok hck k (by omega)
    have hlt : k < es.length := by omega
    obtain ⟨kk, tt, aa, vv, ss, hev, _⟩ := ev_nat es[k] (hok _ (List.getElem_mem _))
    have hw := check_none es [] hck k hlt
    rw [List.nil_append, hev] at hw
    exact ⟨_, _, hg.step hlt kk tt aa vv ss hev hw, he.trans (gather_drop hlt kk tt aa vv ss hev)⟩

theorem gi_all {es : List Ev} (hok : ∀ e ∈ es, e.Ok) (hck : (checkG [] es).1 = 0) : ∃ T W, GI es es.length T W ∧ orderL es = W 0 := by
  obtain ⟨T, W, hg, he⟩ := gi_upto hok hck es.length (Nat.le_refl _)
  refine ⟨T, W, hg, ?_⟩
  unfold orderL
  rw [he, List.drop_length]
  rfl

/-! ### The values in memory -/
structure VAt (w : World) (b : Nat) (V : Nat → Int) : Prop where
  cell : ∀ i, i < 4 → w.cell? ⟨b, i, none⟩ = some (.int .i32 (V i))
  fz : ∀ o, w.frozen? ⟨b, o, none⟩ = false
  lt : b < w.heap.size

theorem VAt.of_heap {w w' : World} {b : Nat} {V : Nat → Int} (h : VAt w b V) (hh : w'.heap[b]? = w.heap[b]?) (hz : w.heap.size ≤ w'.heap.size) : VAt w' b V :=
  ⟨fun i hi => by rw [World.cell?_of_block (a := ⟨b, _, none⟩) hh]; exact h.cell i hi, fun o => by rw [World.frozen?_of_block (a := ⟨b, _, none⟩) hh]; exact h.fz o, Nat.lt_of_lt_of_le h.lt hz⟩

theorem VAt.below {w w' : World} {b : Nat} {V : Nat → Int} (h : VAt w b V) (hb : Below w.heap.size w w') : VAt w' b V := h.of_heap (hb.block b h.lt) hb.size
theorem VAt.drew {w : World} {b : Nat} {V : Nat → Int} (h : VAt w b V) : VAt w.drew b V := ⟨h.cell, h.fz, h.lt⟩

theorem VAt.drewN {w : World} {b : Nat} {V : Nat → Int} (h : VAt w b V) (n : Nat) : VAt (w.drewN n) b V := ⟨h.cell, h.fz, h.lt⟩

theorem VAt.set {w : World} {b : Nat} {V : Nat → Int} (h : VAt w b V) (i : Nat) (hi : i < 4) (v : Int) : VAt (w.setCell ⟨b, i, none⟩ (.int .i32 v)) b (upd V i v) := by
  refine ⟨fun j hj => ?_, fun o => by rw [World.frozen?_setCell]; exact h.fz o, by simpa using h.lt⟩
  unfold upd
  by_cases e : j = i
  · subst e
    rw [if_pos rfl]
    exact World.cell?_setCell_same _ _ _ (h.cell j hj)
  · rw [if_neg e, World.cell?_setCell_other _ _ _ _ (by intro q; injection q with _ q2 _; exact e q2.symm)]
    exact h.cell j hj

theorem vat_new (w : World) (T : TypeId) : VAt (w.alloc (.cells #[.int .i32 0, .int .i32 0, .int .i32 0, .int .i32 0] T)) w.heap.size (fun _ => 0) := by
  refine ⟨fun i hi => ?_, fun o => by simp [go_sem], by simp⟩
  have hc : i = 0 ∨ i = 1 ∨ i = 2 ∨ i = 3 := by omega
  rcases hc with rfl | rfl | rfl | rfl <;> simp [go_sem]

/-- All but the block b is as it was. -/
structure ExB (w w' : World) (b : Nat) : Prop where
  below : Below b w w'
  rest : ∀ k, k ≠ b → k < w.heap.size → w'.heap[k]? = w.heap[k]?

theorem ExB.refl (w : World) (b : Nat) : ExB w w b := ⟨Below.refl _ _, fun _ _ _ => rfl⟩
theorem ExB.more {w w' w'' : World} {b : Nat} (h : ExB w w' b) (hb : Below w'.heap.size w' w'') (hlt : b ≤ w'.heap.size) : ExB w w'' b :=
  ⟨h.below.trans (hb.mono hlt), fun k hk hl => (hb.block k (Nat.lt_of_lt_of_le hl h.below.size)).trans (h.rest k hk hl)⟩
theorem ExB.set {w w' : World} {b : Nat} (h : ExB w w' b) (o : Nat) (v : Value) : ExB w (w'.setCell ⟨b, o, none⟩ v) b :=
  ⟨h.below.setCell (p := ⟨b, o, none⟩) (Nat.le_refl _) _, fun k hk hl => by rw [Below.heap_setCell _ ⟨b, o, none⟩ _ _ hk]; exact h.rest k hk hl⟩
theorem ExB.drew {w w' : World} {b : Nat} (h : ExB w w' b) : ExB w w'.drew b := ⟨below_drewN h.below 1, h.rest⟩
theorem ExB.drewN {w w' : World} {b : Nat} (h : ExB w w' b) (n : Nat) : ExB w (w'.drewN n) b := ⟨below_drewN h.below n, h.rest⟩

def RpLoop (w2 : World) (bv : Nat) (es : List Ev) (ord : List Nat) (j : Nat) (wr : World) : Prop :=
  ∃ V, VAt wr bv V ∧ ExB w2 wr bv ∧ playL es (fun _ => 0) ord = playL es V (ord.drop j)

theorem play_stop {es : List Ev} {V : Nat → Int} {ord : List Nat} {j p : Nat} {e : Ev} (hj : j < ord.length) (hp : ord[j] = p) (he : es[p]? = some e) (h : nSeen e.k = true ∧ V e.a.toNat ≠ e.s) : playL es V (ord.drop j) = ((p : Int), V) := by
  rw [List.drop_eq_getElem_cons hj, hp, playL, he]
  simp only
  rw [if_pos h]

theorem play_on {es : List Ev} {V : Nat → Int} {ord : List Nat} {j p : Nat} {e : Ev} (hj : j < ord.length) (hp : ord[j] = p) (he : es[p]? = some e) (h : ¬ (nSeen e.k = true ∧ V e.a.toNat ≠ e.s)) : playL es V (ord.drop j) = playL es (upd V e.a.toNat (becL e)) (ord.drop (j + 1)) := by
  rw [List.drop_eq_getElem_cons hj, hp, playL, he]
  simp only
  rw [if_neg h]

theorem set4_below {B : Nat} {a w : World} (h : Below B a w) (b : Nat) (hb : B ≤ b) (v0 v1 v2 v3 : Value) : Below B a ((((w.setCell ⟨b, 0, none⟩ v0).setCell ⟨b, 1, none⟩ v1).setCell ⟨b, 2, none⟩ v2).setCell ⟨b, 3, none⟩ v3) :=
  (((h.setCell (p := ⟨b, 0, none⟩) hb _).setCell (p := ⟨b, 1, none⟩) hb _).setCell (p := ⟨b, 2, none⟩) hb _).setCell (p := ⟨b, 3, none⟩) hb _

/-- The place that stands at j. -/
theorem own_at {w : World} {B : Nat} {e : TypeId} {oa : Option Addr} {oc : Nat} {ord : List Nat} (h : w.ownsRow B e 1 (.slice oa ord.length oc) ord.length (intC ord)) (j : Nat) (hj : j < ord.length) : ∃ g, oa = some ⟨g, 0, none⟩ ∧ B ≤ g ∧ g < w.heap.size ∧ w.cell? ⟨g, j, none⟩ = some (.int .i64 (ord[j] : Int)) := by
  have hlt := fun g hg => World.ownsRow.lt h g hg
  rcases h.2 with ⟨h1, h2⟩ | ⟨g, cap, cur, h1, _⟩
  · omega
  · simp only [Value.slice.injEq] at h1
    obtain ⟨rfl, _, rfl⟩ := h1
    have hc := own_cells h ⟨g, 0, none⟩ rfl j (.int .i64 (ord[j] : Int)) (by simp [intC, hj])
    obtain ⟨l1, l2⟩ := hlt g rfl
    refine ⟨g, rfl, l1, l2, ?_⟩
    have hadd : (⟨g, 0, none⟩ : Addr).add j = ⟨g, j, none⟩ := by unfold Addr.add; split <;> simp_all
    rw [hadd] at hc
    exact hc

end Go.Proofs.Ytfdalbmopaemgab
