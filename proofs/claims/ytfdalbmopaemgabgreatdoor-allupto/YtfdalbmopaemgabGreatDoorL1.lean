import Derived.Test.YtfdalbmopaemgabGreatDoorR1
import Derived.Laws.CopyRow
import Derived.ArgAppend
namespace Go.Proofs.YtfdalbmopaemgabGreatDoor
open Go.RowKit

/-! ### A row of events whose first are known -/
def Row (w : World) (g cap : Nat) (L : List Ev) : Prop :=
  ∃ cur : Array Value, w.heap[g]? = some (.cells cur 45 (0, 0)) ∧ cur.size = cap * 5 ∧ L.length ≤ cap ∧ cap ≤ maxLen ∧ cur.toList.take (L.length * 5) = evCells L

theorem Row.own {w : World} {g cap : Nat} {L : List Ev} (h : Row w g cap L) (B : Nat) (hB : B ≤ g) : Own w B (.slice (some ⟨g, 0, none⟩) L.length cap) L := by
  obtain ⟨cur, h1, h2, h3, h4, h5⟩ := h
  exact ⟨evCells_length L, Or.inr ⟨g, cap, cur, rfl, hB, h1, h3, h4, h2, h5⟩⟩

theorem Row.lt {w : World} {g cap : Nat} {L : List Ev} (h : Row w g cap L) : g < w.heap.size := by
  obtain ⟨cur, h1, _⟩ := h
  exact (Array.getElem?_eq_some_iff.1 h1).1

theorem Row.evs {w : World} {g cap : Nat} {L : List Ev} (h : Row w g cap L) : EvsAt w g 0 L := by
  intro i hi
  obtain ⟨cur, h1, h2, h3, h4, h5⟩ := h
  have at_ : ∀ f, f < 5 → ∀ u, (evC L[i])[f]? = some u → w.cell? ⟨g, 0 + i * 5 + f, none⟩ = some u := fun f hf u hu => by
    have hx : (evCells L)[i * 5 + f]? = some u := by rw [evCells_at L i hi f hf]; exact hu
    rw [← h5, List.getElem?_take] at hx
    split at hx
    · simp only [World.cell?, h1, Option.isSome_none, Bool.false_eq_true, if_false, Nat.zero_add]
      simpa using hx
    · cases hx
  exact ⟨at_ 0 (by omega) _ rfl, at_ 1 (by omega) _ rfl, at_ 2 (by omega) _ rfl, at_ 3 (by omega) _ rfl, at_ 4 (by omega) _ rfl⟩

theorem Row.there {w : World} {g cap : Nat} {L : List Ev} (h : Row w g cap L) (o : Nat) (ho : o < cap * 5) : (∃ v, w.cell? ⟨g, o, none⟩ = some v) ∧ w.frozen? ⟨g, o, none⟩ = false := by
  obtain ⟨cur, h1, h2, _⟩ := h
  refine ⟨⟨cur[o]'(by omega), ?_⟩, ?_⟩
  · simp [World.cell?, h1, show o < cur.size by omega]
  · simp [World.frozen?, h1]

theorem Row.of_heap {w w' : World} {g cap : Nat} {L : List Ev} (h : Row w g cap L) (hh : w'.heap[g]? = w.heap[g]?) : Row w' g cap L := by
  obtain ⟨cur, h1, h2⟩ := h
  exact ⟨cur, by rw [hh]; exact h1, h2⟩

theorem Row.below {w w' : World} {B g cap : Nat} {L : List Ev} (h : Row w g cap L) (hb : Below B w w') (hB : g < B) : Row w' g cap L := h.of_heap (hb.block g hB)

theorem Row.prefix {w : World} {g cap : Nat} {L M : List Ev} (h : Row w g cap (L ++ M)) : Row w g cap L := by
  obtain ⟨cur, h1, h2, h3, h4, h5⟩ := h
  rw [List.length_append] at h3 h5
  refine ⟨cur, h1, h2, by omega, h4, ?_⟩
  have := congrArg (List.take (L.length * 5)) h5
  rw [List.take_take, evCells_append, ← evCells_length L, List.take_left] at this
  rw [← this, evCells_length]
  congr 1
  omega

theorem setCell_heap (w : World) (g o : Nat) (cur : Array Value) (t : TypeId) (v : Value) (h : w.heap[g]? = some (.cells cur t (0, 0))) : (w.setCell ⟨g, o, none⟩ v).heap[g]? = some (.cells (cur.setIfInBounds o v) t (0, 0)) := by
  rw [setCell_eq_setRow w g o cur t (0, 0) v h]
  exact setRow_heap w g cur _ t _ h

def store5 (w : World) (g o : Nat) (e : Ev) : World :=
  ((((w.setCell ⟨g, o, none⟩ (.int .u8 e.k)).setCell ⟨g, o + 1, none⟩ (.int .u8 e.t)).setCell ⟨g, o + 2, none⟩ (.int .u8 e.a)).setCell ⟨g, o + 3, none⟩ (.int .i32 e.v)).setCell ⟨g, o + 4, none⟩ (.int .i32 e.s)

theorem store5_other (w : World) (g o : Nat) (e : Ev) (k : Nat) (hk : k ≠ g) : (store5 w g o e).heap[k]? = w.heap[k]? := by
  unfold store5
  rw [Below.heap_setCell _ _ _ _ hk, Below.heap_setCell _ _ _ _ hk, Below.heap_setCell _ _ _ _ hk, Below.heap_setCell _ _ _ _ hk, Below.heap_setCell _ _ _ _ hk]

theorem store5_below {B : Nat} {a w : World} (h : Below B a w) (g o : Nat) (e : Ev) (hg : B ≤ g) : Below B a (store5 w g o e) :=
  ((((h.setCell (p := ⟨g, o, none⟩) hg _).setCell (p := ⟨g, o + 1, none⟩) hg _).setCell (p := ⟨g, o + 2, none⟩) hg _).setCell (p := ⟨g, o + 3, none⟩) hg _).setCell (p := ⟨g, o + 4, none⟩) hg _

theorem store5_size (w : World) (g o : Nat) (e : Ev) : (store5 w g o e).heap.size = w.heap.size := by simp [store5]

theorem set5_list (l : List Value) (n : Nat) (e : Ev) (h : n * 5 + 5 ≤ l.length) (M : List Value) (hM : l.take (n * 5) = M) :
    (((((l.set (n * 5) (.int .u8 e.k)).set (n * 5 + 1) (.int .u8 e.t)).set (n * 5 + 2) (.int .u8 e.a)).set (n * 5 + 3) (.int .i32 e.v)).set (n * 5 + 4) (.int .i32 e.s)).take ((n + 1) * 5) = M ++ evC e := by
  apply List.ext_getElem?
  intro j
  have hl : M.length = n * 5 := by rw [← hM, List.length_take]; omega
  simp only [List.getElem?_take, List.getElem?_set, List.length_set]
  by_cases hj : j < n * 5
  · rw [if_pos (by omega), if_neg (by omega), if_neg (by omega), if_neg (by omega), if_neg (by omega), if_neg (by omega), List.getElem?_append_left (by omega), ← hM, List.getElem?_take, if_pos hj]
  · rw [List.getElem?_append_right (by omega), hl]
    by_cases h5 : j < n * 5 + 5
    · rw [if_pos (by omega)]
      have : j = n * 5 ∨ j = n * 5 + 1 ∨ j = n * 5 + 2 ∨ j = n * 5 + 3 ∨ j = n * 5 + 4 := by omega
      rcases this with rfl | rfl | rfl | rfl | rfl
      all_goals simp [evC]; omega
    · rw [if_neg (by omega), List.getElem?_eq_none (by simp [evC]; omega)]

theorem Row.store {w : World} {g cap : Nat} {L : List Ev} (h : Row w g cap L) (hl : L.length < cap) (e : Ev) : Row (store5 w g (L.length * 5) e) g cap (L ++ [e]) := by
  obtain ⟨cur, h1, h2, h3, h4, h5⟩ := h
  unfold store5
  have a1 := setCell_heap w g (L.length * 5) cur _ (.int .u8 e.k) h1
  have a2 := setCell_heap _ g (L.length * 5 + 1) _ _ (.int .u8 e.t) a1
  have a3 := setCell_heap _ g (L.length * 5 + 2) _ _ (.int .u8 e.a) a2
  have a4 := setCell_heap _ g (L.length * 5 + 3) _ _ (.int .i32 e.v) a3
  have a5 := setCell_heap _ g (L.length * 5 + 4) _ _ (.int .i32 e.s) a4
  refine ⟨_, a5, by simpa using h2, by simp; omega, h4, ?_⟩
  have hc : cur.toList.length = cap * 5 := by simpa using h2
  simp only [Array.toList_setIfInBounds, List.length_append, List.length_cons, List.length_nil, Nat.zero_add, evCells_append]
  rw [set5_list cur.toList L.length e (by omega) _ h5]
  simp [evCells]

/-! ### marked, beyond -/
def mkEv (m : Int) : Ev := ⟨77, 77, 0, m, -m⟩
def byEv : Ev := ⟨9, 9, 9, 9, 9⟩

set_option maxHeartbeats 400000 in
theorem marked_any (m : Int) (w : World) (h0 : 0 ≤ m) (h1 : m ≤ 1073741824) :
    Calls Tryz.prog 17 #[.int .i32 m] w fun r w' => r = .returned (evV (mkEv m)) ∧ Below w.heap.size w w' := by
  unfold mkEv
  go_enter Tryz.func17, Tryz.ntmps17
  go_wp2_with fail
  exact bodyPost_ret (v := evV ⟨77, 77, 0, m, -m⟩) (by simp [results, Tryz.results17, go_sem]) rfl ⟨rfl, (Below.refl _ _).alloc (Nat.le_refl _) _⟩

set_option maxHeartbeats 400000 in
theorem beyond_any (w : World) :
    Calls Tryz.prog 44 #[] w fun r w' => r = .returned (evV byEv) ∧ Below w.heap.size w w' := by
  go_enter Tryz.func44, Tryz.ntmps44
  go_wp2_with fail
  exact bodyPost_ret (v := evV byEv) (by simp [results, Tryz.results44, go_sem, byEv]) rfl ⟨rfl, (Below.refl _ _).alloc (Nat.le_refl _) _⟩

/-! ### copy, where an element takes k cells -/
theorem run_copy_rowk {P : Program} (w : World) (dT sT ty elem : TypeId) (g o dLen dCap : Nat) (a : Addr) (sLen sCap : Nat) (cur : Array Value) (t : TypeId) (cs : List Value) (k n : Nat)
    (hu : P.underlying dT = some (.slice elem)) (hs : (P.info? elem).map (·.size) = some k)
    (hg : w.heap[g]? = some (.cells cur t (0, 0))) (hn : Nat.min sLen dLen = n) (hcs : cs.length = n * k)
    (hsrc : ∀ j v, cs[j]? = some v → w.cell? (a.add j) = some v) (hfit : o + cs.length ≤ cur.size) (h1 : ∀ v ∈ cs, v.oneCell' = true) :
    (Builtin.copy_ #[dT, sT] ty #[.slice (some ⟨g, o, none⟩) dLen dCap, .slice (some a) sLen sCap]).run P w =
      .ok (goInt n) (w.setRow g (cur.toList.take o ++ cs ++ cur.toList.drop (o + cs.length)).toArray) := by
  have hl := run_loadCells_list (P := P) w a cs hsrc
  have hst := run_storeCells_at P g o t cs 0 cur w hg (by simpa using hfit) h1
  cases hq : P.info? elem with
  | none => simp [hq] at hs
  | some i =>
    have hi : i.size = k := by simpa [hq] using hs
    rw [hcs] at hl
    simp [Builtin.copy_, run_underlying hu, Builtin.lenOf, Builtin.firstCells, sizeOf, typeInfo, hq, hi, hn, hl, hst]

theorem run_copy_nonek {P : Program} (w : World) (dT sT ty elem : TypeId) (d a : Option Addr) (dLen dCap sCap : Nat) (hu : P.underlying dT = some (.slice elem)) (hs : (P.info? elem).map (·.size) = some 5) :
    (Builtin.copy_ #[dT, sT] ty #[.slice d dLen dCap, .slice a 0 sCap]).run P w = .ok (goInt 0) w := by
  cases hq : P.info? elem with
  | none => simp [hq] at hs
  | some i =>
    have hl : ∀ (x : Addr), (loadCells x 0).run P w = .ok #[] w := fun x => by simpa using run_loadCells_list (P := P) w x [] (by simp)
    have hz : Nat.min 0 dLen = 0 := Nat.zero_min dLen
    cases d <;> cases a <;> simp [Builtin.copy_, run_underlying hu, Builtin.lenOf, Builtin.firstCells, sizeOf, typeInfo, hq, hz, storeCells, hl]

end Go.Proofs.YtfdalbmopaemgabGreatDoor
