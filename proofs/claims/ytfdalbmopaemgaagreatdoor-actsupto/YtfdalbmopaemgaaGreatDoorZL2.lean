import Derived.Test.YtfdalbmopaemgaaGreatDoorZR1
import Derived.Laws.CopyRow
import Derived.ArgAppend
namespace Go.Proofs.YtfdalbmopaemgaaGreatDoor
open Go.RowKit

/-! ### A row of events whose first are known -/
def Row (w : World) (g cap : Nat) (L : List Ev) : Prop :=
  ∃ cur : Array Value, w.heap[g]? = some (.cells cur 41 (0, 0)) ∧ cur.size = cap * 5 ∧ L.length ≤ cap ∧ cap ≤ maxLen ∧ cur.toList.take (L.length * 5) = evCells L

theorem Row.own {w : World} {g cap : Nat} {L : List Ev} (h : Row w g cap L) (B : Nat) (hB : B ≤ g) : Own w B (.slice (some ⟨g, 0, none⟩) L.length cap) L := by
  obtain ⟨cur, h1, h2, h3, h4, h5⟩ := h
  exact ⟨evCells_length L, Or.inr ⟨g, cap, cur, rfl, hB, h1, h3, h4, h2, h5⟩⟩

theorem Row.lt {w : World} {g cap : Nat} {L : List Ev} (h : Row w g cap L) : g < w.heap.size := by
  obtain ⟨cur, h1, _⟩ := h
  exact (Array.getElem?_eq_some_iff.1 h1).1

theorem Row.evs {w : World} {g cap : Nat} {L : List Ev} (h : Row w g cap L) : EvsAt w g 0 L := by
  intro i hi
  obtain ⟨cur, h1, h2, h3, h4, h5⟩ := h
  have at_ : ∀ f, f < 5 → ∀ u, (evC L[i])[f]? = some u → w.cell? ⟨g, 0 + i * 5 + f, none⟩ = some u := fun f hf u hu => by
    have hx : (evCells L)[i * 5 + f]? = some u := by rw [evCells_at L i hi f hf]; exact hu
    rw [← h5, List.getElem?_take] at hx
    split at hx
    · simp only [World.cell?, h1, Option.isSome_none, Bool.false_eq_true, if_false, Nat.zero_add]
      simpa using hx
    · cases hx
  exact ⟨at_ 0 (by omega) _ rfl, at_ 1 (by omega) _ rfl, at_ 2 (by omega) _ rfl, at_ 3 (by omega) _ rfl, at_ 4 (by omega) _ rfl⟩

theorem Row.there {w : World} {g cap : Nat} {L : List Ev} (h : Row w g cap L) (o : Nat) (ho : o < cap * 5) : (∃ v, w.cell? ⟨g, o, none⟩ = some v) ∧ w.frozen? ⟨g, o, none⟩ = false := by
  obtain ⟨cur, h1, h2, _⟩ := h
  refine ⟨⟨cur[o]'(by omega), ?_⟩, ?_⟩
  · simp [World.cell?, h1, show o < cur.size by omega]
  · simp [World.frozen?, h1]

theorem Row.of_heap {w w' : World} {g cap : Nat} {L : List Ev} (h : Row w g cap L) (hh : w'.heap[g]? = w.heap[g]?) : Row w' g cap L := by
  obtain ⟨cur, h1, h2⟩ := h
  exact ⟨cur, by rw [hh]; exact h1, h2⟩

theorem Row.below {w w' : World} {B g cap : Nat} {L : List Ev} (h : Row w g cap L) (hb : Below B w w') (hB : g < B) : Row w' g cap L := h.of_heap (hb.block g hB)

theorem Row.prefix {w : World} {g cap : Nat} {L M : List Ev} (h : Row w g cap (L ++ M)) : Row w g cap L := by
  obtain ⟨cur, h1, h2, h3, h4, h5⟩ := h
  rw [List.length_append] at h3 h5
  refine ⟨cur, h1, h2, by omega, h4, ?_⟩
  have := congrArg (List.take (L.length * 5)) h5
  rw [List.take_take, evCells_append, ← evCells_length L, List.take_left] at this
  rw [← this, evCells_length]
  congr 1
  omega

theorem setCell_heap (w : World) (g o : Nat) (cur : Array Value) (t : TypeId) (v : Value) (h : w.heap[g]? = some (.cells cur t (0, 0))) : (w.setCell ⟨g, o, none⟩ v).heap[g]? = some (.cells (cur.setIfInBounds o v) t (0, 0)) := by
  rw [setCell_eq_setRow w g o cur t (0, 0) v h]
  exact setRow_heap w g cur _ t _ h

def store5 (w : World) (g o : Nat) (e : Ev) : World :=
  ((((w.setCell ⟨g, o, none⟩ (.int .u8 e.k)).setCell ⟨g, o + 1, none⟩ (.int .u8 e.t)).setCell ⟨g, o + 2, none⟩ (.int .u8 e.a)).setCell ⟨g, o + 3, none⟩ (.int .i32 e.v)).setCell ⟨g, o + 4, none⟩ (.int .i32 e.s)

theorem store5_other (w : World) (g o : Nat) (e : Ev) (k : Nat) (hk : k ≠ g) : (store5 w g o e).heap[k]? = w.heap[k]? := by
  unfold store5
  rw [Below.heap_setCell _ _ _ _ hk, Below.heap_setCell _ _ _ _ hk, Below.heap_setCell _ _ _ _ hk, Below.heap_setCell _ _ _ _ hk, Below.heap_setCell _ _ _ _ hk]

theorem store5_below {B : Nat} {a w : World} (h : Below B a w) (g o : Nat) (e : Ev) (hg : B ≤ g) : Below B a (store5 w g o e) :=
  ((((h.setCell (p := ⟨g, o, none⟩) hg _).setCell (p := ⟨g, o + 1, none⟩) hg _).setCell (p := ⟨g, o + 2, none⟩) hg _).setCell (p := ⟨g, o + 3, none⟩) hg _).setCell (p := ⟨g, o + 4, none⟩) hg _

theorem store5_size (w : World) (g o : Nat) (e : Ev) : (store5 w g o e).heap.size = w.heap.size := by simp [store5]

theorem set5_list (l : List Value) (n : Nat) (e : Ev) (h : n * 5 + 5 ≤ l.length) (M : List Value) (hM : l.take (n * 5) = M) :
    (((((l.set (n * 5) (.int .u8 e.k)).set (n * 5 + 1) (.int .u8 e.t)).set (n * 5 + 2) (.int .u8 e.a)).set (n * 5 + 3) (.int .i32 e.v)).set (n * 5 + 4) (.int .i32 e.s)).take ((n + 1) * 5) = M ++ evC e := by
  apply List.ext_getElem?
  intro j
  have hl : M.length = n * 5 := by rw [← hM, List.length_take]; omega
  simp only [List.getElem?_take, List.getElem?_set, List.length_set]
  by_cases hj : j < n * 5
  · rw [if_pos (by omega), if_neg (by omega), if_neg (by omega), if_neg (by omega), if_neg (by omega), if_neg (by omega), List.getElem?_append_left (by omega), ← hM, List.getElem?_take, if_pos hj]
  · rw [List.getElem?_append_right (by omega), hl]
    by_cases h5 : j < n * 5 + 5
    · rw [if_pos (by omega)]
      have : j = n * 5 ∨ j = n * 5 + 1 ∨ j = n * 5 + 2 ∨ j = n * 5 + 3 ∨ j = n * 5 + 4 := by omega
      rcases this with rfl | rfl | rfl | rfl | rfl
      all_goals simp [evC]; omega
    · rw [if_neg (by omega), List.getElem?_eq_none (by simp [evC]; omega)]

theorem Row.store {w : World} {g cap : Nat} {L : List Ev} (h : Row w g cap L) (hl : L.length < cap) (e : Ev) : Row (store5 w g (L.length * 5) e) g cap (L ++ [e]) := by
  obtain ⟨cur, h1, h2, h3, h4, h5⟩ := h
  unfold store5
  have a1 := setCell_heap w g (L.length * 5) cur _ (.int .u8 e.k) h1
  have a2 := setCell_heap _ g (L.length * 5 + 1) _ _ (.int .u8 e.t) a1
  have a3 := setCell_heap _ g (L.length * 5 + 2) _ _ (.int .u8 e.a) a2
  have a4 := setCell_heap _ g (L.length * 5 + 3) _ _ (.int .i32 e.v) a3
  have a5 := setCell_heap _ g (L.length * 5 + 4) _ _ (.int .i32 e.s) a4
  refine ⟨_, a5, by simpa using h2, by simp; omega, h4, ?_⟩
  have hc : cur.toList.length = cap * 5 := by simpa using h2
  simp only [Array.toList_setIfInBounds, List.length_append, List.length_cons, List.length_nil, Nat.zero_add, evCells_append]
  rw [set5_list cur.toList L.length e (by omega) _ h5]
  simp [evCells]

/-! ### marked, beyond -/
def mkEv (m : Int) : Ev := ⟨77, 77, 0, m, -m⟩
def byEv : Ev := ⟨9, 9, 9, 9, 9⟩

set_option maxHeartbeats 400000 in
theorem marked_any (m : Int) (w : World) (h0 : 0 ≤ m) (h1 : m ≤ 1073741824) :
    Calls Tryz.prog 21 #[.int .i32 m] w fun r w' => r = .returned (evV (mkEv m)) ∧ Below w.heap.size w w' := by
  unfold mkEv
  go_enter Tryz.func21, Tryz.ntmps21
  go_wp2_with fail
  exact bodyPost_ret (v := evV ⟨77, 77, 0, m, -m⟩) (by simp [results, Tryz.results21, go_sem]) rfl ⟨rfl, (Below.refl _ _).alloc (Nat.le_refl _) _⟩

set_option maxHeartbeats 400000 in
theorem beyond_any (w : World) :
    Calls Tryz.prog 49 #[] w fun r w' => r = .returned (evV byEv) ∧ Below w.heap.size w w' := by
  go_enter Tryz.func49, Tryz.ntmps49
  go_wp2_with fail
  exact bodyPost_ret (v := evV byEv) (by simp [results, Tryz.results49, go_sem, byEv]) rfl ⟨rfl, (Below.refl _ _).alloc (Nat.le_refl _) _⟩

/-! ### copy, where an element takes k cells -/
theorem run_copy_rowk {P : Program} (w : World) (dT sT ty elem : TypeId) (g o dLen dCap : Nat) (a : Addr) (sLen sCap : Nat) (cur : Array Value) (t : TypeId) (cs : List Value) (k n : Nat)
    (hu : P.underlying dT = some (.slice elem)) (hs : (P.info? elem).map (·.size) = some k)
    (hg : w.heap[g]? = some (.cells cur t (0, 0))) (hn : Nat.min sLen dLen = n) (hcs : cs.length = n * k)
    (hsrc : ∀ j v, cs[j]? = some v → w.cell? (a.add j) = some v) (hfit : o + cs.length ≤ cur.size) (h1 : ∀ v ∈ cs, v.oneCell' = true) :
    (Builtin.copy_ #[dT, sT] ty #[.slice (some ⟨g, o, none⟩) dLen dCap, .slice (some a) sLen sCap]).run P w =
      .ok (goInt n) (w.setRow g (cur.toList.take o ++ cs ++ cur.toList.drop (o + cs.length)).toArray) := by
  have hl := run_loadCells_list (P := P) w a cs hsrc
  have hst := run_storeCells_at P g o t cs 0 cur w hg (by simpa using hfit) h1
  cases hq : P.info? elem with
  | none => simp [hq] at hs
  | some i =>
    have hi : i.size = k := by simpa [hq] using hs
    rw [hcs] at hl
    simp [Builtin.copy_, run_underlying hu, Builtin.lenOf, Builtin.firstCells, sizeOf, typeInfo, hq, hi, hn, hl, hst]

theorem run_copy_nonek {P : Program} (w : World) (dT sT ty elem : TypeId) (d a : Option Addr) (dLen dCap sCap : Nat) (hu : P.underlying dT = some (.slice elem)) (hs : (P.info? elem).map (·.size) = some 5) :
    (Builtin.copy_ #[dT, sT] ty #[.slice d dLen dCap, .slice a 0 sCap]).run P w = .ok (goInt 0) w := by
  cases hq : P.info? elem with
  | none => simp [hq] at hs
  | some i =>
    have hl : ∀ (x : Addr), (loadCells x 0).run P w = .ok #[] w := fun x => by simpa using run_loadCells_list (P := P) w x [] (by simp)
    have hz : Nat.min 0 dLen = 0 := Nat.zero_min dLen
    cases d <;> cases a <;> simp [Builtin.copy_, run_underlying hu, Builtin.lenOf, Builtin.firstCells, sizeOf, typeInfo, hq, hz, storeCells, hl]

end Go.Proofs.YtfdalbmopaemgaaGreatDoor

namespace Go.Proofs.YtfdalbmopaemgaaGreatDoor
open Go.RowKit

theorem addp (b off j : Nat) : (⟨b, off, none⟩ : Addr).add j = ⟨b, off + j, none⟩ := by unfold Addr.add; split <;> simp_all

theorem evs_cells {w : World} {b off : Nat} {es : List Ev} (h : EvsAt w b off es) : ∀ j v, (evCells es)[j]? = some v → w.cell? ((⟨b, off, none⟩ : Addr).add j) = some v := by
  intro j v hj
  have hlen := (List.getElem?_eq_some_iff.1 hj).1
  rw [evCells_length] at hlen
  have hi : j / 5 < es.length := by omega
  have hdm : j = j / 5 * 5 + j % 5 := by omega
  have hf : j % 5 < 5 := Nat.mod_lt _ (by decide)
  rw [hdm, evCells_at es (j / 5) hi (j % 5) hf] at hj
  rw [addp]
  have he := h (j / 5) hi
  have hc : j % 5 = 0 ∨ j % 5 = 1 ∨ j % 5 = 2 ∨ j % 5 = 3 ∨ j % 5 = 4 := by omega
  have hoff : off + j = off + j / 5 * 5 + j % 5 := by omega
  rw [hoff]
  rcases hc with hc | hc | hc | hc | hc <;> rw [hc] at hj ⊢ <;> simp [evC] at hj <;> subst hj
  · exact he.c0
  · exact he.c1
  · exact he.c2
  · exact he.c3
  · exact he.c4

theorem evCells_one (es : List Ev) : ∀ u ∈ evCells es, u.oneCell' = true := by
  induction es with
  | nil => intro u hu; cases hu
  | cons e l ih =>
    intro u hu
    simp only [evCells, List.mem_append] at hu
    rcases hu with hu | hu
    · exact evC_one e u hu
    · exact ih u hu

theorem Tryz.sizeEv : (Tryz.prog.info? 41).map (·.size) = some 5 := by kernel_rfl

theorem wpList_copy_evs {w : World} {ops : Array Oper} {rest : List Oper} {o : Oper} {a : Act} {Q : Exit → Act → World → Prop} (hgd : o.guard = none) (d s : Operand)
    (ho : o.op = .call { callee := .builtin .copy, args := #[d, s], argTypes := #[31, 31] }) (g cap : Nat) (v : Value) (es : List Ev)
    (hd : a.eval d = .slice (some ⟨g, 0, none⟩) cap cap) (hs : a.eval s = v) (hsl : SlEv w v es) (hrow : Row w g cap []) (hle : es.length ≤ cap)
    (h : ∀ w', Row w' g cap es → w.grownBy w' (some g) → wpList Tryz.prog ops Q rest (a.put o.dst (goInt es.length)) w') : wpList Tryz.prog ops Q (o :: rest) a w := by
  refine wpList_plain hgd fun K hK => ?_
  rcases hsl with ⟨rfl, ad, c, rfl⟩ | ⟨b, off, c, rfl, _, hev⟩
  · have hrun := run_copy_nonek (P := Tryz.prog) w 31 31 o.type 41 (some ⟨g, 0, none⟩) ad cap cap c Tryz.underlying31 Tryz.sizeEv
    unfold Oper.wp
    simp [execOp, ho, resolve, invoke, builtin, hd, hs, hrun, Result.andThen]
    exact hK _ _ (h w hrow (World.grownBy.refl w _))
  · obtain ⟨cur, h1, h2, h3, h4, h5⟩ := hrow
    have hlen := evCells_length es
    have hrun := run_copy_rowk (P := Tryz.prog) w 31 31 o.type 41 g 0 cap cap ⟨b, off, none⟩ es.length c cur 41 (evCells es) 5 es.length Tryz.underlying31 Tryz.sizeEv h1 (Nat.min_eq_left hle) hlen (evs_cells hev) (by rw [hlen, h2]; omega) (evCells_one es)
    unfold Oper.wp
    simp [execOp, ho, resolve, invoke, builtin, hd, hs, hrun, Result.andThen]
    refine hK _ _ (h _ ⟨_, setRow_heap w g cur _ _ _ h1, ?_, hle, h4, ?_⟩ ⟨rfl, rfl, rfl, by simp [World.setRow], fun k _ hk => setRow_other w g k _ (fun e => hk (by rw [e]))⟩)
    · simp [hlen, h2]
      omega
    · rw [← hlen]
      exact List.take_left

theorem Row.grown {w w' : World} {g cap : Nat} {L : List Ev} {row : Option Nat} (h : Row w g cap L) (hg : w.grownBy w' row) (hne : some g ≠ row) : Row w' g cap L := h.of_heap (hg.block g h.lt hne)

theorem below_grownBy {w w' : World} {B g : Nat} (h : w.grownBy w' (some g)) (hg : B ≤ g) (hB : B ≤ w.heap.size) : Below B w w' :=
  ⟨h.os, h.tape, h.output, h.size, fun k hk => h.block k (Nat.lt_of_lt_of_le hk hB) (by intro e; cases e; omega)⟩

/-! ### handed -/
def HandPost (w : World) (es : List Ev) (r : Ending) (w' : World) : Prop :=
  ∃ g, r = .returned (.slice (some ⟨g, 0, none⟩) (es.length + 8) (es.length + 8)) ∧ w.heap.size ≤ g ∧ Row w' g (es.length + 8) (es ++ List.replicate 8 byEv) ∧ Below w.heap.size w w'

set_option maxRecDepth 100000 in
set_option maxHeartbeats 1000000 in
theorem handed_any (v : Value) (es : List Ev) (w : World) (hs : SlEv w v es) (hm : es.length ≤ 1048576) :
    Calls Tryz.prog 23 #[v] w (HandPost w es) := by
  obtain ⟨a0, c0, hv⟩ : ∃ a0 c0, v = .slice a0 es.length c0 := by
    rcases hs with ⟨rfl, a, c, rfl⟩ | ⟨b, off, c, rfl, _, _⟩
    · exact ⟨a, c, rfl⟩
    · exact ⟨_, c, rfl⟩
  subst hv
  have HS := hidIt hs
  clear hs
  obtain ⟨i0, hi, hz0, hz1, hz2⟩ := info_parts Tryz.infoEv
  have HI := hidIt hi
  have HZ0 := hidIt hz0
  have HZ1 := hidIt hz1
  have HZ2 := hidIt hz2
  clear hi hz0 hz1 hz2
  have hl0 : (0 : Int) ≤ (es.length : Int) := by omega
  go_enter Tryz.func23, Tryz.ntmps23
  go_wp2_with (at_make; refine wpList_make_full _ rfl _ _ 31 rfl w.heap.size 41 i0 (.agg #[.int .u8 0, .int .u8 0, .int .u8 0, .int .i32 0, .int .i32 0]) 5 Tryz.underlying31 HI.out HZ0.out HZ1.out .i64 .i64 _ _ (es.length + 8) rfl rfl ?c1 ?c2 ?c3 ?c4 (Nat.le_refl _) ?_)
  case c1 => simp
  case c2 => simp
  case c3 => rw [HZ2.out]; omega
  case c4 => unfold maxLen; omega
  intro w1 hown hgrow
  have hrow1 : Row w1 w.heap.size (es.length + 8) [] := by
    rcases hown.2 with ⟨h, _⟩ | ⟨g, cap, cur, h, _, h2, h3, h4, h5, h6⟩
    · cases h
    · simp only [Value.slice.injEq, Option.some.injEq, Addr.mk.injEq, true_and, and_true] at h
      obtain ⟨rfl, rfl⟩ := h
      exact ⟨cur, h2, h5, by simp, h4, by simp [evCells]⟩
  have hb1 : Below w.heap.size w w1 := ⟨hgrow.os, hgrow.tape, hgrow.output, hgrow.size, fun k hk => hgrow.block k hk (by intro e; cases e)⟩
  have HS1 := hidIt (HS.out.below hb1)
  clear hown hgrow
  go_wp2_with (refine wpList_copy_evs rfl _ _ rfl w.heap.size (es.length + 8) _ es rfl rfl HS1.out hrow1 (by omega) ?_)
  intro w2 hrow2 hgrow2
  have hb2 : Below w.heap.size w w2 := hb1.trans (below_grownBy hgrow2 (Nat.le_refl _) hb1.size)
  clear hgrow2 hrow1 HS1
  go_wp2_with fail
  go_loopw [4] (fun i wr => ∃ k : Nat, k ≤ 8 ∧ i = .int .i64 k ∧ Row wr w.heap.size (es.length + 8) (es ++ List.replicate k byEv) ∧ Below w.heap.size w wr) (fun i _ => 8 - (intOf i).toNat)
  case atStart => exact ⟨0, by omega, rfl, by simpa using hrow2, hb2⟩
  case round =>
    obtain ⟨k, hk, rfl, hrow, hnx⟩ := hrel
    by_cases hlt : k < 8
    · have hlt' : (k : Int) < 8 := by omega
      have hk0 : (0 : Int) ≤ (k : Int) := by omega
      have hlen : (es ++ List.replicate k byEv).length = es.length + k := by simp
      have hg := hrow.lt
      go_wp2_with (go_at_call 49; refine (beyond_any _).mono ?_; rintro r w3 ⟨rfl, hb3⟩; have hrow3 := hrow.below hb3 hg; obtain ⟨⟨x0, t0⟩, f0⟩ := hrow3.there ((es.length + k) * 5) (by omega); obtain ⟨⟨x1, t1⟩, f1⟩ := hrow3.there ((es.length + k) * 5 + 1) (by omega); obtain ⟨⟨x2, t2⟩, f2⟩ := hrow3.there ((es.length + k) * 5 + 2) (by omega); obtain ⟨⟨x3, t3⟩, f3⟩ := hrow3.there ((es.length + k) * 5 + 3) (by omega); obtain ⟨⟨x4, t4⟩, f4⟩ := hrow3.there ((es.length + k) * 5 + 4) (by omega))
      have hrow4 := hrow3.store (by rw [hlen]; omega) byEv
      rw [hlen, List.append_assoc, ← List.replicate_succ'] at hrow4
      have hb4 := store5_below (hnx.trans (hb3.mono hnx.size)) w.heap.size ((es.length + k) * 5) byEv (Nat.le_refl _)
      go_roundw
      case rel => exact ⟨k + 1, by omega, by go_num, hrow4, hb4⟩
      case measure => simp [intOf]; omega
    · have hge : ¬ (k : Int) < 8 := by omega
      have hke : k = 8 := by omega
      subst hke
      go_wp2_with fail
      go_ret
      exact ⟨w.heap.size, rfl, Nat.le_refl _, hrow, hnx⟩

/-! ### still -/
theorem Row.slEv {w : World} {g cap c : Nat} {L : List Ev} (h : Row w g cap L) : SlEv w (.slice (some ⟨g, 0, none⟩) L.length c) L := Or.inr ⟨g, 0, c, rfl, h.lt, h.evs⟩

set_option maxRecDepth 100000 in
set_option maxHeartbeats 1000000 in
theorem still_any (v : Value) (es : List Ev) (g : Nat) (w : World) (hs : SlEv w v es) (hm : es.length ≤ 1048576) (hrow : Row w g (es.length + 8) (es ++ List.replicate 8 byEv)) :
    Calls Tryz.prog 26 #[.slice (some ⟨g, 0, none⟩) (es.length + 8) (es.length + 8), v] w fun r w' => r = .returned (.bool true) ∧ Below w.heap.size w w' := by
  obtain ⟨a0, c0, hv⟩ : ∃ a0 c0, v = .slice a0 es.length c0 := by
    rcases hs with ⟨rfl, a, c, rfl⟩ | ⟨b, off, c, rfl, _, _⟩
    · exact ⟨a, c, rfl⟩
    · exact ⟨_, c, rfl⟩
  subst hv
  have HS := hidIt hs
  have HS2 := hidIt ((Row.prefix hrow).slEv (c := es.length + 8))
  have hev := hrow.evs
  have HEV := hidIt hev
  have hlt := hrow.lt
  clear hs hev
  have hl0 : (0 : Int) ≤ (es.length : Int) := by omega
  have hl1 : (es.length : Int) ≤ ((es.length + 8 : Nat) : Int) := by omega
  go_enter Tryz.func26, Tryz.ntmps26
  go_wp2_with fail
  refine (same_all _ _ es _ HS2.out HS.out (by omega)).mono ?_
  rintro r w1 ⟨rfl, n1, rfl⟩
  go_wp2_with fail
  refine (beyond_any _).mono ?_
  rintro r w2 ⟨rfl, hb2⟩
  have hb2' : Below w.heap.size w w2 := by
    have := below_drewN (Below.refl w.heap.size w) n1
    exact this.trans hb2
  go_wp2_with fail
  go_loopw [6, 8] (fun s i wr => ∃ k : Nat, es.length ≤ k ∧ k ≤ es.length + 8 ∧ i = .int .i64 k ∧ s = .bool true ∧ ∃ n, wr = (w2.alloc (.cells #[.int .u8 byEv.k, .int .u8 byEv.t, .int .u8 byEv.a, .int .i32 byEv.v, .int .i32 byEv.s] 41)).drewN n) (fun _ i _ => es.length + 8 - (intOf i).toNat)
  case atStart => exact ⟨es.length, Nat.le_refl _, by omega, rfl, rfl, 0, rfl⟩
  case round =>
    obtain ⟨k, hk1, hk2, rfl, rfl, n, rfl⟩ := hrel
    by_cases hlk : k < es.length + 8
    · have hlk' : (k : Int) < (es.length : Int) + 8 := by omega
      have hk0 : (0 : Int) ≤ (k : Int) := by omega
      have he : (es ++ List.replicate 8 byEv)[k]'(by simp; omega) = byEv := by
        rw [List.getElem_append_right hk1, List.getElem_replicate]
      have h5 := HEV.out k (by simp; omega)
      rw [he] at h5
      obtain ⟨x0, x1, x2, x3, x4⟩ := h5.below hlt (hb2'.alloc hb2'.size (.cells #[.int .u8 byEv.k, .int .u8 byEv.t, .int .u8 byEv.a, .int .i32 byEv.v, .int .i32 byEv.s] 41))
      simp only [Nat.zero_add] at x0 x1 x2 x3 x4
      go_wp2_with fail
      go_quiet (fail)
      go_wp2_with fail
      go_roundw
      case rel => exact ⟨k + 1, by omega, by omega, by go_num, rfl, _, rfl⟩
      case measure => simp [intOf]; omega
    · have hge : ¬ (k : Int) < (es.length : Int) + 8 := by omega
      go_wp2_with fail
      go_ret
      refine ⟨ret_bool (by simp), ?_⟩
      exact below_drewN (hb2'.alloc hb2'.size _) n

end Go.Proofs.YtfdalbmopaemgaaGreatDoor
