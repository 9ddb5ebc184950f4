import Derived.Test.YtfdalbmopaemgabZA
import Derived.Laws.BytesArg
import Derived.Laws.CopyRow
import Derived.ArgAppend
namespace Go.Proofs.Ytfdalbmopaemgab
open Go.RowKit

/-! ### sameEvents -/
set_option maxHeartbeats 1000000 in
theorem same_any (b1 o1 c1 b2 o2 c2 : Nat) (es : List Ev) (w : World) (h1 : EvsAt w b1 o1 es) (h2 : EvsAt w b2 o2 es) (hm : es.length ≤ 9223372036854775000) :
    Calls Try.prog 19 #[.slice (some ⟨b1, o1, none⟩) es.length c1, .slice (some ⟨b2, o2, none⟩) es.length c2] w fun r w' => r = .returned (.bool true) ∧ ∃ n, w' = w.drewN n := by
  go_enter Try.func19, Try.ntmps19
  go_wp2
  go_loopw [5] (fun i wr => ∃ k : Nat, k ≤ es.length ∧ i = .int .i64 k ∧ ∃ n, wr = w.drewN n) (fun i _ => es.length - (intOf i).toNat)
  case atStart => exact ⟨0, by omega, rfl, 0, rfl⟩
  case round =>
    obtain ⟨k, hk, rfl, n, rfl⟩ := hrel
    by_cases hlt : k < es.length
    · obtain ⟨x0, x1, x2, x3, x4⟩ := h1 k hlt
      obtain ⟨y0, y1, y2, y3, y4⟩ := h2 k hlt
      have hlt' : (k : Int) < (es.length : Int) := by omega
      have hk0 : (0 : Int) ≤ (k : Int) := by omega
      generalize es[k] = e at *
      go_wp2_with fail
      go_quiet (fail)
      go_wp2
      go_roundw
      case rel => exact ⟨k + 1, by omega, by go_num, _, rfl⟩
      case measure => simp [intOf]; omega
    · have hge : ¬ (k : Int) < (es.length : Int) := by omega
      go_wp2
      go_ret
      exact ⟨rfl, n, rfl⟩

set_option maxHeartbeats 400000 in
theorem same_nil (a b : Option Addr) (c d : Nat) (w : World) :
    Calls Try.prog 19 #[.slice a 0 c, .slice b 0 d] w fun r w' => r = .returned (.bool true) ∧ ∃ n, w' = w.drewN n := by
  go_enter Try.func19, Try.ntmps19
  go_wp2
  go_loop [5] (fun i => i = .int .i64 0) (fun _ => 0)
  case atStart => rfl
  case round =>
    obtain rfl := hrel
    go_wp2
    go_ret
    exact ⟨rfl, 0, rfl⟩

theorem same_all (u v : Value) (es : List Ev) (w : World) (h1 : SlEv w u es) (h2 : SlEv w v es) (hm : es.length ≤ 9223372036854775000) :
    Calls Try.prog 19 #[u, v] w fun r w' => r = .returned (.bool true) ∧ ∃ n, w' = w.drewN n := by
  rcases h1 with ⟨rfl, a, c, rfl⟩ | ⟨b, off, cap, rfl, _, h3⟩
  · rcases h2 with ⟨_, a', c', rfl⟩ | ⟨b, off, cap, rfl, _, _⟩
    · exact same_nil a a' c c' w
    · exact same_nil a _ c cap w
  · rcases h2 with ⟨rfl, a', c', rfl⟩ | ⟨b', off', cap', rfl, _, h4⟩
    · exact same_nil _ a' cap c' w
    · exact same_any b off cap b' off' cap' es w h3 h4 hm

end Go.Proofs.Ytfdalbmopaemgab

namespace Go.Proofs.Ytfdalbmopaemgab
open Go.RowKit

/-! ### The document's own texts: number, line, Print -/
theorem itoa_small (n : Nat) (h : n < 10) : Lib.itoa (n : Int) = [UInt8.ofNat (48 + n)] := by rw [itoa_pos, dec_small h]
theorem itoa_big (n : Nat) (h : ¬ n < 10) : Lib.itoa (n : Int) = Lib.itoa ((n / 10 : Nat) : Int) ++ [UInt8.ofNat (48 + n % 10)] := by rw [itoa_pos, itoa_pos, dec_big h]

theorem dig_add (d : Nat) : 48 + UInt8.ofNat d = UInt8.ofNat (48 + d) := by simp

theorem conv_one (W : World) (x : Int) : (convert 78 9 (.slice (some ⟨W.heap.size, 0, none⟩) 1 1)).run Try.prog (W.alloc (.cells #[.int .u8 x] 5)) = .ok (.string ⟨#[UInt8.ofNat x.toNat]⟩) (W.alloc (.cells #[.int .u8 x] 5)) := by
  have := run_convert_bytes_arg (P := Try.prog) (W.alloc (.cells #[.int .u8 x] 5)) 78 5 Try.underlying78 Try.underlying5 W.heap.size 0 1 1 [x] rfl (fun i hi => by
    obtain rfl : i = 0 := by omega
    simp [go_sem]) 9 Try.underlying9
  rw [this]
  rfl

theorem line_B (e : Ev) (h : e.k = 1) : lineL e ++ [10] = [66] ++ ([32] ++ Lib.itoa e.t) ++ ([32] ++ Lib.itoa e.a) ++ [10] := by
  simp [lineL, letterL, numbersL, numL, optL, nArg, nVal, nSeen, onObj, h]
theorem line_R (e : Ev) (h : e.k = 2) : lineL e ++ [10] = [82] ++ ([32] ++ Lib.itoa e.t) ++ ([32] ++ Lib.itoa e.a) ++ ([32] ++ Lib.itoa e.s) ++ [10] := by
  simp [lineL, letterL, numbersL, numL, optL, nArg, nVal, nSeen, onObj, h]
theorem line_W (e : Ev) (h : e.k = 3) : lineL e ++ [10] = [87] ++ ([32] ++ Lib.itoa e.t) ++ ([32] ++ Lib.itoa e.a) ++ ([32] ++ Lib.itoa e.v) ++ [10] := by
  simp [lineL, letterL, numbersL, numL, optL, nArg, nVal, nSeen, onObj, h]
theorem line_A (e : Ev) (h : e.k = 4) : lineL e ++ [10] = [65] ++ ([32] ++ Lib.itoa e.t) ++ ([32] ++ Lib.itoa e.a) ++ ([32] ++ Lib.itoa e.v) ++ ([32] ++ Lib.itoa e.s) ++ [10] := by
  simp [lineL, letterL, numbersL, numL, optL, nArg, nVal, nSeen, onObj, h]
theorem line_C (e : Ev) (h : e.k = 5) : lineL e ++ [10] = [67] ++ ([32] ++ Lib.itoa e.t) ++ [10] := by
  simp [lineL, letterL, numbersL, numL, optL, nArg, nVal, nSeen, onObj, h]
theorem line_X (e : Ev) (h : e.k = 6) : lineL e ++ [10] = [88] ++ ([32] ++ Lib.itoa e.t) ++ [10] := by
  simp [lineL, letterL, numbersL, numL, optL, nArg, nVal, nSeen, onObj, h]

theorem text_step2 (es : List Ev) (k : Nat) (h : k < es.length) (l : List UInt8) (ev : Ev) (he : es[k] = ev) (hl : lineL ev ++ [10] = l) :
    (⟨(printL (es.take k)).toArray⟩ ++ ⟨l.toArray⟩ : ByteArray) = ⟨(printL (es.take (k + 1))).toArray⟩ := by
  rw [List.take_succ_eq_append_getElem h, printL_snoc, he, hl, app_str]

end Go.Proofs.Ytfdalbmopaemgab

namespace Go.Proofs.Ytfdalbmopaemgab
open Go.RowKit

/-! ### A row of events whose first are known -/
def Row (w : World) (g cap : Nat) (L : List Ev) : Prop :=
  ∃ cur : Array Value, w.heap[g]? = some (.cells cur 71 (0, 0)) ∧ cur.size = cap * 5 ∧ L.length ≤ cap ∧ cap ≤ maxLen ∧ cur.toList.take (L.length * 5) = evCells L

theorem Row.own {w : World} {g cap : Nat} {L : List Ev} (h : Row w g cap L) (B : Nat) (hB : B ≤ g) : Own w B (.slice (some ⟨g, 0, none⟩) L.length cap) L := by
  obtain ⟨cur, h1, h2, h3, h4, h5⟩ := h
  exact ⟨evCells_length L, Or.inr ⟨g, cap, cur, rfl, hB, h1, h3, h4, h2, h5⟩⟩

theorem Row.lt {w : World} {g cap : Nat} {L : List Ev} (h : Row w g cap L) : g < w.heap.size := by
  obtain ⟨cur, h1, _⟩ := h
  exact (Array.getElem?_eq_some_iff.1 h1).1

theorem Row.evs {w : World} {g cap : Nat} {L : List Ev} (h : Row w g cap L) : EvsAt w g 0 L := by
  intro i hi
  obtain ⟨cur, h1, h2, h3, h4, h5⟩ := h
  have at_ : ∀ f, f < 5 → ∀ u, (evC L[i])[f]? = some u → w.cell? ⟨g, 0 + i * 5 + f, none⟩ = some u := fun f hf u hu => by
    have hx : (evCells L)[i * 5 + f]? = some u := by rw [evCells_at L i hi f hf]; exact hu
    rw [← h5, List.getElem?_take] at hx
    split at hx
    · simp only [World.cell?, h1, Option.isSome_none, Bool.false_eq_true, if_false, Nat.zero_add]
      simpa using hx
    · cases hx
  exact ⟨at_ 0 (by omega) _ rfl, at_ 1 (by omega) _ rfl, at_ 2 (by omega) _ rfl, at_ 3 (by omega) _ rfl, at_ 4 (by omega) _ rfl⟩

theorem Row.there {w : World} {g cap : Nat} {L : List Ev} (h : Row w g cap L) (o : Nat) (ho : o < cap * 5) : (∃ v, w.cell? ⟨g, o, none⟩ = some v) ∧ w.frozen? ⟨g, o, none⟩ = false := by
  obtain ⟨cur, h1, h2, _⟩ := h
  refine ⟨⟨cur[o]'(by omega), ?_⟩, ?_⟩
  · simp [World.cell?, h1, show o < cur.size by omega]
  · simp [World.frozen?, h1]

theorem Row.of_heap {w w' : World} {g cap : Nat} {L : List Ev} (h : Row w g cap L) (hh : w'.heap[g]? = w.heap[g]?) : Row w' g cap L := by
  obtain ⟨cur, h1, h2⟩ := h
  exact ⟨cur, by rw [hh]; exact h1, h2⟩

theorem Row.below {w w' : World} {B g cap : Nat} {L : List Ev} (h : Row w g cap L) (hb : Below B w w') (hB : g < B) : Row w' g cap L := h.of_heap (hb.block g hB)

theorem Row.prefix {w : World} {g cap : Nat} {L M : List Ev} (h : Row w g cap (L ++ M)) : Row w g cap L := by
  obtain ⟨cur, h1, h2, h3, h4, h5⟩ := h
  rw [List.length_append] at h3 h5
  refine ⟨cur, h1, h2, by omega, h4, ?_⟩
  have := congrArg (List.take (L.length * 5)) h5
  rw [List.take_take, evCells_append, ← evCells_length L, List.take_left] at this
  rw [← this, evCells_length]
  congr 1
  omega

theorem setCell_heap (w : World) (g o : Nat) (cur : Array Value) (t : TypeId) (v : Value) (h : w.heap[g]? = some (.cells cur t (0, 0))) : (w.setCell ⟨g, o, none⟩ v).heap[g]? = some (.cells (cur.setIfInBounds o v) t (0, 0)) := by
  rw [setCell_eq_setRow w g o cur t (0, 0) v h]
  exact setRow_heap w g cur _ t _ h

def store5 (w : World) (g o : Nat) (e : Ev) : World :=
  ((((w.setCell ⟨g, o, none⟩ (.int .u8 e.k)).setCell ⟨g, o + 1, none⟩ (.int .u8 e.t)).setCell ⟨g, o + 2, none⟩ (.int .u8 e.a)).setCell ⟨g, o + 3, none⟩ (.int .i32 e.v)).setCell ⟨g, o + 4, none⟩ (.int .i32 e.s)

theorem store5_other (w : World) (g o : Nat) (e : Ev) (k : Nat) (hk : k ≠ g) : (store5 w g o e).heap[k]? = w.heap[k]? := by
  unfold store5
  rw [Below.heap_setCell _ _ _ _ hk, Below.heap_setCell _ _ _ _ hk, Below.heap_setCell _ _ _ _ hk, Below.heap_setCell _ _ _ _ hk, Below.heap_setCell _ _ _ _ hk]

theorem store5_below {B : Nat} {a w : World} (h : Below B a w) (g o : Nat) (e : Ev) (hg : B ≤ g) : Below B a (store5 w g o e) :=
  ((((h.setCell (p := ⟨g, o, none⟩) hg _).setCell (p := ⟨g, o + 1, none⟩) hg _).setCell (p := ⟨g, o + 2, none⟩) hg _).setCell (p := ⟨g, o + 3, none⟩) hg _).setCell (p := ⟨g, o + 4, none⟩) hg _

theorem store5_size (w : World) (g o : Nat) (e : Ev) : (store5 w g o e).heap.size = w.heap.size := by simp [store5]

theorem set5_list (l : List Value) (n : Nat) (e : Ev) (h : n * 5 + 5 ≤ l.length) (M : List Value) (hM : l.take (n * 5) = M) :
    (((((l.set (n * 5) (.int .u8 e.k)).set (n * 5 + 1) (.int .u8 e.t)).set (n * 5 + 2) (.int .u8 e.a)).set (n * 5 + 3) (.int .i32 e.v)).set (n * 5 + 4) (.int .i32 e.s)).take ((n + 1) * 5) = M ++ evC e := by
  apply List.ext_getElem?
  intro j
  have hl : M.length = n * 5 := by rw [← hM, List.length_take]; omega
  simp only [List.getElem?_take, List.getElem?_set, List.length_set]
  by_cases hj : j < n * 5
  · rw [if_pos (by omega), if_neg (by omega), if_neg (by omega), if_neg (by omega), if_neg (by omega), if_neg (by omega), List.getElem?_append_left (by omega), ← hM, List.getElem?_take, if_pos hj]
  · rw [List.getElem?_append_right (by omega), hl]
    by_cases h5 : j < n * 5 + 5
    · rw [if_pos (by omega)]
      have : j = n * 5 ∨ j = n * 5 + 1 ∨ j = n * 5 + 2 ∨ j = n * 5 + 3 ∨ j = n * 5 + 4 := by omega
      rcases this with rfl | rfl | rfl | rfl | rfl
      all_goals simp [evC]; omega
    · rw [if_neg (by omega), List.getElem?_eq_none (by simp [evC]; omega)]

theorem Row.store {w : World} {g cap : Nat} {L : List Ev} (h : Row w g cap L) (hl : L.length < cap) (e : Ev) : Row (store5 w g (L.length * 5) e) g cap (L ++ [e]) := by
  obtain ⟨cur, h1, h2, h3, h4, h5⟩ := h
  unfold store5
  have a1 := setCell_heap w g (L.length * 5) cur _ (.int .u8 e.k) h1
  have a2 := setCell_heap _ g (L.length * 5 + 1) _ _ (.int .u8 e.t) a1
  have a3 := setCell_heap _ g (L.length * 5 + 2) _ _ (.int .u8 e.a) a2
  have a4 := setCell_heap _ g (L.length * 5 + 3) _ _ (.int .i32 e.v) a3
  have a5 := setCell_heap _ g (L.length * 5 + 4) _ _ (.int .i32 e.s) a4
  refine ⟨_, a5, by simpa using h2, by simp; omega, h4, ?_⟩
  have hc : cur.toList.length = cap * 5 := by simpa using h2
  simp only [Array.toList_setIfInBounds, List.length_append, List.length_cons, List.length_nil, Nat.zero_add, evCells_append]
  rw [set5_list cur.toList L.length e (by omega) _ h5]
  simp [evCells]

/-! ### marked, beyond -/
def mkEv (m : Int) : Ev := ⟨77, 77, 0, m, -m⟩
def byEv : Ev := ⟨9, 9, 9, 9, 9⟩

/-! ### copy, where an element takes k cells -/
theorem run_copy_rowk {P : Program} (w : World) (dT sT ty elem : TypeId) (g o dLen dCap : Nat) (a : Addr) (sLen sCap : Nat) (cur : Array Value) (t : TypeId) (cs : List Value) (k n : Nat)
    (hu : P.underlying dT = some (.slice elem)) (hs : (P.info? elem).map (·.size) = some k)
    (hg : w.heap[g]? = some (.cells cur t (0, 0))) (hn : Nat.min sLen dLen = n) (hcs : cs.length = n * k)
    (hsrc : ∀ j v, cs[j]? = some v → w.cell? (a.add j) = some v) (hfit : o + cs.length ≤ cur.size) (h1 : ∀ v ∈ cs, v.oneCell' = true) :
    (Builtin.copy_ #[dT, sT] ty #[.slice (some ⟨g, o, none⟩) dLen dCap, .slice (some a) sLen sCap]).run P w =
      .ok (goInt n) (w.setRow g (cur.toList.take o ++ cs ++ cur.toList.drop (o + cs.length)).toArray) := by
  have hl := run_loadCells_list (P := P) w a cs hsrc
  have hst := run_storeCells_at P g o t cs 0 cur w hg (by simpa using hfit) h1
  cases hq : P.info? elem with
  | none => simp [hq] at hs
  | some i =>
    have hi : i.size = k := by simpa [hq] using hs
    rw [hcs] at hl
    simp [Builtin.copy_, run_underlying hu, Builtin.lenOf, Builtin.firstCells, sizeOf, typeInfo, hq, hi, hn, hl, hst]

theorem run_copy_nonek {P : Program} (w : World) (dT sT ty elem : TypeId) (d a : Option Addr) (dLen dCap sCap : Nat) (hu : P.underlying dT = some (.slice elem)) (hs : (P.info? elem).map (·.size) = some 5) :
    (Builtin.copy_ #[dT, sT] ty #[.slice d dLen dCap, .slice a 0 sCap]).run P w = .ok (goInt 0) w := by
  cases hq : P.info? elem with
  | none => simp [hq] at hs
  | some i =>
    have hl : ∀ (x : Addr), (loadCells x 0).run P w = .ok #[] w := fun x => by simpa using run_loadCells_list (P := P) w x [] (by simp)
    have hz : Nat.min 0 dLen = 0 := Nat.zero_min dLen
    cases d <;> cases a <;> simp [Builtin.copy_, run_underlying hu, Builtin.lenOf, Builtin.firstCells, sizeOf, typeInfo, hq, hz, storeCells, hl]

end Go.Proofs.Ytfdalbmopaemgab

namespace Go.Proofs.Ytfdalbmopaemgab
open Go.RowKit

theorem addp (b off j : Nat) : (⟨b, off, none⟩ : Addr).add j = ⟨b, off + j, none⟩ := by unfold Addr.add; split <;> simp_all

theorem evs_cells {w : World} {b off : Nat} {es : List Ev} (h : EvsAt w b off es) : ∀ j v, (evCells es)[j]? = some v → w.cell? ((⟨b, off, none⟩ : Addr).add j) = some v := by
  intro j v hj
  have hlen := (List.getElem?_eq_some_iff.1 hj).1
  rw [evCells_length] at hlen
  have hi : j / 5 < es.length := by omega
  have hdm : j = j / 5 * 5 + j % 5 := by omega
  have hf : j % 5 < 5 := Nat.mod_lt _ (by decide)
  rw [hdm, evCells_at es (j / 5) hi (j % 5) hf] at hj
  rw [addp]
  have he := h (j / 5) hi
  have hc : j % 5 = 0 ∨ j % 5 = 1 ∨ j % 5 = 2 ∨ j % 5 = 3 ∨ j % 5 = 4 := by omega
  have hoff : off + j = off + j / 5 * 5 + j % 5 := by omega
  rw [hoff]
  rcases hc with hc | hc | hc | hc | hc <;> rw [hc] at hj ⊢ <;> simp [evC] at hj <;> subst hj
  · exact he.c0
  · exact he.c1
  · exact he.c2
  · exact he.c3
  · exact he.c4

theorem evCells_one (es : List Ev) : ∀ u ∈ evCells es, u.oneCell' = true := by
  induction es with
  | nil => intro u hu; cases hu
  | cons e l ih =>
    intro u hu
    simp only [evCells, List.mem_append] at hu
    rcases hu with hu | hu
    · exact evC_one e u hu
    · exact ih u hu

theorem Try.sizeEv : (Try.prog.info? 71).map (·.size) = some 5 := by kernel_rfl

theorem wpList_copy_evs {w : World} {ops : Array Oper} {rest : List Oper} {o : Oper} {a : Act} {Q : Exit → Act → World → Prop} (hgd : o.guard = none) (d s : Operand)
    (ho : o.op = .call { callee := .builtin .copy, args := #[d, s], argTypes := #[27, 27] }) (g cap : Nat) (v : Value) (es : List Ev)
    (hd : a.eval d = .slice (some ⟨g, 0, none⟩) cap cap) (hs : a.eval s = v) (hsl : SlEv w v es) (hrow : Row w g cap []) (hle : es.length ≤ cap)
    (h : ∀ w', Row w' g cap es → w.grownBy w' (some g) → wpList Try.prog ops Q rest (a.put o.dst (goInt es.length)) w') : wpList Try.prog ops Q (o :: rest) a w := by
  refine wpList_plain hgd fun K hK => ?_
  rcases hsl with ⟨rfl, ad, c, rfl⟩ | ⟨b, off, c, rfl, _, hev⟩
  · have hrun := run_copy_nonek (P := Try.prog) w 27 27 o.type 71 (some ⟨g, 0, none⟩) ad cap cap c Try.underlying27 Try.sizeEv
    unfold Oper.wp
    simp [execOp, ho, resolve, invoke, builtin, hd, hs, hrun, Result.andThen]
    exact hK _ _ (h w hrow (World.grownBy.refl w _))
  · obtain ⟨cur, h1, h2, h3, h4, h5⟩ := hrow
    have hlen := evCells_length es
    have hrun := run_copy_rowk (P := Try.prog) w 27 27 o.type 71 g 0 cap cap ⟨b, off, none⟩ es.length c cur 71 (evCells es) 5 es.length Try.underlying27 Try.sizeEv h1 (Nat.min_eq_left hle) hlen (evs_cells hev) (by rw [hlen, h2]; omega) (evCells_one es)
    unfold Oper.wp
    simp [execOp, ho, resolve, invoke, builtin, hd, hs, hrun, Result.andThen]
    refine hK _ _ (h _ ⟨_, setRow_heap w g cur _ _ _ h1, ?_, hle, h4, ?_⟩ ⟨rfl, rfl, rfl, by simp [World.setRow], fun k _ hk => setRow_other w g k _ (fun e => hk (by rw [e]))⟩)
    · simp [hlen, h2]
      omega
    · rw [← hlen]
      exact List.take_left

theorem Row.grown {w w' : World} {g cap : Nat} {L : List Ev} {row : Option Nat} (h : Row w g cap L) (hg : w.grownBy w' row) (hne : some g ≠ row) : Row w' g cap L := h.of_heap (hg.block g h.lt hne)

theorem below_grownBy {w w' : World} {B g : Nat} (h : w.grownBy w' (some g)) (hg : B ≤ g) (hB : B ≤ w.heap.size) : Below B w w' :=
  ⟨h.os, h.tape, h.output, h.size, fun k hk => h.block k (Nat.lt_of_lt_of_le hk hB) (by intro e; cases e; omega)⟩

/-! ### handed -/
def HandPost (w : World) (es : List Ev) (r : Ending) (w' : World) : Prop :=
  ∃ g, r = .returned (.slice (some ⟨g, 0, none⟩) (es.length + 8) (es.length + 8)) ∧ w.heap.size ≤ g ∧ Row w' g (es.length + 8) (es ++ List.replicate 8 byEv) ∧ Below w.heap.size w w'

/-! ### still -/
theorem Row.slEv {w : World} {g cap c : Nat} {L : List Ev} (h : Row w g cap L) : SlEv w (.slice (some ⟨g, 0, none⟩) L.length c) L := Or.inr ⟨g, 0, c, rfl, h.lt, h.evs⟩

end Go.Proofs.Ytfdalbmopaemgab

namespace Go.Proofs.Ytfdalbmopaemgab
open Go.RowKit

/-! ### append: in place, or into a new row with all else as it was -/
def AppPost (w w' : World) (v v' : Value) : Prop :=
  (∃ g, v.ownBlock = some g ∧ v'.ownBlock = some g ∧ w.grownBy w' (some g)) ∨ (∃ g, v'.ownBlock = some g ∧ w.heap.size ≤ g ∧ w.grownBy w' none)

theorem ownsRow_mono {w : World} {b b' : Nat} {e : TypeId} {size : Nat} {v : Value} {n : Nat} {xs : List Value} (h : w.ownsRow b e size v n xs) (hb : b' ≤ b) : w.ownsRow b' e size v n xs := by
  refine ⟨h.1, ?_⟩
  rcases h.2 with h2 | ⟨g, cap, cur, h1, h2, h3⟩
  · exact Or.inl h2
  · exact Or.inr ⟨g, cap, cur, h1, Nat.le_trans hb h2, h3⟩

theorem ownsRow_block {w : World} {b : Nat} {e : TypeId} {size : Nat} {v : Value} {n : Nat} {xs : List Value} (h : w.ownsRow b e size v n xs) (hn : 0 < n) : ∃ g, v.ownBlock = some g ∧ b ≤ g := by
  rcases h.2 with ⟨_, h2⟩ | ⟨g, cap, cur, h1, h2, h3⟩
  · omega
  · exact ⟨g, by rw [h1]; rfl, h2⟩

theorem wpList_append_two {P : Program} (w : World) {ops : Array Oper} {rest : List Oper} {o : Oper} {a : Act} {Q : Exit → Act → World → Prop} (hgd : o.guard = none) (s x : Operand) (t : TypeId)
    (ho : o.op = .call { callee := .builtin .append, args := #[s, x], argTypes := #[t, t] })
    (base : Nat) (e : TypeId) (i : TypeInfo) (z : Value) (size bytes : Nat) (ht : P.underlying t = some (.slice e)) (hi : P.info? e = some i) (hz : i.zero = some z)
    (hsize : i.size = size) (hby : i.bytes = bytes) (hzs : z.cells.size = size) (hsz : 0 < size)
    (v : Value) (n : Nat) (xs : List Value) (hs : a.eval s = v) (hown : w.ownsRow base e size v n xs)
    (ad : Addr) (m c : Nat) (news : List Value) (hx : a.eval x = .slice (some ad) m c) (hl : news.length = m * size) (hnews : ∀ j u, news[j]? = some u → w.cell? (ad.add j) = some u) (h1 : ∀ u ∈ news, u.oneCell' = true)
    (hm : 0 < m) (h63 : n + m ≤ maxLen) (hbytes : (n + m) * bytes ≤ 140737488355328) (hbase : base ≤ w.heap.size)
    (h : ∀ v' w', w'.ownsRow base e size v' (n + m) (xs ++ news) → AppPost w w' v v' → wpList P ops Q rest (a.put o.dst v') w') : wpList P ops Q (o :: rest) a w := by
  rcases hown.2 with ⟨rfl, rfl⟩ | ⟨g, cap, cur, rfl, hb, hg, hnc, hcm, hcs, htake⟩
  · have hx0 : xs = [] := List.eq_nil_of_length_eq_zero (by simpa using hown.1)
    subst hx0
    refine wpList_append_grows w hgd s x t ho e i z size bytes ht hi hz hsize hby hzs hsz none 0 0 [] hs (fun _ => ⟨rfl, rfl⟩) (by simp) (fun b hb => by cases hb) ad m c news hx hl hnews h1 (by omega) h63 hbytes ?_
    intro v' w' ho' hg'
    obtain ⟨g, hg1, hg2⟩ := ownsRow_block ho' (by omega)
    exact h v' w' (ownsRow_mono ho' hbase) (Or.inr ⟨g, hg1, hg2, hg'⟩)
  · by_cases hroom : n + m ≤ cap
    · refine wpList_append_fits w hgd s x t ho base e i size ht hi hsize g n cap xs hs hown ad m c news hx hl hnews h1 hroom ?_
      intro w' ho' hg'
      exact h _ w' ho' (Or.inl ⟨g, rfl, rfl, hg'⟩)
    · refine wpList_append_grows w hgd s x t ho e i z size bytes ht hi hz hsize hby hzs hsz (some ⟨g, 0, none⟩) n cap xs hs (fun h => by cases h) hown.1 (fun b hb => by cases hb; exact hown.cells (g := g) rfl) ad m c news hx hl hnews h1 (by omega) h63 hbytes ?_
      intro v' w' ho' hg'
      obtain ⟨g', hg1, hg2⟩ := ownsRow_block ho' (by omega)
      exact h v' w' (ownsRow_mono ho' hbase) (Or.inr ⟨g', hg1, hg2, hg'⟩)

/-! ### What the script's world holds -/
def holdCells : List (Value × Int) → List Value
  | [] => []
  | x :: l => x.1 :: .int .i32 x.2 :: holdCells l

theorem holdCells_append (l m : List (Value × Int)) : holdCells (l ++ m) = holdCells l ++ holdCells m := by
  induction l with
  | nil => rfl
  | cons e l ih => simp [holdCells, ih]

theorem holdCells_length (l : List (Value × Int)) : (holdCells l).length = l.length * 2 := by
  induction l with
  | nil => rfl
  | cons e l ih => simp [holdCells, ih]; omega

theorem holdCells_at (l : List (Value × Int)) (i : Nat) (h : i < l.length) : (holdCells l)[i * 2]? = some l[i].1 ∧ (holdCells l)[i * 2 + 1]? = some (.int .i32 l[i].2) := by
  induction l generalizing i with
  | nil => simp at h
  | cons e l ih =>
    cases i with
    | zero => simp [holdCells]
    | succ i =>
      have := ih i (by simpa using h)
      simp only [holdCells, List.getElem_cons_succ]
      rw [show (i + 1) * 2 = i * 2 + 2 by omega, show i * 2 + 2 + 1 = (i * 2 + 1) + 2 by omega]
      simpa using this

structure HoldOk (w : World) (B wb : Nat) (hv : Value) (x : Value × Int) : Prop where
  marks : ∃ n, n ≤ 4194304 ∧ SlEv w x.1 (List.replicate n (mkEv x.2))
  lt : ∀ g, x.1.ownBlock = some g → B ≤ g ∧ g < w.heap.size
  far : x.1.ownBlock ≠ some wb
  apart : ∀ g, x.1.ownBlock = some g → hv.ownBlock ≠ some g
  m0 : 0 ≤ x.2
  m1 : x.2 ≤ 1073741824

theorem EvAt.of_heap {w w' : World} {b o : Nat} {e : Ev} (h : EvAt w b o e) (hh : w'.heap[b]? = w.heap[b]?) : EvAt w' b o e :=
  ⟨by rw [World.cell?_of_block (a := ⟨b, _, none⟩) hh]; exact h.c0, by rw [World.cell?_of_block (a := ⟨b, _, none⟩) hh]; exact h.c1, by rw [World.cell?_of_block (a := ⟨b, _, none⟩) hh]; exact h.c2,
   by rw [World.cell?_of_block (a := ⟨b, _, none⟩) hh]; exact h.c3, by rw [World.cell?_of_block (a := ⟨b, _, none⟩) hh]; exact h.c4⟩

theorem SlEv.of_heap {w w' : World} {v : Value} {es : List Ev} (h : SlEv w v es) (hsz : w.heap.size ≤ w'.heap.size) (hh : ∀ g, v.ownBlock = some g → g < w.heap.size → w'.heap[g]? = w.heap[g]?) : SlEv w' v es := by
  rcases h with h | ⟨b, off, cap, rfl, h2, h3⟩
  · exact Or.inl h
  · exact Or.inr ⟨b, off, cap, rfl, Nat.lt_of_lt_of_le h2 hsz, fun i hi => (h3 i hi).of_heap (hh b rfl h2)⟩

theorem HoldOk.stay {w w' : World} {B wb : Nat} {hv : Value} {x : Value × Int} (h : HoldOk w B wb hv x) (hsz : w.heap.size ≤ w'.heap.size) (hh : ∀ g, x.1.ownBlock = some g → w'.heap[g]? = w.heap[g]?) : HoldOk w' B wb hv x := by
  obtain ⟨n, hnb, hn⟩ := h.marks
  exact ⟨⟨n, hnb, hn.of_heap hsz fun g hg _ => hh g hg⟩, fun g hg => ⟨(h.lt g hg).1, Nat.lt_of_lt_of_le (h.lt g hg).2 hsz⟩, h.far, h.apart, h.m0, h.m1⟩

theorem ownsRow_of_heap {w w' : World} {b : Nat} {e : TypeId} {size : Nat} {v : Value} {n : Nat} {xs : List Value} (h : w.ownsRow b e size v n xs) (hh : ∀ g, v.ownBlock = some g → w'.heap[g]? = w.heap[g]?) : w'.ownsRow b e size v n xs := by
  refine ⟨h.1, ?_⟩
  rcases h.2 with h2 | ⟨g, cap, cur, rfl, h2, h3, h4⟩
  · exact Or.inl h2
  · exact Or.inr ⟨g, cap, cur, rfl, h2, by rw [hh g rfl]; exact h3, h4⟩

/-- The list that is being kept. -/
structure LInv (w : World) (B wb mb : Nat) (hv : Value) (hs : List (Value × Int)) (lv : Value) (N : Nat) (mark : Int) : Prop where
  own : Own w B lv (List.replicate N (mkEv mark))
  far : lv.ownBlock ≠ some wb
  farm : lv.ownBlock ≠ some mb
  apart : ∀ g, lv.ownBlock = some g → hv.ownBlock ≠ some g
  farh : hv.ownBlock ≠ some mb
  wbm : wb ≠ mb
  mlt : mb < w.heap.size
  mcell : EvAt w mb 0 (mkEv mark)
  same : ∀ x ∈ hs, ∀ g, x.1.ownBlock = some g → lv.ownBlock = some g → ∃ n c, x.1 = .slice (some ⟨g, 0, none⟩) n c ∧ n ≤ N ∧ x.2 = mark

theorem LInv.below {w w' : World} {B wb mb : Nat} {hv : Value} {hs : List (Value × Int)} {lv : Value} {N : Nat} {mark : Int} (h : LInv w B wb mb hv hs lv N mark) (hb : Below w.heap.size w w') : LInv w' B wb mb hv hs lv N mark :=
  ⟨h.own.below hb, h.far, h.farm, h.apart, h.farh, h.wbm, Nat.lt_of_lt_of_le h.mlt hb.size, h.mcell.of_heap (hb.block mb h.mlt), h.same⟩

theorem replicate_prefix {w : World} {g : Nat} {n N : Nat} {e : Ev} (h : EvsAt w g 0 (List.replicate N e)) (hn : n ≤ N) : EvsAt w g 0 (List.replicate n e) := by
  intro i hi
  have := h i (by simp at hi ⊢; omega)
  simpa using this

end Go.Proofs.Ytfdalbmopaemgab

namespace Go.Proofs.Ytfdalbmopaemgab
open Go.RowKit

theorem below_app {w0 w w' : World} {B : Nat} {v v' : Value} (hb : Below B w0 w) (ha : AppPost w w' v v') (hv : ∀ g, v.ownBlock = some g → B ≤ g) (hB : B ≤ w.heap.size) : Below B w0 w' := by
  rcases ha with ⟨g, e1, _, hg⟩ | ⟨g, _, _, hg⟩
  · exact hb.trans (below_grownBy hg (hv g e1) hB)
  · exact hb.trans ⟨hg.os, hg.tape, hg.output, hg.size, fun k hk => hg.block k (Nat.lt_of_lt_of_le hk hB) (by intro e; cases e)⟩

theorem hold_new (w1 : World) (T : TypeId) (lv : Value) (m : Int) : ∀ j u, ([lv, .int .i32 m] : List Value)[j]? = some u → (w1.alloc (.cells #[lv, .int .i32 m] T)).cell? ((⟨w1.heap.size, 0, none⟩ : Addr).add j) = some u := by
  intro j u hj
  rw [addp]
  have hlt : j < 2 := by
    have := (List.getElem?_eq_some_iff.1 hj).1
    simpa using this
  have hc : j = 0 ∨ j = 1 := by omega
  rcases hc with rfl | rfl <;> simp at hj <;> subst hj <;> simp [go_sem]

theorem evC_new1 (w1 : World) (T : TypeId) (ev : Ev) : ∀ j u, (evC ev)[j]? = some u → (w1.alloc (.cells #[.int .u8 ev.k, .int .u8 ev.t, .int .u8 ev.a, .int .i32 ev.v, .int .i32 ev.s] T)).cell? ((⟨w1.heap.size, 0, none⟩ : Addr).add j) = some u := by
  intro j u hj
  rw [addp]
  have hlt : j < 5 := by
    have := (List.getElem?_eq_some_iff.1 hj).1
    simpa [evC] using this
  have hc : j = 0 ∨ j = 1 ∨ j = 2 ∨ j = 3 ∨ j = 4 := by omega
  rcases hc with rfl | rfl | rfl | rfl | rfl <;> simp [evC] at hj <;> subst hj <;> simp [go_sem]

theorem own_one_cell {w : World} {B : Nat} {v : Value} {es : List Ev} (h : Own w B v es) : v.oneCell' = true := by
  obtain ⟨a, c, rfl⟩ := h.form
  rfl

theorem hold_cells_one (lv : Value) (m : Int) (h : lv.oneCell' = true) : ∀ u ∈ ([lv, .int .i32 m] : List Value), u.oneCell' = true := by
  intro u hu
  simp at hu
  rcases hu with rfl | rfl
  · exact h
  · rfl

theorem ownsRow_form {w : World} {b : Nat} {e : TypeId} {size : Nat} {v : Value} {n : Nat} {xs : List Value} (h : w.ownsRow b e size v n xs) : ∃ a c, v = .slice a n c := by
  rcases h.2 with ⟨rfl, h0⟩ | ⟨g, cap, cur, rfl, _⟩
  · exact ⟨none, 0, by rw [h0]⟩
  · exact ⟨_, cap, rfl⟩

/-! ### looks -/
end Go.Proofs.Ytfdalbmopaemgab

namespace Go.Proofs.Ytfdalbmopaemgab
open Go.RowKit

/-- A step of a script: its seven parts. -/
structure OpD where
  k : Int
  n : Int
  t : Int
  x : Int
  v : Int
  hv : Value
  s : ByteArray

abbrev opV (o : OpD) : Value := .agg #[.int .i64 o.k, .int .i64 o.n, .int .u8 o.t, .int .u8 o.x, .int .i32 o.v, o.hv, .string o.s]
/-- What is known of a step: its list of events, and that nothing in it is too great. -/
structure OpOk (w : World) (B : Nat) (o : OpD) (es : List Ev) : Prop where
  sl : SlEv w o.hv es
  ok : ∀ e ∈ es, e.Ok
  len : es.length ≤ 1048576
  str : o.s.size ≤ 1048576
  lt : es ≠ [] → ∀ g, o.hv.ownBlock = some g → g < B
  k0 : -9223372036854775808 ≤ o.k
  k1 : o.k ≤ 9223372036854775807
  cap : ∀ a n c, o.hv = .slice a n c → n ≤ c

theorem OpOk.stay {w w' : World} {B : Nat} {o : OpD} {es : List Ev} (h : OpOk w B o es) (hb : Below B w w') : OpOk w' B o es := by
  refine ⟨?_, h.ok, h.len, h.str, h.lt, h.k0, h.k1, h.cap⟩
  by_cases he : es = []
  · subst he
    rcases h.sl with h1 | ⟨b, off, c, h1, _, _⟩
    · exact Or.inl h1
    · exact Or.inl ⟨rfl, _, c, h1⟩
  · exact h.sl.of_heap hb.size fun g hg _ => hb.block g (h.lt he g hg)

theorem slice_form {w : World} {v : Value} {es : List Ev} (h : SlEv w v es) : ∃ a c, v = .slice a es.length c := by
  rcases h with ⟨rfl, a, c, rfl⟩ | ⟨b, off, c, rfl, _, _⟩
  · exact ⟨a, c, rfl⟩
  · exact ⟨_, c, rfl⟩

theorem bcell7 {W w1 : World} {b : Nat} {B : Nat} {c0 c1 c2 c3 c4 c5 c6 : Value} {T : TypeId} (hb : Below B (W.alloc (.cells #[c0, c1, c2, c3, c4, c5, c6] T)) w1) (hB : W.heap.size < B) (e : b = W.heap.size) : w1.cell? ⟨b, 0, none⟩ = some c0 ∧ w1.cell? ⟨b, 5, none⟩ = some c5 ∧ w1.cell? ⟨b, 6, none⟩ = some c6 := by
  subst e
  refine ⟨?_, ?_, ?_⟩ <;> rw [bcells hb _ _ hB] <;> simp [go_sem]

end Go.Proofs.Ytfdalbmopaemgab

namespace Go.Proofs.Ytfdalbmopaemgab
open Go.RowKit

structure OpAt (w : World) (b o : Nat) (d : OpD) : Prop where
  c0 : w.cell? ⟨b, o, none⟩ = some (.int .i64 d.k)
  c1 : w.cell? ⟨b, o + 1, none⟩ = some (.int .i64 d.n)
  c2 : w.cell? ⟨b, o + 2, none⟩ = some (.int .u8 d.t)
  c3 : w.cell? ⟨b, o + 3, none⟩ = some (.int .u8 d.x)
  c4 : w.cell? ⟨b, o + 4, none⟩ = some (.int .i32 d.v)
  c5 : w.cell? ⟨b, o + 5, none⟩ = some d.hv
  c6 : w.cell? ⟨b, o + 6, none⟩ = some (.string d.s)

theorem OpAt.below {w w' : World} {B b o : Nat} {d : OpD} (h : OpAt w b o d) (hB : b < B) (hb : Below B w w') : OpAt w' b o d :=
  ⟨by rw [bcells hb _ _ hB]; exact h.c0, by rw [bcells hb _ _ hB]; exact h.c1, by rw [bcells hb _ _ hB]; exact h.c2, by rw [bcells hb _ _ hB]; exact h.c3, by rw [bcells hb _ _ hB]; exact h.c4,
   by rw [bcells hb _ _ hB]; exact h.c5, by rw [bcells hb _ _ hB]; exact h.c6⟩

/-- The slice value v holds the script ds. -/
def SlOp (w : World) (v : Value) (ds : List OpD) : Prop :=
  (ds = [] ∧ ∃ a c, v = .slice a 0 c) ∨ (∃ b off cap, v = .slice (some ⟨b, off, none⟩) ds.length cap ∧ b < w.heap.size ∧ ∀ (i : Nat) (h : i < ds.length), OpAt w b (off + i * 7) ds[i])

end Go.Proofs.Ytfdalbmopaemgab
