import Derived.Test.YtfdalbmopaemgaaGreatDoorZEvOpen
import Derived.Test.YtfdalbmopaemgaaGreatDoorZL6
import Derived.Test.YtfdalbmopaemgaaGreatDoorZU9
import Derived.Test.YtfdalbmopaemgaaGreatDoorCards
import Derived.Test.YtfdalbmopaemgaaGreatDoorTie
import Derived.Deep.DeepHandedRow
import Derived.Carry
namespace Go.Proofs.YtfdalbmopaemgaaGreatDoor
open Go.ChangeShapes Go.WideShapes Go.ChangeAt Go.WideMaps Go.WideElems Go.RowKit Go.Deep

/-! ### How much a reading holds -/
theorem bulk_pos {H : Type} (d : DataW H) : 1 ≤ Rows.uptoBulk d := by
  unfold Rows.uptoBulk
  split <;> omega

theorem bulk_mem {H : Type} {d : DataW H} {l : List (DataW H)} (h : d ∈ l) : Rows.uptoBulk d ≤ Rows.uptoBulkAll l := by
  induction l with
  | nil => cases h
  | cons y l ih =>
    rw [Rows.uptoBulkAll]
    rcases List.mem_cons.1 h with rfl | h
    · omega
    · have := ih h; omega

theorem bulk_len {H : Type} (l : List (DataW H)) : l.length ≤ Rows.uptoBulkAll l := by
  induction l with
  | nil => simp
  | cons y l ih =>
    rw [Rows.uptoBulkAll, List.length_cons]
    have := bulk_pos y
    omega

theorem bulk_agg {H : Type} (l : List (DataW H)) : Rows.uptoBulk (.agg l) = Rows.uptoBulkAll l + 1 := by rw [Rows.uptoBulk]
theorem bulk_slice {H : Type} (l m : List (DataW H)) : Rows.uptoBulk (.slice l m) = Rows.uptoBulkAll l + Rows.uptoBulkAll m + 1 := by rw [Rows.uptoBulk]
theorem bulk_string {H : Type} (l : List UInt8) : Rows.uptoBulk (DataW.lit (H := H) (.string l)) = l.length + 1 := by rw [Rows.uptoBulk]

/-- A list of events that came in, and how much it holds. -/
theorem evs_of_trod2 {H : Type} {enc : TypeId × Value → H} {w : World} {base : Nat} {held : Bool} {fuel : Nat} {v : Value} {x : DataW H × List MemPlace}
    (h : DataW.trod enc Tryz.prog w base (fun _ => true) held fuel 31 [v] = some x) : ∃ es : List Ev, SlEv w v es ∧ (∀ e ∈ es, e.Ok) ∧ es.length ≤ Rows.uptoBulk x.1 ∧ (∀ a n c, v = .slice a n c → n ≤ c) := by
  obtain ⟨es, h1, h2, _⟩ := evs_of_trod h
  refine ⟨es, h1, h2, ?_⟩
  rcases open_slice Tryz.underlying31 h with ⟨h0, rfl⟩ | ⟨a, len, cap, m, n, D, Pl, h0, q1, q2, q3, q4, rfl, _⟩
  · simp only [List.cons.injEq, and_true] at h0
    obtain ⟨a, c, hf⟩ := slice_form h1
    rw [h0] at hf
    simp only [Value.slice.injEq] at hf
    refine ⟨by omega, fun a' n' c' e => ?_⟩
    rw [h0] at e
    simp only [Value.slice.injEq] at e
    omega
  · simp only [List.cons.injEq, and_true] at h0
    obtain ⟨a', c, hf⟩ := slice_form h1
    rw [h0] at hf
    simp only [Value.slice.injEq] at hf
    have := bulk_len ((List.range len).map D)
    rw [bulk_slice]
    simp at this
    refine ⟨by omega, fun a'' n' c' e => ?_⟩
    rw [h0] at e
    simp only [Value.slice.injEq] at e
    simp only [if_true] at q4
    omega

set_option maxRecDepth 100000 in
/-- What reads as a step is one. -/
theorem op_of_trod {H : Type} {enc : TypeId × Value → H} {w : World} {base : Nat} {held : Bool} {fuel : Nat} {cs : List Value} {x : DataW H × List MemPlace}
    (h : DataW.trod enc Tryz.prog w base (fun _ => true) held fuel 33 cs = some x) (hb : Rows.uptoBulk x.1 ≤ 1048576) :
    ∃ (d : OpD) (es : List Ev), cs = [.int .i64 d.k, .int .i64 d.n, .int .u8 d.t, .int .u8 d.x, .int .i32 d.v, d.hv, .string d.s] ∧ OpOk w w.heap.size d es := by
  obtain ⟨xs, n, _, rfl, hl, hlen, hf⟩ := DataW.trod_struct Tryz.underlying33 h
  have c7 : Tryz.prog.cellsOf 33 = 7 := by kernel_rfl
  have ci : Tryz.prog.cellsOf 3 = 1 := by kernel_rfl
  have c1 : Tryz.prog.cellsOf 5 = 1 := by kernel_rfl
  have c2 : Tryz.prog.cellsOf 21 = 1 := by kernel_rfl
  have c3 : Tryz.prog.cellsOf 31 = 1 := by kernel_rfl
  have c4 : Tryz.prog.cellsOf 9 = 1 := by kernel_rfl
  rw [c7] at hl
  match cs, hl, xs, hlen, hf, hb with
  | [a0, a1, a2, a3, a4, a5, a6], _, [y0, y1, y2, y3, y4, y5, y6], _, hf, hb =>
    have f0 : DataW.trod enc Tryz.prog w base (fun _ => true) held n 3 [a0] = some y0 := by simpa [ci] using hf 0 _ rfl
    have f1 : DataW.trod enc Tryz.prog w base (fun _ => true) held n 3 [a1] = some y1 := by simpa [ci] using hf 1 _ rfl
    have f2 : DataW.trod enc Tryz.prog w base (fun _ => true) held n 5 [a2] = some y2 := by simpa [c1] using hf 2 _ rfl
    have f3 : DataW.trod enc Tryz.prog w base (fun _ => true) held n 5 [a3] = some y3 := by simpa [c1] using hf 3 _ rfl
    have f4 : DataW.trod enc Tryz.prog w base (fun _ => true) held n 21 [a4] = some y4 := by simpa [c2] using hf 4 _ rfl
    have f5 : DataW.trod enc Tryz.prog w base (fun _ => true) held n 31 [a5] = some y5 := by simpa [c3] using hf 5 _ rfl
    have f6 : DataW.trod enc Tryz.prog w base (fun _ => true) held n 9 [a6] = some y6 := by simpa [c4] using hf 6 _ rfl
    obtain ⟨k, e0, _, w0⟩ := DataW.trod_int Tryz.underlying3 f0
    obtain ⟨m, e1, _, _⟩ := DataW.trod_int Tryz.underlying3 f1
    obtain ⟨t, e2, _, _⟩ := DataW.trod_int Tryz.underlying5 f2
    obtain ⟨u, e3, _, _⟩ := DataW.trod_int Tryz.underlying5 f3
    obtain ⟨v, e4, _, _⟩ := DataW.trod_int Tryz.underlying21 f4
    obtain ⟨es, hs, hok, hle, hcap⟩ := evs_of_trod2 f5
    obtain ⟨s, e6, hy6, _⟩ := DataW.trod_string Tryz.underlying9 f6
    simp at e0 e1 e2 e3 e4 e6
    subst e0 e1 e2 e3 e4 e6
    have b0 := bounds_i64 w0
    rw [bulk_agg] at hb
    have hb5 := bulk_mem (d := y5.1) (l := [y0, y1, y2, y3, y4, y5, y6].map (·.1)) (by simp)
    have hb6 := bulk_mem (d := y6.1) (l := [y0, y1, y2, y3, y4, y5, y6].map (·.1)) (by simp)
    have hsz : s.size ≤ 1048576 := by
      have hb7 : Rows.uptoBulk y6.1 ≤ 1048576 := by omega
      rw [hy6] at hb7
      simp only [bulk_string] at hb7
      have h3 : s.data.toList.length = s.size := by simp
      omega
    refine ⟨⟨k, m, t, u, v, a5, s⟩, es, rfl, ⟨hs, hok, by omega, hsz, fun he g hg => ?_, b0.1, b0.2, hcap⟩⟩
    rcases hs with ⟨h0, _⟩ | ⟨b, off, c, h1, h2, _⟩
    · exact absurd h0 he
    · simp only at hg
      rw [h1] at hg
      simp [Value.ownBlock] at hg
      omega

theorem opAt_of_cells {w : World} {base : Nat} {a : Addr} {d : OpD} (h : w.cells? base a 7 = some [.int .i64 d.k, .int .i64 d.n, .int .u8 d.t, .int .u8 d.x, .int .i32 d.v, d.hv, .string d.s]) : ∃ b o, a = ⟨b, o, none⟩ ∧ OpAt w b o d := by
  have hc : ∀ i, i < 7 → w.cell? (a.add i) = ([.int .i64 d.k, .int .i64 d.n, .int .u8 d.t, .int .u8 d.x, .int .i32 d.v, d.hv, .string d.s] : List Value)[i]? := by
    intro i hi
    unfold World.cells? at h
    split at h
    · obtain ⟨u, hu, hw⟩ := Lib.mapM_at h i i (by simp [hi])
      rw [hu, hw]
    · cases h
  obtain ⟨b, o, spot⟩ := a
  have hspot : spot = none := by simpa [Addr.add] using World.cell?_spot (show w.cell? _ = some (.int .i64 d.k) from hc 0 (by omega))
  subst hspot
  refine ⟨b, o, rfl, ⟨?_, ?_, ?_, ?_, ?_, ?_, ?_⟩⟩
  · simpa [Addr.add] using hc 0 (by omega)
  · simpa [Addr.add] using hc 1 (by omega)
  · simpa [Addr.add] using hc 2 (by omega)
  · simpa [Addr.add] using hc 3 (by omega)
  · simpa [Addr.add] using hc 4 (by omega)
  · simpa [Addr.add] using hc 5 (by omega)
  · simpa [Addr.add] using hc 6 (by omega)

/-- A script that came in. -/
theorem script_of_trod {H : Type} {enc : TypeId × Value → H} {w : World} {base : Nat} {held : Bool} {fuel : Nat} {v : Value} {x : DataW H × List MemPlace}
    (h : DataW.trod enc Tryz.prog w base (fun _ => true) held fuel 22 [v] = some x) (hb : Rows.uptoBulk x.1 ≤ 1048576) :
    ∃ ds : List OpD, SlOp w v ds ∧ (∀ d ∈ ds, ∃ es, OpOk w w.heap.size d es) ∧ ds.length ≤ 1048576 := by
  rcases open_slice Tryz.underlying22 h with ⟨h0, _⟩ | ⟨a, len, cap, m, n, D, Pl, h0, _, hl, hm, hmm, rfl, hx⟩
  · simp only [List.cons.injEq, and_true] at h0
    exact ⟨[], Or.inl ⟨rfl, none, 0, h0⟩, fun e he => (by cases he), by simp⟩
  · simp only [List.cons.injEq, and_true] at h0
    simp only [if_true] at hmm
    have c7 : Tryz.prog.cellsOf 33 = 7 := by kernel_rfl
    rw [c7] at hx
    rw [bulk_slice] at hb
    have hlenb := bulk_len ((List.range len).map D)
    rw [List.length_map, List.length_range] at hlenb
    have hex : ∀ i, ∃ d : OpD, i < len → (w.cells? base (a.add (i * 7)) 7 = some [.int .i64 d.k, .int .i64 d.n, .int .u8 d.t, .int .u8 d.x, .int .i32 d.v, d.hv, .string d.s] ∧ ∃ es, OpOk w w.heap.size d es) := by
      intro i
      by_cases hi : i < len
      · obtain ⟨cs', h1, h2⟩ := hx i (by omega)
        have hbi := bulk_mem (d := D i) (l := (List.range len).map D) (List.mem_map.2 ⟨i, List.mem_range.2 hi, rfl⟩)
        obtain ⟨d, es, rfl, he⟩ := op_of_trod h2 (by simp only; omega)
        exact ⟨d, fun _ => ⟨h1, es, he⟩⟩
      · exact ⟨⟨0, 0, 0, 0, 0, .slice none 0 0, ByteArray.empty⟩, fun h => absurd h hi⟩
    obtain ⟨f, hf⟩ := Classical.axiomOfChoice hex
    have hlen : ((List.range len).map f).length = len := by simp
    refine ⟨(List.range len).map f, ?_, ?_, by rw [hlen]; omega⟩
    · by_cases hz : len = 0
      · subst hz
        exact Or.inl ⟨rfl, some a, cap, h0⟩
      · obtain ⟨b, o, hab, _⟩ := opAt_of_cells (hf 0 (by omega)).1
        have ha : a = ⟨b, o, none⟩ := by simpa [Addr.add] using hab
        subst ha
        refine Or.inr ⟨b, o, cap, by rw [hlen]; exact h0, ?_, fun i hi => ?_⟩
        · have := World.cells?_block (hf 0 (by omega)).1 (by omega)
          simpa [Addr.add] using this
        · rw [hlen] at hi
          obtain ⟨b', o', hab', hev⟩ := opAt_of_cells (hf i hi).1
          rw [Go.WideShapes.add_plain] at hab'
          simp only [Addr.mk.injEq] at hab'
          obtain ⟨rfl, rfl, _⟩ := hab'
          simpa using hev
    · intro e he
      simp only [List.mem_map, List.mem_range] at he
      obtain ⟨i, hi, rfl⟩ := he
      exact (hf i hi).2

end Go.Proofs.YtfdalbmopaemgaaGreatDoor

namespace Go.Proofs.YtfdalbmopaemgaaGreatDoor
open Go.ChangeShapes Go.WideShapes Go.ChangeAt Go.WideMaps Go.WideElems Go.RowKit Go.Deep

set_option maxRecDepth 100000 in
/-- What reads as a step is one. -/
theorem op_of_trod2 {H : Type} {enc : TypeId × Value → H} {w : World} {base : Nat} {held : Bool} {fuel : Nat} {cs : List Value} {x : DataW H × List MemPlace}
    (h : DataW.trod enc Tryz.prog w base (fun _ => true) held fuel 33 cs = some x) (hb : Rows.uptoBulk x.1 ≤ 1048576) :
    ∃ (d : OpD) (es : List Ev), cs = [.int .i64 d.k, .int .i64 d.n, .int .u8 d.t, .int .u8 d.x, .int .i32 d.v, d.hv, .string d.s] ∧ OpOk w w.heap.size d es ∧ OpB d := by
  obtain ⟨xs, n, _, rfl, hl, hlen, hf⟩ := DataW.trod_struct Tryz.underlying33 h
  have c7 : Tryz.prog.cellsOf 33 = 7 := by kernel_rfl
  have ci : Tryz.prog.cellsOf 3 = 1 := by kernel_rfl
  have c1 : Tryz.prog.cellsOf 5 = 1 := by kernel_rfl
  have c2 : Tryz.prog.cellsOf 21 = 1 := by kernel_rfl
  have c3 : Tryz.prog.cellsOf 31 = 1 := by kernel_rfl
  have c4 : Tryz.prog.cellsOf 9 = 1 := by kernel_rfl
  rw [c7] at hl
  match cs, hl, xs, hlen, hf, hb with
  | [a0, a1, a2, a3, a4, a5, a6], _, [y0, y1, y2, y3, y4, y5, y6], _, hf, hb =>
    have f0 : DataW.trod enc Tryz.prog w base (fun _ => true) held n 3 [a0] = some y0 := by simpa [ci] using hf 0 _ rfl
    have f1 : DataW.trod enc Tryz.prog w base (fun _ => true) held n 3 [a1] = some y1 := by simpa [ci] using hf 1 _ rfl
    have f2 : DataW.trod enc Tryz.prog w base (fun _ => true) held n 5 [a2] = some y2 := by simpa [c1] using hf 2 _ rfl
    have f3 : DataW.trod enc Tryz.prog w base (fun _ => true) held n 5 [a3] = some y3 := by simpa [c1] using hf 3 _ rfl
    have f4 : DataW.trod enc Tryz.prog w base (fun _ => true) held n 21 [a4] = some y4 := by simpa [c2] using hf 4 _ rfl
    have f5 : DataW.trod enc Tryz.prog w base (fun _ => true) held n 31 [a5] = some y5 := by simpa [c3] using hf 5 _ rfl
    have f6 : DataW.trod enc Tryz.prog w base (fun _ => true) held n 9 [a6] = some y6 := by simpa [c4] using hf 6 _ rfl
    obtain ⟨k, e0, _, w0⟩ := DataW.trod_int Tryz.underlying3 f0
    obtain ⟨m, e1, _, w1⟩ := DataW.trod_int Tryz.underlying3 f1
    obtain ⟨t, e2, _, w2⟩ := DataW.trod_int Tryz.underlying5 f2
    obtain ⟨u, e3, _, w3⟩ := DataW.trod_int Tryz.underlying5 f3
    obtain ⟨v, e4, _, w4⟩ := DataW.trod_int Tryz.underlying21 f4
    obtain ⟨es, hs, hok, hle, hcap⟩ := evs_of_trod2 f5
    obtain ⟨s, e6, hy6, _⟩ := DataW.trod_string Tryz.underlying9 f6
    simp at e0 e1 e2 e3 e4 e6
    subst e0 e1 e2 e3 e4 e6
    have b0 := bounds_i64 w0
    have b1 := bounds_i64 w1
    have b2 := bounds_u8 w2
    have b3 := bounds_u8 w3
    have b4 := bounds_i32 w4
    rw [bulk_agg] at hb
    have hb5 := bulk_mem (d := y5.1) (l := [y0, y1, y2, y3, y4, y5, y6].map (·.1)) (by simp)
    have hb6 := bulk_mem (d := y6.1) (l := [y0, y1, y2, y3, y4, y5, y6].map (·.1)) (by simp)
    have hsz : s.size ≤ 1048576 := by
      have hb7 : Rows.uptoBulk y6.1 ≤ 1048576 := by omega
      rw [hy6] at hb7
      simp only [bulk_string] at hb7
      have h3 : s.data.toList.length = s.size := by simp
      omega
    refine ⟨⟨k, m, t, u, v, a5, s⟩, es, rfl, ⟨hs, hok, by omega, hsz, fun he g hg => ?_, b0.1, b0.2, hcap⟩, ⟨by simp only; omega, by simp only; omega, b2.1, b2.2, b3.1, b3.2, b4.1, b4.2⟩⟩
    rcases hs with ⟨h0, _⟩ | ⟨b, off, c, h1, h2, _⟩
    · exact absurd h0 he
    · simp only at hg
      rw [h1] at hg
      simp [Value.ownBlock] at hg
      omega

/-- A script that came in. -/
theorem script_of_trod2 {H : Type} {enc : TypeId × Value → H} {w : World} {base : Nat} {held : Bool} {fuel : Nat} {v : Value} {x : DataW H × List MemPlace}
    (h : DataW.trod enc Tryz.prog w base (fun _ => true) held fuel 22 [v] = some x) (hb : Rows.uptoBulk x.1 ≤ 1048576) :
    ∃ ds : List OpD, SlOp w v ds ∧ (∀ d ∈ ds, (∃ es, OpOk w w.heap.size d es) ∧ OpB d) ∧ ds.length ≤ 1048576 := by
  rcases open_slice Tryz.underlying22 h with ⟨h0, _⟩ | ⟨a, len, cap, m, n, D, Pl, h0, _, hl, hm, hmm, rfl, hx⟩
  · simp only [List.cons.injEq, and_true] at h0
    exact ⟨[], Or.inl ⟨rfl, none, 0, h0⟩, fun e he => (by cases he), by simp⟩
  · simp only [List.cons.injEq, and_true] at h0
    simp only [if_true] at hmm
    have c7 : Tryz.prog.cellsOf 33 = 7 := by kernel_rfl
    rw [c7] at hx
    rw [bulk_slice] at hb
    have hlenb := bulk_len ((List.range len).map D)
    rw [List.length_map, List.length_range] at hlenb
    have hex : ∀ i, ∃ d : OpD, i < len → (w.cells? base (a.add (i * 7)) 7 = some [.int .i64 d.k, .int .i64 d.n, .int .u8 d.t, .int .u8 d.x, .int .i32 d.v, d.hv, .string d.s] ∧ (∃ es, OpOk w w.heap.size d es) ∧ OpB d) := by
      intro i
      by_cases hi : i < len
      · obtain ⟨cs', h1, h2⟩ := hx i (by omega)
        have hbi := bulk_mem (d := D i) (l := (List.range len).map D) (List.mem_map.2 ⟨i, List.mem_range.2 hi, rfl⟩)
        obtain ⟨d, es, rfl, he, hb2⟩ := op_of_trod2 h2 (by simp only; omega)
        exact ⟨d, fun _ => ⟨h1, ⟨es, he⟩, hb2⟩⟩
      · exact ⟨⟨0, 0, 0, 0, 0, .slice none 0 0, ByteArray.empty⟩, fun h => absurd h hi⟩
    obtain ⟨f, hf⟩ := Classical.axiomOfChoice hex
    have hlen : ((List.range len).map f).length = len := by simp
    refine ⟨(List.range len).map f, ?_, ?_, by rw [hlen]; omega⟩
    · by_cases hz : len = 0
      · subst hz
        exact Or.inl ⟨rfl, some a, cap, h0⟩
      · obtain ⟨b, o, hab, _⟩ := opAt_of_cells (hf 0 (by omega)).1
        have ha : a = ⟨b, o, none⟩ := by simpa [Addr.add] using hab
        subst ha
        refine Or.inr ⟨b, o, cap, by rw [hlen]; exact h0, ?_, fun i hi => ?_⟩
        · have := World.cells?_block (hf 0 (by omega)).1 (by omega)
          simpa [Addr.add] using this
        · rw [hlen] at hi
          obtain ⟨b', o', hab', hev⟩ := opAt_of_cells (hf i hi).1
          rw [Go.WideShapes.add_plain] at hab'
          simp only [Addr.mk.injEq] at hab'
          obtain ⟨rfl, rfl, _⟩ := hab'
          simpa using hev
    · intro e he
      simp only [List.mem_map, List.mem_range] at he
      obtain ⟨i, hi, rfl⟩ := he
      exact (hf i hi).2

end Go.Proofs.YtfdalbmopaemgaaGreatDoor

namespace Go.Proofs.YtfdalbmopaemgaaGreatDoor
open Go.ChangeShapes Go.WideShapes Go.ChangeAt Go.WideMaps Go.WideElems Go.RowKit

set_option maxRecDepth 100000 in
theorem asks_contract (H : Type) (enc : TypeId × Value → H) (W : World) (base : Nat) (args : Array Value) (ds gs : List (DataW H)) (before : List MemPlace)
    (hval : ∀ (j : Nat) t v, Tryz.f8.params[j]? = some t → args[j]? = some v → Value.okWide Tryz.prog W .any base t v)
    (hW : DataW.Whole enc Tryz.prog Tryz.f8.params.toList Rows.asksSpec.vars false W args.toList ds gs before) (hL : laidMetH Tryz.prog laid3 W) (hk : Rows.uptoSmall H (ds ++ gs) = true) :
    Calls Tryz.prog 8 args W fun e W' => ∃ v, e = .returned v ∧ Rows.asksSpec.post enc Tryz.prog Tryz.f8 false true false false W args v W' := by
  have hW' := hW
  obtain ⟨p, q, hA0, hV, rfl, hfz, hnd⟩ := hW
  have hA : DataW.TrodAll enc Tryz.prog W 0 (fun _ => true) true Tryz.f8.params.toList args.toList ds p := hA0
  rw [Tryz.params8] at hA hval
  obtain ⟨v0, vs0, d0, ds0, p0, q0, hargs, rfl, rfl, h0, r0⟩ := trodAll_cons hA
  obtain ⟨rfl, rfl, rfl⟩ := trodAll_nil r0
  obtain rfl : args = #[v0] := by cases args; simp_all
  obtain ⟨rfl, rfl⟩ := trodVars_none hV
  obtain ⟨fuel, hf⟩ := id h0
  obtain ⟨a0, len, cap, rfl⟩ := okWide_slice Tryz.underlying22 (hval 0 22 v0 rfl rfl)
  have hb : Rows.uptoBulk d0 ≤ 1048576 := by
    have h := of_decide_eq_true hk
    simp only [List.append_nil, Rows.uptoBulkAll] at h
    omega
  obtain ⟨ds, hs, hok, hm⟩ := script_of_trod2 (by simpa [Value.cells] using hf) hb
  have htab := tab_of_laid hL
  have hlt : ∀ x ∈ p0, x.block < W.heap.size := fun x hx => hW'.lt x (by simpa using hx)
  clear hA0 hL hf
  refine (asks_walk _ ds W hs hok hm htab).mono fun e W' ⟨he, hnx⟩ => ?_
  subst he
  refine ⟨_, rfl, _, _, _, [], p0 ++ [], [], hW', ?_, ?_, rfl, hnx.frame _, fun h => (by cases h)⟩
  · exact trodAll_cons_mk (shut_bool Tryz.underlying4 _) trodAll_mk0
  · exact trodAll_cons_mk (Below.trod (by kernel_rfl) (by kernel_rfl) (of_decide_eq_true (by kernel_rfl)) h0 hnx hlt) trodAll_mk0

theorem asks_reads (os : Os) {H : Type} (enc : TypeId × Value → H) : ∃ places, DataW.whole enc Tryz.prog ((World.doorLaid Tryz.prog 400 os).forCall (fun _ _ => 0) ⟨#[], #[.slice none 0 0], []⟩).memory Tryz.f8.params.toList Rows.asksSpec.vars false #[Value.slice none 0 0].toList 8 = some ([.nil], [], places) :=
  ⟨[], by kernel_rfl⟩

set_option maxRecDepth 100000 in
theorem asks_lifted (os : Os) (started : os.Started) (H : Type) (enc : TypeId × Value → H) (F : Stop.Interp) :
    ReturnsInHanded {} Tryz.checked os 8 .any ((Rows.OpenSpec.upto Rows.asksSpec).preRow enc Tryz.prog Tryz.f8 Rows.asksUptoRow.domain false Rows.asksUptoRow.laid) (((Rows.OpenSpec.upto Rows.asksSpec).at F).post enc Tryz.prog Tryz.f8 false true false false) := by
  obtain ⟨places, hx⟩ := asks_reads os enc
  refine returnsInHanded_of_row (C := Tryz.checked) (s := Rows.OpenSpec.upto Rows.asksSpec) own started (by kernel_rfl) Tryz.func8
    (witness_row_at (enc := enc) (C := Tryz.checked) false (World.doorLaid Tryz.prog 400 os) #[.slice none 0 0] rfl (by kernel_rfl) (by kernel_rfl) (by kernel_rfl)
      (OpenSpec.preRow_of_cond 8 hx (by kernel_rfl) (fun k hk => by cases hk; kernel_rfl) (by kernel_rfl) (door_met os _))) ?_
  intro W base args ds gs before hval hW _ hcond _ hL _ _
  exact asks_contract H enc W base args ds gs before hval hW hL (hcond _ rfl)

theorem asks_saidUpto : Rows.AsksUptoSaid :=
  OpenClaim.holds_of_cond 8 Tryz.f8 rfl rfl rfl rfl rfl rfl rfl ⟨rfl, rfl, rfl, rfl, rfl⟩ rfl rfl rfl rfl rfl (by kernel_rfl) Tryz.func8 (by kernel_rfl)
    (of_decide_eq_true (by kernel_rfl)) (by unfold Func.isWrapper; first | (rw [if_pos (by decide +kernel)]; kernel_rfl) | (rw [if_neg (by decide +kernel)]; exact ⟨rfl, rfl⟩))
    (fun os started H enc _ F => by rw [OpenClaim.pre_eq_preRow]; exact asks_lifted os started H enc F)

theorem asks_plain (f : FuncId) (fn : Func) (hf : Tryz.pinned.checked.prog.funcNamed Rows.asksUptoRow.func = some f) (hfn : Tryz.pinned.checked.prog.funcs[f]? = some fn) :
    false = Tryz.pinned.checked.prog.looks [] ∧ ∀ (j : Nat) t, fn.params[j]? = some t → Tryz.pinned.checked.prog.wantsStandIn t = false := by
  obtain rfl : f = 8 := Option.some.inj ((show Tryz.prog.funcNamed Rows.asksUptoRow.func = some 8 by kernel_rfl).symm.trans hf) |>.symm
  obtain rfl : fn = Tryz.f8 := (Option.some.inj (Tryz.func8.symm.trans hfn)).symm
  refine ⟨by kernel_rfl, fun j t ht => ?_⟩
  rw [Tryz.params8] at ht
  obtain rfl : t = 22 := by simpa using Array.mem_of_getElem? ht
  exact (show Tryz.prog.wantsStandIn 22 = false by kernel_rfl)

theorem asks_card : Rows.AsksUptoCardSaid :=
  Claim7.holds_tied_plain_at .later [] _ _ _ _ asks_saidUpto (fun _ h => by cases h) (by kernel_rfl) (fun _ h => by cases h) asksUpto_row_tie rfl ⟨rfl, rfl⟩ (by kernel_rfl) rfl asks_plain (by kernel_rfl)

end Go.Proofs.YtfdalbmopaemgaaGreatDoor
