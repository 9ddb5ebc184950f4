import Derived.Test.YtfdalbmopaemgabGreatDoorZV10
import Derived.Test.YtfdalbmopaemgabGreatDoorZS8
import Derived.Deep.MidRow
import Derived.Test.YtfdalbmopaemgabGreatDoorZU8
import Derived.Test.YtfdalbmopaemgabGreatDoorZA5
import Derived.Test.YtfdalbmopaemgabGreatDoorRows
import Derived.Test.YtfdalbmopaemgabGreatDoorW1
import Derived.ProofKit
import Derived.LaidMore
import Derived.OpenShut
import Derived.Stop.Joined
import Derived.Lib.LaidTab
import Derived.Test.YtfdalbmopaemgabGreatDoorW7
import Derived.Deep.Slices
import Derived.Test.YtfdalbmopaemgabGreatDoorL6
import Derived.Test.YtfdalbmopaemgabGreatDoorZA1
import Derived.Test.YtfdalbmopaemgabGreatDoorCards
import Derived.Test.YtfdalbmopaemgabGreatDoorTie
import Derived.Deep.DeepHandedRow
import Derived.Carry
namespace Go.Proofs.YtfdalbmopaemgabGreatDoor
open Go.RowKit

def holdA (es : List Ev) (x : Int) : Nat × Nat × Int := if 4 ≤ x then (0, 0, 6) else ((holdersL es x).1, (holdersL es x).2, 0)

set_option maxRecDepth 100000 in
set_option maxHeartbeats 2000000 in
theorem sholders_any (b x : Nat) (es : List Ev) (w : World) (h : StC w b es) (hx : x ≤ 255) :
    Calls Tryz.prog 53 #[.pointer (some ⟨b, 0, none⟩), .int .u8 (x : Int)] w fun r w' => r = .returned (.tuple #[.int .u16 ((holdA es (x : Int)).1 : Int), .int .u16 ((holdA es (x : Int)).2.1 : Int), .int .i64 (holdA es (x : Int)).2.2]) ∧ ∃ n, w' = w.drewN n := by
  obtain ⟨T, W, O, q, h, hlen⟩ := h
  by_cases hx4 : 4 ≤ x
  · have e4 : (4 : Int) ≤ (x : Int) := by omega
    have HV : Hid (holdA es (x : Int) = (0, 0, 6)) := by show _ = _; unfold holdA; rw [if_pos e4]
    clear q h
    go_enter Tryz.func53, Tryz.ntmps53
    go_wp2_with fail
    go_ret3
    exact ⟨by rw [HV.out]; rfl, 0, rfl⟩
  · have e4 : ¬ (4 : Int) ≤ (x : Int) := by omega
    have e5 : (x : Int) < 4 := by omega
    have hob := h.ob x (by omega)
    have g0 := hob.rd
    have g1 := hob.wr
    rw [q.rd x (by omega)] at g0
    rw [q.wr x (by omega)] at g1
    have HV : Hid (holdA es (x : Int) = ((holdersL es (x : Int)).1, (holdersL es (x : Int)).2, 0)) := by show _ = _; unfold holdA; rw [if_neg e4]
    generalize (holdersL es (x : Int)).1 = a1 at g0 HV
    generalize (holdersL es (x : Int)).2 = a2 at g1 HV
    clear q h hob
    go_enter Tryz.func53, Tryz.ntmps53
    go_wp2_with fail
    go_region
    go_wp2_with fail
    go_ret3
    exact ⟨by rw [HV.out]; rfl, 1, rfl⟩

set_option maxRecDepth 100000 in
set_option maxHeartbeats 2000000 in
theorem svalues_any (b : Nat) (es : List Ev) (w : World) (h : StC w b es) :
    Calls Tryz.prog 55 #[.pointer (some ⟨b, 0, none⟩)] w fun r w' => r = .returned (valsV fun i => isL es 0 (i : Int)) ∧ Below w.heap.size w w' := by
  obtain ⟨T, W, O, q, h, hlen⟩ := h
  have HO : Hid (∀ x, x < 4 → w.cell? ⟨b, 33 + x * 18 + 2, none⟩ = some (.int .i32 (isL es 0 (x : Int)))) := fun x hx => by
    have := (h.ob x hx).own 0 (by omega)
    rw [q.own x hx 0 (Or.inl rfl)] at this
    exact this
  have hlt := h.tr.lt
  clear q h
  have hb0 : Below w.heap.size w (w.alloc (.cells #[.int .i32 0, .int .i32 0, .int .i32 0, .int .i32 0] 72)) := (Below.refl _ _).alloc (Nat.le_refl _) _
  have hb1 : Below (w.heap.size + 1) (w.alloc (.cells #[.int .i32 0, .int .i32 0, .int .i32 0, .int .i32 0] 72)) ((w.alloc (.cells #[.int .i32 0, .int .i32 0, .int .i32 0, .int .i32 0] 72)).alloc (.cells #[.int .i32 0, .int .i32 0, .int .i32 0, .int .i32 0] 72)) := (Below.refl _ _).alloc (by simp) _
  have hvr := (vat_new w 72).below (w' := (w.alloc (.cells #[.int .i32 0, .int .i32 0, .int .i32 0, .int .i32 0] 72)).alloc (.cells #[.int .i32 0, .int .i32 0, .int .i32 0, .int .i32 0] 72)) (by simpa using hb1)
  have hvv := vat_new (w.alloc (.cells #[.int .i32 0, .int .i32 0, .int .i32 0, .int .i32 0] 72)) 72
  rw [World.size_alloc] at hvv
  have HST : Hid (VAt ((w.alloc (.cells #[.int .i32 0, .int .i32 0, .int .i32 0, .int .i32 0] 72)).alloc (.cells #[.int .i32 0, .int .i32 0, .int .i32 0, .int .i32 0] 72)) (w.heap.size + 1) (valsK es 0)) := by
    have h7 : valsK es 0 = fun _ => 0 := by funext i; unfold valsK; rw [if_neg (by omega)]
    show VAt _ _ _
    rw [h7]
    exact hvv
  have HVR := hidIt hvr
  have HBB : Hid (Below w.heap.size w ((w.alloc (.cells #[.int .i32 0, .int .i32 0, .int .i32 0, .int .i32 0] 72)).alloc (.cells #[.int .i32 0, .int .i32 0, .int .i32 0, .int .i32 0] 72))) := hb0.trans (hb1.mono (by omega))
  clear hb0 hb1 hvr hvv
  go_enter Tryz.func55, Tryz.ntmps55
  go_wp2_with fail
  go_loopw [5] (fun i wr => ∃ k : Nat, k ≤ 4 ∧ i = .int .i64 k ∧ VAt wr (w.heap.size + 1) (valsK es k) ∧ VAt wr w.heap.size (fun _ => 0) ∧ Below w.heap.size w wr) (fun i _ => 4 - (intOf i).toNat)
  case atStart => exact ⟨0, by omega, rfl, HST.out, HVR.out, HBB.out⟩
  case round =>
    clear HST HVR HBB
    obtain ⟨k, hk, rfl, hva, hvr, hnx⟩ := hrel
    by_cases hlt4 : k < 4
    · have hlt' : (k : Int) < 4 := by omega
      have hk0 : (0 : Int) ≤ (k : Int) := by omega
      have g := HO.out k hlt4
      rw [← World.cell?_of_block (w' := wr) (a := ⟨b, 33 + k * 18 + 2, none⟩) (hnx.block b hlt)] at g
      have c1 := hva.cell k hlt4
      have f1 := hva.fz k
      have hset := hva.set k hlt4 (isL es 0 (k : Int))
      rw [valsK_succ] at hset
      have HSET := hidIt hset
      have HR1 : Hid (VAt (wr.setCell ⟨w.heap.size + 1, k, none⟩ (.int .i32 (isL es 0 (k : Int)))) w.heap.size fun _ => 0) := hvr.of_heap (Below.heap_setCell _ ⟨w.heap.size + 1, k, none⟩ _ _ (by simp)) (by simp)
      have HB1 : Hid (Below w.heap.size w (wr.setCell ⟨w.heap.size + 1, k, none⟩ (.int .i32 (isL es 0 (k : Int))))) := hnx.setCell (p := ⟨w.heap.size + 1, k, none⟩) (by simp) _
      clear hset hva hvr
      go_wp2_with fail
      go_roundw
      case rel => exact ⟨k + 1, by omega, by go_num, HSET.out, HR1.out, HB1.out⟩
      case measure => simp [intOf]; omega
    · have hge : ¬ (k : Int) < 4 := by omega
      have hk4 : k = 4 := by omega
      subst hk4
      have c0 := hva.cell 0 (by omega)
      have c1 := hva.cell 1 (by omega)
      have c2 := hva.cell 2 (by omega)
      have c3 := hva.cell 3 (by omega)
      have q0 := hvr.cell 0 (by omega)
      have q1 := hvr.cell 1 (by omega)
      have q2 := hvr.cell 2 (by omega)
      have q3 := hvr.cell 3 (by omega)
      have f0 := hvr.fz
      clear hva hvr
      go_wp2_with fail
      exact bodyPost_ret (v := valsV fun i => isL es 0 (i : Int)) (by simp [results, Tryz.results55, go_sem, q0, q1, q2, q3, valsK]) rfl ⟨rfl, set4_below hnx _ (Nat.le_refl _) _ _ _ _⟩

/-! ### New -/
def zF (o : Nat) : Value := if o < 17 then .int .u8 0 else if o < 33 then .bool false else if o < 105 then (if (o - 33) % 18 < 2 then .int .u16 0 else .int .i32 0) else if o < 405 then (if (o - 105) % 5 < 3 then .int .u8 0 else .int .i32 0) else .int .i64 0

def zeroC : Array Value := ((List.range 406).map zF).toArray

theorem zeroC_size : zeroC.size = 406 := by simp [zeroC]
theorem zeroC_ne : zeroC ≠ #[] := fun h => by have := zeroC_size; rw [h] at this; simp at this

theorem Tryz.zeroRun (w : World) : (zeroValue 60).run Tryz.prog w = .ok (.agg zeroC) w := by
  have h : (Tryz.prog.info? 60).map (·.zero) = some (some (.agg zeroC)) := by kernel_rfl
  cases hq : Tryz.prog.info? 60 with
  | none => rw [hq] at h; cases h
  | some i =>
    rw [hq] at h
    have hs : i.zero = some (.agg zeroC) := by simpa using h
    simp [zeroValue, Sem.run_bind, typeInfo, hq, hs]

theorem new_cell (w : World) (T : TypeId) (o : Nat) (ho : o < 406) : (w.alloc (.cells zeroC T)).cell? ⟨w.heap.size, o, none⟩ = some (zF o) := by
  have h : zeroC[o]? = some (zF o) := by
    unfold zeroC
    rw [List.getElem?_toArray, List.getElem?_map, List.getElem?_range ho]
    rfl
  rw [World.cell?_alloc_new]
  exact h

theorem new_st (w : World) (T : TypeId) : StAt (w.alloc (.cells zeroC T)) w.heap.size tr0 (fun _ => ⟨0, 0, fun _ => 0⟩) [] := by
  have hc := new_cell w T
  refine ⟨⟨?_, fun i hi => ?_, fun i hi => ?_, fun o => ?_, by simp⟩, fun x hx => ⟨?_, ?_, fun i hi => ?_⟩, fun i hi => ⟨?_, ?_, ?_, ?_, ?_⟩, ?_⟩
  · rw [hc _ (by omega)]; rfl
  · rw [hc _ (by omega)]; unfold zF; rw [if_pos (by omega)]; rfl
  · rw [hc _ (by omega)]; unfold zF; rw [if_neg (by omega), if_pos (by omega)]; rfl
  · exact World.frozen?_alloc_new _ _ _ _
  · rw [hc _ (by omega)]; unfold zF; rw [if_neg (by omega), if_neg (by omega), if_pos (by omega), if_pos (by omega)]; rfl
  · rw [hc _ (by omega)]; unfold zF; rw [if_neg (by omega), if_neg (by omega), if_pos (by omega), if_pos (by omega)]; rfl
  · rw [hc _ (by omega)]; unfold zF; rw [if_neg (by omega), if_neg (by omega), if_pos (by omega), if_neg (by omega)]
  · rw [hc _ (by omega)]; unfold zF; rw [if_neg (by omega), if_neg (by omega), if_neg (by omega), if_pos (by omega), if_pos (by omega)]; rfl
  · rw [hc _ (by omega)]; unfold zF; rw [if_neg (by omega), if_neg (by omega), if_neg (by omega), if_pos (by omega), if_pos (by omega)]; rfl
  · rw [hc _ (by omega)]; unfold zF; rw [if_neg (by omega), if_neg (by omega), if_neg (by omega), if_pos (by omega), if_pos (by omega)]; rfl
  · rw [hc _ (by omega)]; unfold zF; rw [if_neg (by omega), if_neg (by omega), if_neg (by omega), if_pos (by omega), if_neg (by omega)]; rfl
  · rw [hc _ (by omega)]; unfold zF; rw [if_neg (by omega), if_neg (by omega), if_neg (by omega), if_pos (by omega), if_neg (by omega)]; rfl
  · rw [hc _ (by omega)]; rfl

theorem new_is (w : World) (T : TypeId) : StC (w.alloc (.cells zeroC T)) w.heap.size [] ∧ Below w.heap.size w (w.alloc (.cells zeroC T)) := ⟨⟨_, _, _, QInv.start, new_st w T, by simp⟩, (Below.refl _ _).alloc (Nat.le_refl _) _⟩

set_option maxRecDepth 100000 in
set_option maxHeartbeats 2000000 in
theorem new_any (w : World) :
    Calls Tryz.prog 9 #[] w fun r w' => r = .returned (.pointer (some ⟨w.heap.size, 0, none⟩)) ∧ StC w' w.heap.size [] ∧ Below w.heap.size w w' := by
  have hz := Tryz.zeroRun
  have hne := zeroC_ne
  have hsz := zeroC_size
  go_enter Tryz.func9, Tryz.ntmps9
  go_wp2_with fail
  go_ret
  exact ⟨rfl, new_is w _⟩

/-! ### History -/
def ev60 (es : List Ev) : List Ev := (List.range 60).map (evF es)

theorem ev60_len (es : List Ev) : (ev60 es).length = 60 := by simp [ev60]
theorem ev60_at (es : List Ev) (k : Nat) (hk : k < 60) : (ev60 es)[k]'(by rw [ev60_len]; exact hk) = evF es k := by simp [ev60]

theorem StAt.range {w : World} {b : Nat} {T : Tr} {O : Nat → Ob} {es : List Ev} (h : StAt w b T O es) : w.rangeAt b 105 (evCells (ev60 es)) := by
  intro j v hv
  have hj : j < 300 := by
    have := (List.getElem?_eq_some_iff.1 hv).1
    rw [evCells_length, ev60_len] at this
    omega
  obtain ⟨i, f, hi, hf, rfl⟩ : ∃ i f, i < 60 ∧ f < 5 ∧ j = i * 5 + f := ⟨j / 5, j % 5, by omega, by omega, by omega⟩
  rw [evCells_at _ i (by rw [ev60_len]; exact hi) f hf, ev60_at es i hi] at hv
  have he := h.ev i hi
  rw [← Nat.add_assoc]
  have : f = 0 ∨ f = 1 ∨ f = 2 ∨ f = 3 ∨ f = 4 := by omega
  rcases this with rfl | rfl | rfl | rfl | rfl
  · rw [← hv]; exact he.c0
  · rw [← hv]; exact he.c1
  · rw [← hv]; exact he.c2
  · rw [← hv]; exact he.c3
  · rw [← hv]; exact he.c4

theorem Tryz.idxEv (w : World) (es : List Ev) (k : Nat) (hk : k < 60) : (Instr.index 56 (.agg (evCells (ev60 es)).toArray) (.int .i64 (k : Int))).run Tryz.prog w = .ok (evV (evF es k)) w := by
  have hu := Tryz.underlying56
  have hx : ∀ f, f < 5 → (evCells (ev60 es)).toArray[k * 5 + f]? = (evC (evF es k))[f]? := fun f hf => by
    rw [List.getElem?_toArray, evCells_at _ k (by rw [ev60_len]; exact hk) f hf, ev60_at es k hk]
  have hsz : (evCells (ev60 es)).toArray.size = 300 := by simp [evCells_length, ev60_len]
  have hex : (evCells (ev60 es)).toArray.extract (k * 5) (k * 5 + 5) = #[.int .u8 (evF es k).k, .int .u8 (evF es k).t, .int .u8 (evF es k).a, .int .i32 (evF es k).v, .int .i32 (evF es k).s] := by
    apply Array.ext_getElem?
    intro f
    rw [Array.getElem?_extract]
    by_cases hf : f < 5
    · rw [if_pos (by omega), hx f hf]
      simp [evC]
    · rw [if_neg (by omega), Array.getElem?_eq_none (by simp; omega)]
  unfold Instr.index
  simp only [Sem.run_bind, asIntOf, Sem.run_pure, Result.andThen_ok, run_underlying hu]
  rw [if_pos ⟨by omega, by omega⟩]
  generalize (evCells (ev60 es)).toArray = A at hex ⊢
  simp [part, go_sem, Tryz.isAgg45, Tryz.sizeOf45, hex]

set_option maxRecDepth 100000 in
set_option maxHeartbeats 2000000 in
theorem shistory_any (b : Nat) (es : List Ev) (w : World) (h : StC w b es) :
    Calls Tryz.prog 57 #[.pointer (some ⟨b, 0, none⟩)] w fun r w' => ∃ v, r = .returned v ∧ Own w' w.heap.size v es ∧ Below w.heap.size w w' := by
  obtain ⟨T, W, O, q, h, hlen⟩ := h
  have hlt := h.tr.lt
  have g := h.n
  obtain ⟨i0, hi, hz0, hz1, hz2⟩ := info_parts Tryz.infoEv
  have HI := hidIt hi
  have HZ0 := hidIt hz0
  have HZ1 := hidIt hz1
  have HZ2 := hidIt hz2
  clear hi hz0 hz1 hz2
  have HRG := hidIt h.range
  have HIX : Hid (∀ w (k : Nat), k < 60 → (Instr.index 56 (.agg (evCells (ev60 es)).toArray) (.int .i64 (k : Int))).run Tryz.prog w = .ok (evV (evF es k)) w) := fun w k hk => Tryz.idxEv w es k hk
  have HSZ : Hid ((Tryz.prog.info? 56).map (·.size) = some (evCells (ev60 es)).length) := by show _ = _; rw [evCells_length, ev60_len]; kernel_rfl
  generalize evCells (ev60 es) = CS at HRG HIX HSZ
  clear q h
  go_enter Tryz.func57, Tryz.ntmps57
  go_wp2_with fail
  refine wp_load_mid (P := Tryz.prog) 56 (Operand.tmp 8) rfl b 105 rfl CS _ HRG.out Tryz.underlying56 rfl HSZ.out ?_
  generalize CS.toArray = A at HIX ⊢
  go_wp2_with fail
  go_loopw [3, 10] (fun v i wr => ∃ k : Nat, k ≤ 60 ∧ i = .int .i64 k ∧ Own wr w.heap.size v (es.take k) ∧ Below w.heap.size w wr) (fun _ i _ => 60 - (intOf i).toNat)
  case atStart => exact ⟨0, by omega, rfl, Own.nil _ _, Below.refl _ _⟩
  case round =>
    obtain ⟨k, hk, rfl, hown, hnx⟩ := hrel
    have hszr := hnx.size
    by_cases hlt6 : k < 60
    · have hlt' : (k : Int) < 60 := by omega
      have hk0 : (0 : Int) ≤ (k : Int) := by omega
      have hix : ∀ w, (Instr.index 56 (.agg A) (.int .i64 (k : Int))).run Tryz.prog w = .ok (evV (evF es k)) w := fun w => HIX.out w k hlt6
      have gr : wr.cell? ⟨b, 405, none⟩ = some (.int .i64 (es.length : Int)) := by rw [World.cell?_of_block (a := ⟨b, 405, none⟩) (hnx.block b hlt)]; exact g
      have hbr : b < wr.heap.size := by omega
      obtain ⟨ev, hev⟩ : ∃ ev, evF es k = ev := ⟨_, rfl⟩
      rw [hev] at hix
      have HEV := hidIt hev
      clear hev
      by_cases hkl : k < es.length
      · have hkl' : (k : Int) < (es.length : Int) := by omega
        have HEE : Hid (es[k] = ev) := by show _ = _; rw [← HEV.out]; unfold evF; rw [List.getD_eq_getElem?_getD, List.getElem?_eq_getElem hkl]; rfl
        have hlen : (es.take k).length = k := by simp; omega
        obtain ⟨a, cp, hv⟩ := hown.form
        rw [hlen] at hv
        subst hv
        have HL := hidIt hlen
        clear hlen
        have hown2 := hown
        unfold Own at hown2
        rw [HL.out] at hown2
        have HB1 : Hid (Below w.heap.size w ((wr.alloc (.cells #[.int .u8 ev.k, .int .u8 ev.t, .int .u8 ev.a, .int .i32 ev.v, .int .i32 ev.s] 45)).alloc (.cells #[.int .u8 ev.k, .int .u8 ev.t, .int .u8 ev.a, .int .i32 ev.v, .int .i32 ev.s] 45))) := (hnx.alloc (by omega) _).alloc (by simp; omega) _
        clear hown
        go_wp2_with (at_builtin; refine wpList_append_own _ rfl _ _ 31 rfl w.heap.size 45 i0 (.agg #[.int .u8 0, .int .u8 0, .int .u8 0, .int .i32 0, .int .i32 0]) 5 12 Tryz.underlying31 HI.out HZ0.out HZ1.out HZ2.out rfl (by decide) _ _ _ rfl (World.ownsRow.alloc (World.ownsRow.alloc hown2 _) _) ⟨wr.heap.size + 1, 0, none⟩ 1 1 (evC ev) rfl rfl ?c1 ?c2 ?c3 ?c4 ?c5 ?_)
        case c1 => exact evC_new wr _ _ ev
        case c2 => exact evC_one ev
        case c3 => unfold maxLen; omega
        case c4 => omega
        case c5 => simp; omega
        · intro v' w3 hown' hgrow _
          have hnx2 : Below w.heap.size w w3 := by
            refine Below.grown HB1.out hgrow (by simp; omega) (fun j hj => ?_)
            exact (World.ownsRow.lt hown2 j hj).1
          have hown3 : Own w3 w.heap.size v' (es.take (k + 1)) := by
            rw [List.take_succ_eq_append_getElem hkl, HEE.out]
            unfold Own
            rw [evCells_append, List.length_append, HL.out]
            simpa [evCells] using hown'
          clear hown' hgrow
          go_wp2
          go_roundw
          case rel => exact ⟨k + 1, by omega, by go_num, hown3, hnx2⟩
          case measure => simp [intOf]; omega
      · have hkl' : ¬ (k : Int) < (es.length : Int) := by omega
        have HN : Hid (es.take (k + 1) = es.take k) := by show _ = _; rw [List.take_of_length_le (by omega), List.take_of_length_le (by omega)]
        obtain ⟨a, cp, hv⟩ := hown.form
        subst hv
        have HB1 : Hid (Below w.heap.size w (wr.alloc (.cells #[.int .u8 ev.k, .int .u8 ev.t, .int .u8 ev.a, .int .i32 ev.v, .int .i32 ev.s] 45))) := hnx.alloc (by omega) _
        have HO1 : Hid (Own (wr.alloc (.cells #[.int .u8 ev.k, .int .u8 ev.t, .int .u8 ev.a, .int .i32 ev.v, .int .i32 ev.s] 45)) w.heap.size (.slice a (es.take k).length cp) (es.take k)) := hown.below ((Below.refl _ _).alloc (Nat.le_refl _) _)
        clear hown
        go_wp2_with fail
        go_roundw
        case rel => exact ⟨k + 1, by omega, by go_num, by rw [HN.out]; exact HO1.out, HB1.out⟩
        case measure => simp [intOf]; omega
    · have hge : ¬ (k : Int) < 60 := by omega
      rw [List.take_of_length_le (show es.length ≤ k by omega)] at hown
      obtain ⟨a, cp, hv⟩ := hown.form
      subst hv
      have HO1 := hidIt hown
      clear hown
      go_wp2_with fail
      go_ret
      exact ⟨_, rfl, HO1.out, hnx⟩

end Go.Proofs.YtfdalbmopaemgabGreatDoor

namespace Go.Proofs.YtfdalbmopaemgabGreatDoor
open Go.RowKit

/-! ### The store as the document's reader calls it -/
theorem StP.go {w w' w'' : World} {b : Nat} {es : List Ev} (h : FrB w w' b) (h' : StP w' b es w'') : StP w b es w'' := ⟨h'.1, h.trans h'.2⟩

set_option maxHeartbeats 1000000 in
theorem gbegin (b p : Nat) (es : List Ev) (w : World) (h : StC w b es) (hp : p ≤ 255) :
    Calls Tryz.prog 35 #[.pointer (some ⟨b, 0, none⟩), .int .u8 (p : Int)] w fun r w' => r = .returned (.tuple #[.int .u8 (beginR es (p : Int)).2.1, .int .i64 (beginR es (p : Int)).2.2]) ∧ StP w b (beginR es (p : Int)).1 w' := by
  have HC := hidIt (sbegin_any b p es w h hp)
  clear h
  generalize beginR es (p : Int) = x at HC ⊢
  go_enter Tryz.func35, Tryz.ntmps35
  go_wp2_with fail
  refine HC.out.mono ?_
  rintro r w1 ⟨rfl, hst⟩
  go_wp2_with fail
  go_ret2
  exact ⟨rfl, hst⟩

set_option maxHeartbeats 1000000 in
theorem gread (b t x : Nat) (es : List Ev) (w : World) (h : StC w b es) (ht : t ≤ 255) (hx : x ≤ 255) :
    Calls Tryz.prog 37 #[.pointer (some ⟨b, 0, none⟩), .int .u8 (t : Int), .int .u8 (x : Int)] w fun r w' => r = .returned (.tuple #[.int .i32 (accessR es 2 (t : Int) (x : Int) 0).2.1, .int .i64 (accessR es 2 (t : Int) (x : Int) 0).2.2]) ∧ StP w b (accessR es 2 (t : Int) (x : Int) 0).1 w' := by
  have HC := hidIt (sread_any b t x es w h ht hx)
  clear h
  generalize accessR es 2 (t : Int) (x : Int) 0 = y at HC ⊢
  go_enter Tryz.func37, Tryz.ntmps37
  go_wp2_with fail
  refine HC.out.mono ?_
  rintro r w1 ⟨rfl, hst⟩
  go_wp2_with fail
  go_ret2
  exact ⟨rfl, hst⟩

set_option maxHeartbeats 1000000 in
theorem gwrite (b t x : Nat) (v : Int) (es : List Ev) (w : World) (h : StC w b es) (ht : t ≤ 255) (hx : x ≤ 255) :
    Calls Tryz.prog 39 #[.pointer (some ⟨b, 0, none⟩), .int .u8 (t : Int), .int .u8 (x : Int), .int .i32 v] w fun r w' => r = .returned (.int .i64 (accessR es 3 (t : Int) (x : Int) v).2.2) ∧ StP w b (accessR es 3 (t : Int) (x : Int) v).1 w' := by
  have HC := hidIt (swrite_any b t x v es w h ht hx)
  clear h
  generalize accessR es 3 (t : Int) (x : Int) v = y at HC ⊢
  go_enter Tryz.func39, Tryz.ntmps39
  go_wp2_with fail
  refine HC.out.mono ?_
  rintro r w1 ⟨rfl, hst⟩
  go_wp2_with fail
  go_ret
  exact ⟨rfl, hst⟩

set_option maxHeartbeats 1000000 in
theorem gadd (b t x : Nat) (v : Int) (es : List Ev) (w : World) (h : StC w b es) (ht : t ≤ 255) (hx : x ≤ 255) :
    Calls Tryz.prog 40 #[.pointer (some ⟨b, 0, none⟩), .int .u8 (t : Int), .int .u8 (x : Int), .int .i32 v] w fun r w' => r = .returned (.tuple #[.int .i32 (accessR es 4 (t : Int) (x : Int) v).2.1, .int .i64 (accessR es 4 (t : Int) (x : Int) v).2.2]) ∧ StP w b (accessR es 4 (t : Int) (x : Int) v).1 w' := by
  have HC := hidIt (sadd_any b t x v es w h ht hx)
  clear h
  generalize accessR es 4 (t : Int) (x : Int) v = y at HC ⊢
  go_enter Tryz.func40, Tryz.ntmps40
  go_wp2_with fail
  refine HC.out.mono ?_
  rintro r w1 ⟨rfl, hst⟩
  go_wp2_with fail
  go_ret2
  exact ⟨rfl, hst⟩

set_option maxHeartbeats 1000000 in
theorem gcommit (b t : Nat) (es : List Ev) (w : World) (h : StC w b es) (ht : t ≤ 255) :
    Calls Tryz.prog 41 #[.pointer (some ⟨b, 0, none⟩), .int .u8 (t : Int)] w fun r w' => r = .returned (.int .i64 (endR es 5 (t : Int)).2) ∧ StP w b (endR es 5 (t : Int)).1 w' := by
  have HC := hidIt (scommit_any b t es w h ht)
  clear h
  generalize endR es 5 (t : Int) = y at HC ⊢
  go_enter Tryz.func41, Tryz.ntmps41
  go_wp2_with fail
  refine HC.out.mono ?_
  rintro r w1 ⟨rfl, hst⟩
  go_wp2_with fail
  go_ret
  exact ⟨rfl, hst⟩

set_option maxHeartbeats 1000000 in
theorem gabort (b t : Nat) (es : List Ev) (w : World) (h : StC w b es) (ht : t ≤ 255) :
    Calls Tryz.prog 43 #[.pointer (some ⟨b, 0, none⟩), .int .u8 (t : Int)] w fun r w' => r = .returned (.int .i64 (endR es 6 (t : Int)).2) ∧ StP w b (endR es 6 (t : Int)).1 w' := by
  have HC := hidIt (sabort_any b t es w h ht)
  clear h
  generalize endR es 6 (t : Int) = y at HC ⊢
  go_enter Tryz.func43, Tryz.ntmps43
  go_wp2_with fail
  refine HC.out.mono ?_
  rintro r w1 ⟨rfl, hst⟩
  go_wp2_with fail
  go_ret
  exact ⟨rfl, hst⟩

set_option maxHeartbeats 1000000 in
theorem gholders (b x : Nat) (es : List Ev) (w : World) (h : StC w b es) (hx : x ≤ 255) :
    Calls Tryz.prog 30 #[.pointer (some ⟨b, 0, none⟩), .int .u8 (x : Int)] w fun r w' => r = .returned (.tuple #[.int .u16 ((holdA es (x : Int)).1 : Int), .int .u16 ((holdA es (x : Int)).2.1 : Int), .int .i64 (holdA es (x : Int)).2.2]) ∧ ∃ n, w' = w.drewN n := by
  have HC := hidIt (sholders_any b x es w h hx)
  clear h
  generalize holdA es (x : Int) = y at HC ⊢
  go_enter Tryz.func30, Tryz.ntmps30
  go_wp2_with fail
  refine HC.out.mono ?_
  rintro r w1 ⟨rfl, hst⟩
  go_wp2_with fail
  go_ret3
  exact ⟨rfl, hst⟩

set_option maxHeartbeats 1000000 in
theorem gvalues (b : Nat) (es : List Ev) (w : World) (h : StC w b es) :
    Calls Tryz.prog 32 #[.pointer (some ⟨b, 0, none⟩)] w fun r w' => r = .returned (valsV fun i => isL es 0 (i : Int)) ∧ Below w.heap.size w w' := by
  have hb0 : Below w.heap.size w (w.alloc (.cells #[.int .i32 0, .int .i32 0, .int .i32 0, .int .i32 0] 72)) := (Below.refl _ _).alloc (Nat.le_refl _) _
  have HC := hidIt (svalues_any b es (w.alloc (.cells #[.int .i32 0, .int .i32 0, .int .i32 0, .int .i32 0] 72)) (h.of_heap (hb0.block b h.lt) hb0.size))
  have HV := hidIt (vat_new w 72)
  clear h
  go_enter Tryz.func32, Tryz.ntmps32
  go_wp2_with fail
  refine HC.out.mono ?_
  rintro r w1 ⟨rfl, hb1⟩
  have hvr := HV.out.below hb1
  have q0 := hvr.cell 0 (by omega)
  have q1 := hvr.cell 1 (by omega)
  have q2 := hvr.cell 2 (by omega)
  have q3 := hvr.cell 3 (by omega)
  have f0 := hvr.fz
  have HB : Hid (Below w.heap.size w w1) := hb0.trans (hb1.mono (by simp))
  clear hvr hb1
  go_wp2_with fail
  exact bodyPost_ret (v := valsV fun i => isL es 0 (i : Int)) (by simp [results, Tryz.results32, go_sem, q0, q1, q2, q3]) rfl ⟨rfl, set4_below HB.out _ (Nat.le_refl _) _ _ _ _⟩

set_option maxHeartbeats 1000000 in
theorem ghistory (b : Nat) (es : List Ev) (w : World) (h : StC w b es) :
    Calls Tryz.prog 34 #[.pointer (some ⟨b, 0, none⟩)] w fun r w' => ∃ v, r = .returned v ∧ Own w' w.heap.size v es ∧ Below w.heap.size w w' := by
  have HC := hidIt (shistory_any b es w h)
  clear h
  go_enter Tryz.func34, Tryz.ntmps34
  go_wp2_with fail
  refine HC.out.mono ?_
  rintro r w1 ⟨v, rfl, h1, h2⟩
  obtain ⟨a, c, rfl⟩ := h1.form
  go_wp2_with fail
  go_ret
  exact ⟨_, rfl, h1, h2⟩

end Go.Proofs.YtfdalbmopaemgabGreatDoor

namespace Go.Proofs.YtfdalbmopaemgabGreatDoor
open Go.RowKit

/-! ### The landed store does as is asked -/
def StX (w : World) (F : Nat → Prop) (p : Value) (es : List Ev) : Prop := ∃ b, p = .pointer (some ⟨b, 0, none⟩) ∧ (∀ k, F k ↔ k = b) ∧ StC w b es

theorem StX.act {w w' : World} {F : Nat → Prop} {b : Nat} {es' : List Ev} (hF : ∀ k, F k ↔ k = b) (h : StP w b es' w') : ActP StX w F (.pointer (some ⟨b, 0, none⟩)) es' w' :=
  ⟨F, ⟨b, rfl, hF, h.1⟩, fun k hk hf => h.2.rest k hk (fun e => hf ((hF k).2 e)), fun _ hk => Or.inl hk, h.2.below⟩

theorem StX.ok : StOk StX where
  form := fun ⟨b, hp, _, _⟩ => ⟨b, hp⟩
  frame := fun w' ⟨b, hp, hF, h⟩ hh hz => ⟨b, hp, hF, h.of_heap (hh b ((hF b).2 rfl)) hz⟩
  lt := fun ⟨_, _, hF, h⟩ k hk => by rw [(hF k).1 hk]; exact h.lt
  low := fun ⟨_, _, _, h⟩ => by obtain ⟨_, _, _, q, _, _⟩ := h; exact low15 q.r.s.jj
  len := fun ⟨_, _, _, h⟩ => by obtain ⟨_, _, _, _, _, h⟩ := h; exact h
  begin_ := fun up hu ⟨b, hp, hF, h⟩ => by subst hp; exact (gbegin b up _ _ h hu).mono fun r w' ⟨h1, h2⟩ => ⟨h1, StX.act hF h2⟩
  read := fun t x ht hx ⟨b, hp, hF, h⟩ => by subst hp; exact (gread b t x _ _ h ht hx).mono fun r w' ⟨h1, h2⟩ => ⟨h1, StX.act hF h2⟩
  write := fun t x v ht hx _ _ ⟨b, hp, hF, h⟩ => by subst hp; exact (gwrite b t x v _ _ h ht hx).mono fun r w' ⟨h1, h2⟩ => ⟨h1, StX.act hF h2⟩
  add := fun t x v ht hx _ _ ⟨b, hp, hF, h⟩ => by subst hp; exact (gadd b t x v _ _ h ht hx).mono fun r w' ⟨h1, h2⟩ => ⟨h1, StX.act hF h2⟩
  commit := fun t ht ⟨b, hp, hF, h⟩ => by subst hp; exact (gcommit b t _ _ h ht).mono fun r w' ⟨h1, h2⟩ => ⟨h1, StX.act hF h2⟩
  abort := fun t ht ⟨b, hp, hF, h⟩ => by subst hp; exact (gabort b t _ _ h ht).mono fun r w' ⟨h1, h2⟩ => ⟨h1, StX.act hF h2⟩

theorem StX.ask : StAsk StX where
  holders := fun {w} {F} {p} {es} x hx ⟨b, hp, hF, h⟩ => by
    subst hp
    refine (gholders b x es w h hx).mono fun r w' ⟨h1, n, h2⟩ => ⟨h1, ?_⟩
    subst h2
    exact StX.act hF ⟨h.drewN n, ⟨below_drewN (Below.refl _ _) n, fun _ _ _ => rfl⟩⟩
  values := fun {w} {F} {p} {es} ⟨b, hp, hF, h⟩ => by
    subst hp
    refine (gvalues b es w h).mono fun r w' ⟨h1, h2⟩ => ⟨h1, ?_⟩
    exact StX.act hF ⟨h.of_heap (h2.block b h.lt) h2.size, FrB.new b h2⟩

theorem StX.new : StNew StX := fun w => (new_any w).mono fun r w' ⟨h1, h2, h3⟩ =>
  ⟨w.heap.size, fun k => k = w.heap.size, h1, ⟨w.heap.size, rfl, fun _ => Iff.rfl, h2⟩, fun k hk => by rw [hk]; exact Nat.le_refl _, h3⟩

theorem StX.hist : StHist StX := fun w F p es ⟨b, hp, hF, h⟩ => by
  subst hp
  refine (ghistory b es w h).mono fun r w' ⟨v, h1, h2, h3⟩ => ⟨v, F, h1, h2, fun g hg hf => ?_, ⟨b, rfl, hF, h.of_heap (h3.block b h.lt) h3.size⟩, fun k hk _ => h3.block k hk, fun _ hk => Or.inl hk, h3.mono (Nat.zero_le _)⟩
  have h4 := (World.ownsRow.lt h2 g hg).1
  rw [(hF g).1 hf] at h4
  have := h.lt
  omega

end Go.Proofs.YtfdalbmopaemgabGreatDoor

namespace Go.Proofs.YtfdalbmopaemgabGreatDoor
open Go.RowKit

set_option maxHeartbeats 400000 in
theorem all_walk (v : Value) (ds : List OpD) (w : World) (hs : SlOp w v ds) (hok : ∀ d ∈ ds, (∃ es, OpOk w w.heap.size d es) ∧ OpB d) (hmax : ds.length ≤ 1048576) (ht : Tab w) :
    Calls Tryz.prog 3 #[v] w fun r w' => r = .returned (.bool true) ∧ Below w.heap.size w w' := by
  have HU : Hid (∀ w', Below w.heap.size w w' → Calls Tryz.prog 5 #[v, .int .i64 1, .int .i64 14] w' fun r w'' => r = .returned (.int .i64 (-1)) ∧ Below w.heap.size w w'') := fun w' hb =>
    (upTo_gall StX.ok 1 14 (by decide) (stepG_all StX.ok StX.ask StX.new StX.hist) v ds w' (hs.stay hb) (fun d hd => by obtain ⟨⟨es, h1⟩, h2⟩ := hok d hd; exact ⟨⟨es, (h1.stay hb).wide hb.size⟩, h2⟩) hmax (ht.below ht.2 hb)).mono fun r w'' ⟨h1, h2⟩ => ⟨h1, hb.trans (h2.mono hb.size)⟩
  obtain ⟨a, c, rfl⟩ := hs.form
  clear hs hok
  go_enter Tryz.func3, Tryz.ntmps3
  go_wp2_with fail
  refine (made_any StX.ok StX.new w).mono ?_
  rintro r w1 ⟨rfl, hb1⟩
  have HC := hidIt (HU.out w1 hb1)
  clear hb1
  go_wp2_with fail
  refine HC.out.mono ?_
  rintro r w2 ⟨rfl, hb2⟩
  go_wp2_with fail
  go_ret
  exact ⟨rfl, hb2⟩

end Go.Proofs.YtfdalbmopaemgabGreatDoor

namespace Go.Proofs.YtfdalbmopaemgabGreatDoor
open Go.ChangeShapes Go.WideShapes Go.ChangeAt Go.WideMaps Go.WideElems Go.RowKit

theorem own : ownKnob Tryz.prog.godebug = none := by kernel_rfl
theorem gPow : Tryz.prog.globalNamed "internal/strconv.uint64pow10" = some 0 := by kernel_rfl
theorem gB32 : Tryz.prog.globalNamed "math/bits.deBruijn32tab" = some 1 := by kernel_rfl
theorem gB64 : Tryz.prog.globalNamed "math/bits.deBruijn64tab" = some 2 := by kernel_rfl
theorem tPow : (Tryz.prog.globals[0]?).map (·.type) = some 162 := by kernel_rfl

/-- What the rows list. -/
def laid3 : List (String × DataW Unit) := [("math/bits.deBruijn32tab", Rows.laid_math_bits_deBruijn32tab), ("math/bits.deBruijn64tab", Rows.laid_math_bits_deBruijn64tab), ("internal/strconv.uint64pow10", Rows.laid_internal_strconv_uint64pow10)]

/-- The door's own heap meets the condition. -/
theorem door_met (os : Os) (args : Array Value) : laidMetH Tryz.prog laid3 ((World.doorLaid Tryz.prog 400 os).forCall (fun _ _ => 0) ⟨#[], args, []⟩).memory :=
  laidMetH_of_parts3 (fuel := 8) (laidMet_of_run' 8 (by kernel_rfl) (by kernel_rfl)) (by kernel_rfl) (by kernel_rfl)

theorem pow_data : (Rows.laid_internal_strconv_uint64pow10 : DataW Unit) = Lib.tabData .u64 Lib.pow10Tab := by kernel_rfl

theorem var_lt {P : Program} {W : World} {name : String} {g : Nat} {cs : Array Value} (hg : P.globalNamed name = some g) (h : W.var? P name = some cs) : g < W.heap.size := by
  unfold World.var? at h
  rw [hg, Option.bind_some] at h
  by_cases hlt : g < W.heap.size
  · exact hlt
  · rw [Array.getElem?_eq_none (by omega)] at h
    cases h

/-- What the condition gives the walks. -/
theorem tab_of_laid {W : World} (h : laidMetH Tryz.prog laid3 W) : Tab W := by
  rw [MakeChecks.laidMetH_plain _ _ _ (by kernel_rfl)] at h
  obtain ⟨ps, ⟨g0, t0, cs0, f0, p0, q0, hg0, ht0, hv0, hd0, ⟨g1, t1, cs1, f1, p1, q1, hg1, ht1, hv1, hd1, ⟨g2, t2, cs2, f2, p2, q2, hg2, ht2, hv2, hd2, _, _⟩, _⟩, _⟩, _, _⟩ := h
  have hlt := var_lt gB64 hv1
  obtain rfl := Option.some.inj (gPow.symm.trans hg2)
  obtain rfl := Option.some.inj (tPow.symm.trans ht2)
  refine ⟨?_, hlt⟩
  unfold Lib.TabIs
  rw [pow_data] at hd2
  rw [hv2, ← Lib.cells_of_tab Tryz.underlying162 Tryz.underlying155 (by kernel_rfl) (by kernel_rfl) hd2]

end Go.Proofs.YtfdalbmopaemgabGreatDoor

namespace Go.Proofs.YtfdalbmopaemgabGreatDoor
open Go.ChangeShapes Go.WideShapes Go.ChangeAt Go.WideMaps Go.WideElems Go.RowKit Go.Deep

set_option maxRecDepth 100000 in
/-- What reads as an event holds one. -/
theorem ev_of_trod {H : Type} {enc : TypeId × Value → H} {w : World} {base : Nat} {spare : Nat → Bool} {held : Bool} {fuel : Nat} {cs : List Value} {x : DataW H × List MemPlace}
    (h : DataW.trod enc Tryz.prog w base spare held fuel 45 cs = some x) : ∃ e : Ev, cs = evC e ∧ e.Ok := by
  obtain ⟨xs, n, _, _, hl, hlen, hf⟩ := DataW.trod_struct Tryz.underlying45 h
  have c5 : Tryz.prog.cellsOf 45 = 5 := by kernel_rfl
  have c1 : Tryz.prog.cellsOf 5 = 1 := by kernel_rfl
  have c2 : Tryz.prog.cellsOf 21 = 1 := by kernel_rfl
  rw [c5] at hl
  match cs, hl, xs, hlen, hf with
  | [a0, a1, a2, a3, a4], _, [y0, y1, y2, y3, y4], _, hf =>
    have f0 : DataW.trod enc Tryz.prog w base spare held n 5 [a0] = some y0 := by simpa [c1] using hf 0 _ rfl
    have f1 : DataW.trod enc Tryz.prog w base spare held n 5 [a1] = some y1 := by simpa [c1] using hf 1 _ rfl
    have f2 : DataW.trod enc Tryz.prog w base spare held n 5 [a2] = some y2 := by simpa [c1] using hf 2 _ rfl
    have f3 : DataW.trod enc Tryz.prog w base spare held n 21 [a3] = some y3 := by simpa [c2] using hf 3 _ rfl
    have f4 : DataW.trod enc Tryz.prog w base spare held n 21 [a4] = some y4 := by simpa [c2] using hf 4 _ rfl
    obtain ⟨k, e0, _, w0⟩ := DataW.trod_int Tryz.underlying5 f0
    obtain ⟨t, e1, _, w1⟩ := DataW.trod_int Tryz.underlying5 f1
    obtain ⟨a, e2, _, w2⟩ := DataW.trod_int Tryz.underlying5 f2
    obtain ⟨v, e3, _, w3⟩ := DataW.trod_int Tryz.underlying21 f3
    obtain ⟨s, e4, _, w4⟩ := DataW.trod_int Tryz.underlying21 f4
    simp at e0 e1 e2 e3 e4
    subst e0 e1 e2 e3 e4
    have b0 := bounds_u8 w0
    have b1 := bounds_u8 w1
    have b2 := bounds_u8 w2
    have b3 := bounds_i32 w3
    have b4 := bounds_i32 w4
    exact ⟨⟨k, t, a, v, s⟩, rfl, ⟨b0.1, b0.2, b1.1, b1.2, b2.1, b2.2, b3.1, b3.2, b4.1, b4.2⟩⟩

theorem evAt_of_cells {w : World} {base : Nat} {a : Addr} {e : Ev} (h : w.cells? base a 5 = some (evC e)) : ∃ b o, a = ⟨b, o, none⟩ ∧ EvAt w b o e := by
  have hc : ∀ i, i < 5 → w.cell? (a.add i) = (evC e)[i]? := by
    intro i hi
    unfold World.cells? at h
    split at h
    · obtain ⟨u, hu, hw⟩ := Lib.mapM_at h i i (by simp [hi])
      rw [hu, hw]
    · cases h
  obtain ⟨b, o, spot⟩ := a
  have hspot : spot = none := by simpa [Addr.add] using World.cell?_spot (show w.cell? _ = some (.int .u8 e.k) from hc 0 (by omega))
  subst hspot
  refine ⟨b, o, rfl, ⟨?_, ?_, ?_, ?_, ?_⟩⟩
  · simpa [Addr.add, evC] using hc 0 (by omega)
  · simpa [Addr.add, evC] using hc 1 (by omega)
  · simpa [Addr.add, evC] using hc 2 (by omega)
  · simpa [Addr.add, evC] using hc 3 (by omega)
  · simpa [Addr.add, evC] using hc 4 (by omega)

/-- A list of events that came in. -/
theorem evs_of_trod {H : Type} {enc : TypeId × Value → H} {w : World} {base : Nat} {held : Bool} {fuel : Nat} {v : Value} {x : DataW H × List MemPlace}
    (h : DataW.trod enc Tryz.prog w base (fun _ => true) held fuel 31 [v] = some x) : ∃ es : List Ev, SlEv w v es ∧ (∀ e ∈ es, e.Ok) ∧ es.length ≤ maxLen := by
  rcases open_slice Tryz.underlying31 h with ⟨h0, _⟩ | ⟨a, len, cap, m, n, D, Pl, h0, hb, hl, hm, hmm, _, hx⟩
  · simp only [List.cons.injEq, and_true] at h0
    exact ⟨[], Or.inl ⟨rfl, none, 0, h0⟩, fun e he => (by cases he), by simp [maxLen]⟩
  · simp only [List.cons.injEq, and_true] at h0
    simp only [if_true] at hmm
    have c5 : Tryz.prog.cellsOf 45 = 5 := by kernel_rfl
    rw [c5] at hx
    have hex : ∀ i, ∃ e : Ev, i < len → (w.cells? base (a.add (i * 5)) 5 = some (evC e) ∧ e.Ok) := by
      intro i
      by_cases hi : i < len
      · obtain ⟨cs', h1, h2⟩ := hx i (by omega)
        obtain ⟨e, rfl, he⟩ := ev_of_trod h2
        exact ⟨e, fun _ => ⟨h1, he⟩⟩
      · exact ⟨⟨0, 0, 0, 0, 0⟩, fun h => absurd h hi⟩
    obtain ⟨f, hf⟩ := Classical.axiomOfChoice hex
    have hlen : ((List.range len).map f).length = len := by simp
    refine ⟨(List.range len).map f, ?_, ?_, by rw [hlen]; omega⟩
    · by_cases hz : len = 0
      · subst hz
        exact Or.inl ⟨rfl, some a, cap, h0⟩
      · obtain ⟨b, o, hab, _⟩ := evAt_of_cells (hf 0 (by omega)).1
        have ha : a = ⟨b, o, none⟩ := by simpa [Addr.add] using hab
        subst ha
        refine Or.inr ⟨b, o, cap, by rw [hlen]; exact h0, ?_, fun i hi => ?_⟩
        · have := World.cells?_block (hf 0 (by omega)).1 (by omega)
          simpa [Addr.add] using this
        · rw [hlen] at hi
          obtain ⟨b', o', hab', hev⟩ := evAt_of_cells (hf i hi).1
          rw [Go.WideShapes.add_plain] at hab'
          simp only [Addr.mk.injEq] at hab'
          obtain ⟨rfl, rfl, _⟩ := hab'
          simpa using hev
    · intro e he
      simp only [List.mem_map, List.mem_range] at he
      obtain ⟨i, hi, rfl⟩ := he
      exact (hf i hi).2

end Go.Proofs.YtfdalbmopaemgabGreatDoor

namespace Go.Proofs.YtfdalbmopaemgabGreatDoor
open Go.ChangeShapes Go.WideShapes Go.ChangeAt Go.WideMaps Go.WideElems Go.RowKit Go.Deep

/-! ### How much a reading holds -/
theorem bulk_pos {H : Type} (d : DataW H) : 1 ≤ Rows.uptoBulk d := by
  unfold Rows.uptoBulk
  split <;> omega

theorem bulk_mem {H : Type} {d : DataW H} {l : List (DataW H)} (h : d ∈ l) : Rows.uptoBulk d ≤ Rows.uptoBulkAll l := by
  induction l with
  | nil => cases h
  | cons y l ih =>
    rw [Rows.uptoBulkAll]
    rcases List.mem_cons.1 h with rfl | h
    · omega
    · have := ih h; omega

theorem bulk_len {H : Type} (l : List (DataW H)) : l.length ≤ Rows.uptoBulkAll l := by
  induction l with
  | nil => simp
  | cons y l ih =>
    rw [Rows.uptoBulkAll, List.length_cons]
    have := bulk_pos y
    omega

theorem bulk_agg {H : Type} (l : List (DataW H)) : Rows.uptoBulk (.agg l) = Rows.uptoBulkAll l + 1 := by rw [Rows.uptoBulk]
theorem bulk_slice {H : Type} (l m : List (DataW H)) : Rows.uptoBulk (.slice l m) = Rows.uptoBulkAll l + Rows.uptoBulkAll m + 1 := by rw [Rows.uptoBulk]
theorem bulk_string {H : Type} (l : List UInt8) : Rows.uptoBulk (DataW.lit (H := H) (.string l)) = l.length + 1 := by rw [Rows.uptoBulk]

/-- A list of events that came in, and how much it holds. -/
theorem evs_of_trod2 {H : Type} {enc : TypeId × Value → H} {w : World} {base : Nat} {held : Bool} {fuel : Nat} {v : Value} {x : DataW H × List MemPlace}
    (h : DataW.trod enc Tryz.prog w base (fun _ => true) held fuel 31 [v] = some x) : ∃ es : List Ev, SlEv w v es ∧ (∀ e ∈ es, e.Ok) ∧ es.length ≤ Rows.uptoBulk x.1 ∧ (∀ a n c, v = .slice a n c → n ≤ c) := by
  obtain ⟨es, h1, h2, _⟩ := evs_of_trod h
  refine ⟨es, h1, h2, ?_⟩
  rcases open_slice Tryz.underlying31 h with ⟨h0, rfl⟩ | ⟨a, len, cap, m, n, D, Pl, h0, q1, q2, q3, q4, rfl, _⟩
  · simp only [List.cons.injEq, and_true] at h0
    obtain ⟨a, c, hf⟩ := slice_form h1
    rw [h0] at hf
    simp only [Value.slice.injEq] at hf
    refine ⟨by omega, fun a' n' c' e => ?_⟩
    rw [h0] at e
    simp only [Value.slice.injEq] at e
    omega
  · simp only [List.cons.injEq, and_true] at h0
    obtain ⟨a', c, hf⟩ := slice_form h1
    rw [h0] at hf
    simp only [Value.slice.injEq] at hf
    have := bulk_len ((List.range len).map D)
    rw [bulk_slice]
    simp at this
    refine ⟨by omega, fun a'' n' c' e => ?_⟩
    rw [h0] at e
    simp only [Value.slice.injEq] at e
    simp only [if_true] at q4
    omega

set_option maxRecDepth 100000 in
/-- What reads as a step is one. -/
theorem op_of_trod {H : Type} {enc : TypeId × Value → H} {w : World} {base : Nat} {held : Bool} {fuel : Nat} {cs : List Value} {x : DataW H × List MemPlace}
    (h : DataW.trod enc Tryz.prog w base (fun _ => true) held fuel 33 cs = some x) (hb : Rows.uptoBulk x.1 ≤ 1048576) :
    ∃ (d : OpD) (es : List Ev), cs = [.int .i64 d.k, .int .i64 d.n, .int .u8 d.t, .int .u8 d.x, .int .i32 d.v, d.hv, .string d.s] ∧ OpOk w w.heap.size d es := by
  obtain ⟨xs, n, _, rfl, hl, hlen, hf⟩ := DataW.trod_struct Tryz.underlying33 h
  have c7 : Tryz.prog.cellsOf 33 = 7 := by kernel_rfl
  have ci : Tryz.prog.cellsOf 3 = 1 := by kernel_rfl
  have c1 : Tryz.prog.cellsOf 5 = 1 := by kernel_rfl
  have c2 : Tryz.prog.cellsOf 21 = 1 := by kernel_rfl
  have c3 : Tryz.prog.cellsOf 31 = 1 := by kernel_rfl
  have c4 : Tryz.prog.cellsOf 9 = 1 := by kernel_rfl
  rw [c7] at hl
  match cs, hl, xs, hlen, hf, hb with
  | [a0, a1, a2, a3, a4, a5, a6], _, [y0, y1, y2, y3, y4, y5, y6], _, hf, hb =>
    have f0 : DataW.trod enc Tryz.prog w base (fun _ => true) held n 3 [a0] = some y0 := by simpa [ci] using hf 0 _ rfl
    have f1 : DataW.trod enc Tryz.prog w base (fun _ => true) held n 3 [a1] = some y1 := by simpa [ci] using hf 1 _ rfl
    have f2 : DataW.trod enc Tryz.prog w base (fun _ => true) held n 5 [a2] = some y2 := by simpa [c1] using hf 2 _ rfl
    have f3 : DataW.trod enc Tryz.prog w base (fun _ => true) held n 5 [a3] = some y3 := by simpa [c1] using hf 3 _ rfl
    have f4 : DataW.trod enc Tryz.prog w base (fun _ => true) held n 21 [a4] = some y4 := by simpa [c2] using hf 4 _ rfl
    have f5 : DataW.trod enc Tryz.prog w base (fun _ => true) held n 31 [a5] = some y5 := by simpa [c3] using hf 5 _ rfl
    have f6 : DataW.trod enc Tryz.prog w base (fun _ => true) held n 9 [a6] = some y6 := by simpa [c4] using hf 6 _ rfl
    obtain ⟨k, e0, _, w0⟩ := DataW.trod_int Tryz.underlying3 f0
    obtain ⟨m, e1, _, _⟩ := DataW.trod_int Tryz.underlying3 f1
    obtain ⟨t, e2, _, _⟩ := DataW.trod_int Tryz.underlying5 f2
    obtain ⟨u, e3, _, _⟩ := DataW.trod_int Tryz.underlying5 f3
    obtain ⟨v, e4, _, _⟩ := DataW.trod_int Tryz.underlying21 f4
    obtain ⟨es, hs, hok, hle, hcap⟩ := evs_of_trod2 f5
    obtain ⟨s, e6, hy6, _⟩ := DataW.trod_string Tryz.underlying9 f6
    simp at e0 e1 e2 e3 e4 e6
    subst e0 e1 e2 e3 e4 e6
    have b0 := bounds_i64 w0
    rw [bulk_agg] at hb
    have hb5 := bulk_mem (d := y5.1) (l := [y0, y1, y2, y3, y4, y5, y6].map (·.1)) (by simp)
    have hb6 := bulk_mem (d := y6.1) (l := [y0, y1, y2, y3, y4, y5, y6].map (·.1)) (by simp)
    have hsz : s.size ≤ 1048576 := by
      have hb7 : Rows.uptoBulk y6.1 ≤ 1048576 := by omega
      rw [hy6] at hb7
      simp only [bulk_string] at hb7
      have h3 : s.data.toList.length = s.size := by simp
      omega
    refine ⟨⟨k, m, t, u, v, a5, s⟩, es, rfl, ⟨hs, hok, by omega, hsz, fun he g hg => ?_, b0.1, b0.2, hcap⟩⟩
    rcases hs with ⟨h0, _⟩ | ⟨b, off, c, h1, h2, _⟩
    · exact absurd h0 he
    · simp only at hg
      rw [h1] at hg
      simp [Value.ownBlock] at hg
      omega

theorem opAt_of_cells {w : World} {base : Nat} {a : Addr} {d : OpD} (h : w.cells? base a 7 = some [.int .i64 d.k, .int .i64 d.n, .int .u8 d.t, .int .u8 d.x, .int .i32 d.v, d.hv, .string d.s]) : ∃ b o, a = ⟨b, o, none⟩ ∧ OpAt w b o d := by
  have hc : ∀ i, i < 7 → w.cell? (a.add i) = ([.int .i64 d.k, .int .i64 d.n, .int .u8 d.t, .int .u8 d.x, .int .i32 d.v, d.hv, .string d.s] : List Value)[i]? := by
    intro i hi
    unfold World.cells? at h
    split at h
    · obtain ⟨u, hu, hw⟩ := Lib.mapM_at h i i (by simp [hi])
      rw [hu, hw]
    · cases h
  obtain ⟨b, o, spot⟩ := a
  have hspot : spot = none := by simpa [Addr.add] using World.cell?_spot (show w.cell? _ = some (.int .i64 d.k) from hc 0 (by omega))
  subst hspot
  refine ⟨b, o, rfl, ⟨?_, ?_, ?_, ?_, ?_, ?_, ?_⟩⟩
  · simpa [Addr.add] using hc 0 (by omega)
  · simpa [Addr.add] using hc 1 (by omega)
  · simpa [Addr.add] using hc 2 (by omega)
  · simpa [Addr.add] using hc 3 (by omega)
  · simpa [Addr.add] using hc 4 (by omega)
  · simpa [Addr.add] using hc 5 (by omega)
  · simpa [Addr.add] using hc 6 (by omega)

/-- A script that came in. -/
theorem script_of_trod {H : Type} {enc : TypeId × Value → H} {w : World} {base : Nat} {held : Bool} {fuel : Nat} {v : Value} {x : DataW H × List MemPlace}
    (h : DataW.trod enc Tryz.prog w base (fun _ => true) held fuel 22 [v] = some x) (hb : Rows.uptoBulk x.1 ≤ 1048576) :
    ∃ ds : List OpD, SlOp w v ds ∧ (∀ d ∈ ds, ∃ es, OpOk w w.heap.size d es) ∧ ds.length ≤ 1048576 := by
  rcases open_slice Tryz.underlying22 h with ⟨h0, _⟩ | ⟨a, len, cap, m, n, D, Pl, h0, _, hl, hm, hmm, rfl, hx⟩
  · simp only [List.cons.injEq, and_true] at h0
    exact ⟨[], Or.inl ⟨rfl, none, 0, h0⟩, fun e he => (by cases he), by simp⟩
  · simp only [List.cons.injEq, and_true] at h0
    simp only [if_true] at hmm
    have c7 : Tryz.prog.cellsOf 33 = 7 := by kernel_rfl
    rw [c7] at hx
    rw [bulk_slice] at hb
    have hlenb := bulk_len ((List.range len).map D)
    rw [List.length_map, List.length_range] at hlenb
    have hex : ∀ i, ∃ d : OpD, i < len → (w.cells? base (a.add (i * 7)) 7 = some [.int .i64 d.k, .int .i64 d.n, .int .u8 d.t, .int .u8 d.x, .int .i32 d.v, d.hv, .string d.s] ∧ ∃ es, OpOk w w.heap.size d es) := by
      intro i
      by_cases hi : i < len
      · obtain ⟨cs', h1, h2⟩ := hx i (by omega)
        have hbi := bulk_mem (d := D i) (l := (List.range len).map D) (List.mem_map.2 ⟨i, List.mem_range.2 hi, rfl⟩)
        obtain ⟨d, es, rfl, he⟩ := op_of_trod h2 (by simp only; omega)
        exact ⟨d, fun _ => ⟨h1, es, he⟩⟩
      · exact ⟨⟨0, 0, 0, 0, 0, .slice none 0 0, ByteArray.empty⟩, fun h => absurd h hi⟩
    obtain ⟨f, hf⟩ := Classical.axiomOfChoice hex
    have hlen : ((List.range len).map f).length = len := by simp
    refine ⟨(List.range len).map f, ?_, ?_, by rw [hlen]; omega⟩
    · by_cases hz : len = 0
      · subst hz
        exact Or.inl ⟨rfl, some a, cap, h0⟩
      · obtain ⟨b, o, hab, _⟩ := opAt_of_cells (hf 0 (by omega)).1
        have ha : a = ⟨b, o, none⟩ := by simpa [Addr.add] using hab
        subst ha
        refine Or.inr ⟨b, o, cap, by rw [hlen]; exact h0, ?_, fun i hi => ?_⟩
        · have := World.cells?_block (hf 0 (by omega)).1 (by omega)
          simpa [Addr.add] using this
        · rw [hlen] at hi
          obtain ⟨b', o', hab', hev⟩ := opAt_of_cells (hf i hi).1
          rw [Go.WideShapes.add_plain] at hab'
          simp only [Addr.mk.injEq] at hab'
          obtain ⟨rfl, rfl, _⟩ := hab'
          simpa using hev
    · intro e he
      simp only [List.mem_map, List.mem_range] at he
      obtain ⟨i, hi, rfl⟩ := he
      exact (hf i hi).2

end Go.Proofs.YtfdalbmopaemgabGreatDoor

namespace Go.Proofs.YtfdalbmopaemgabGreatDoor
open Go.ChangeShapes Go.WideShapes Go.ChangeAt Go.WideMaps Go.WideElems Go.RowKit Go.Deep

set_option maxRecDepth 100000 in
/-- What reads as a step is one. -/
theorem op_of_trod2 {H : Type} {enc : TypeId × Value → H} {w : World} {base : Nat} {held : Bool} {fuel : Nat} {cs : List Value} {x : DataW H × List MemPlace}
    (h : DataW.trod enc Tryz.prog w base (fun _ => true) held fuel 33 cs = some x) (hb : Rows.uptoBulk x.1 ≤ 1048576) :
    ∃ (d : OpD) (es : List Ev), cs = [.int .i64 d.k, .int .i64 d.n, .int .u8 d.t, .int .u8 d.x, .int .i32 d.v, d.hv, .string d.s] ∧ OpOk w w.heap.size d es ∧ OpB d := by
  obtain ⟨xs, n, _, rfl, hl, hlen, hf⟩ := DataW.trod_struct Tryz.underlying33 h
  have c7 : Tryz.prog.cellsOf 33 = 7 := by kernel_rfl
  have ci : Tryz.prog.cellsOf 3 = 1 := by kernel_rfl
  have c1 : Tryz.prog.cellsOf 5 = 1 := by kernel_rfl
  have c2 : Tryz.prog.cellsOf 21 = 1 := by kernel_rfl
  have c3 : Tryz.prog.cellsOf 31 = 1 := by kernel_rfl
  have c4 : Tryz.prog.cellsOf 9 = 1 := by kernel_rfl
  rw [c7] at hl
  match cs, hl, xs, hlen, hf, hb with
  | [a0, a1, a2, a3, a4, a5, a6], _, [y0, y1, y2, y3, y4, y5, y6], _, hf, hb =>
    have f0 : DataW.trod enc Tryz.prog w base (fun _ => true) held n 3 [a0] = some y0 := by simpa [ci] using hf 0 _ rfl
    have f1 : DataW.trod enc Tryz.prog w base (fun _ => true) held n 3 [a1] = some y1 := by simpa [ci] using hf 1 _ rfl
    have f2 : DataW.trod enc Tryz.prog w base (fun _ => true) held n 5 [a2] = some y2 := by simpa [c1] using hf 2 _ rfl
    have f3 : DataW.trod enc Tryz.prog w base (fun _ => true) held n 5 [a3] = some y3 := by simpa [c1] using hf 3 _ rfl
    have f4 : DataW.trod enc Tryz.prog w base (fun _ => true) held n 21 [a4] = some y4 := by simpa [c2] using hf 4 _ rfl
    have f5 : DataW.trod enc Tryz.prog w base (fun _ => true) held n 31 [a5] = some y5 := by simpa [c3] using hf 5 _ rfl
    have f6 : DataW.trod enc Tryz.prog w base (fun _ => true) held n 9 [a6] = some y6 := by simpa [c4] using hf 6 _ rfl
    obtain ⟨k, e0, _, w0⟩ := DataW.trod_int Tryz.underlying3 f0
    obtain ⟨m, e1, _, w1⟩ := DataW.trod_int Tryz.underlying3 f1
    obtain ⟨t, e2, _, w2⟩ := DataW.trod_int Tryz.underlying5 f2
    obtain ⟨u, e3, _, w3⟩ := DataW.trod_int Tryz.underlying5 f3
    obtain ⟨v, e4, _, w4⟩ := DataW.trod_int Tryz.underlying21 f4
    obtain ⟨es, hs, hok, hle, hcap⟩ := evs_of_trod2 f5
    obtain ⟨s, e6, hy6, _⟩ := DataW.trod_string Tryz.underlying9 f6
    simp at e0 e1 e2 e3 e4 e6
    subst e0 e1 e2 e3 e4 e6
    have b0 := bounds_i64 w0
    have b1 := bounds_i64 w1
    have b2 := bounds_u8 w2
    have b3 := bounds_u8 w3
    have b4 := bounds_i32 w4
    rw [bulk_agg] at hb
    have hb5 := bulk_mem (d := y5.1) (l := [y0, y1, y2, y3, y4, y5, y6].map (·.1)) (by simp)
    have hb6 := bulk_mem (d := y6.1) (l := [y0, y1, y2, y3, y4, y5, y6].map (·.1)) (by simp)
    have hsz : s.size ≤ 1048576 := by
      have hb7 : Rows.uptoBulk y6.1 ≤ 1048576 := by omega
      rw [hy6] at hb7
      simp only [bulk_string] at hb7
      have h3 : s.data.toList.length = s.size := by simp
      omega
    refine ⟨⟨k, m, t, u, v, a5, s⟩, es, rfl, ⟨hs, hok, by omega, hsz, fun he g hg => ?_, b0.1, b0.2, hcap⟩, ⟨by simp only; omega, by simp only; omega, b2.1, b2.2, b3.1, b3.2, b4.1, b4.2⟩⟩
    rcases hs with ⟨h0, _⟩ | ⟨b, off, c, h1, h2, _⟩
    · exact absurd h0 he
    · simp only at hg
      rw [h1] at hg
      simp [Value.ownBlock] at hg
      omega

/-- A script that came in. -/
theorem script_of_trod2 {H : Type} {enc : TypeId × Value → H} {w : World} {base : Nat} {held : Bool} {fuel : Nat} {v : Value} {x : DataW H × List MemPlace}
    (h : DataW.trod enc Tryz.prog w base (fun _ => true) held fuel 22 [v] = some x) (hb : Rows.uptoBulk x.1 ≤ 1048576) :
    ∃ ds : List OpD, SlOp w v ds ∧ (∀ d ∈ ds, (∃ es, OpOk w w.heap.size d es) ∧ OpB d) ∧ ds.length ≤ 1048576 := by
  rcases open_slice Tryz.underlying22 h with ⟨h0, _⟩ | ⟨a, len, cap, m, n, D, Pl, h0, _, hl, hm, hmm, rfl, hx⟩
  · simp only [List.cons.injEq, and_true] at h0
    exact ⟨[], Or.inl ⟨rfl, none, 0, h0⟩, fun e he => (by cases he), by simp⟩
  · simp only [List.cons.injEq, and_true] at h0
    simp only [if_true] at hmm
    have c7 : Tryz.prog.cellsOf 33 = 7 := by kernel_rfl
    rw [c7] at hx
    rw [bulk_slice] at hb
    have hlenb := bulk_len ((List.range len).map D)
    rw [List.length_map, List.length_range] at hlenb
    have hex : ∀ i, ∃ d : OpD, i < len → (w.cells? base (a.add (i * 7)) 7 = some [.int .i64 d.k, .int .i64 d.n, .int .u8 d.t, .int .u8 d.x, .int .i32 d.v, d.hv, .string d.s] ∧ (∃ es, OpOk w w.heap.size d es) ∧ OpB d) := by
      intro i
      by_cases hi : i < len
      · obtain ⟨cs', h1, h2⟩ := hx i (by omega)
        have hbi := bulk_mem (d := D i) (l := (List.range len).map D) (List.mem_map.2 ⟨i, List.mem_range.2 hi, rfl⟩)
        obtain ⟨d, es, rfl, he, hb2⟩ := op_of_trod2 h2 (by simp only; omega)
        exact ⟨d, fun _ => ⟨h1, ⟨es, he⟩, hb2⟩⟩
      · exact ⟨⟨0, 0, 0, 0, 0, .slice none 0 0, ByteArray.empty⟩, fun h => absurd h hi⟩
    obtain ⟨f, hf⟩ := Classical.axiomOfChoice hex
    have hlen : ((List.range len).map f).length = len := by simp
    refine ⟨(List.range len).map f, ?_, ?_, by rw [hlen]; omega⟩
    · by_cases hz : len = 0
      · subst hz
        exact Or.inl ⟨rfl, some a, cap, h0⟩
      · obtain ⟨b, o, hab, _⟩ := opAt_of_cells (hf 0 (by omega)).1
        have ha : a = ⟨b, o, none⟩ := by simpa [Addr.add] using hab
        subst ha
        refine Or.inr ⟨b, o, cap, by rw [hlen]; exact h0, ?_, fun i hi => ?_⟩
        · have := World.cells?_block (hf 0 (by omega)).1 (by omega)
          simpa [Addr.add] using this
        · rw [hlen] at hi
          obtain ⟨b', o', hab', hev⟩ := opAt_of_cells (hf i hi).1
          rw [Go.WideShapes.add_plain] at hab'
          simp only [Addr.mk.injEq] at hab'
          obtain ⟨rfl, rfl, _⟩ := hab'
          simpa using hev
    · intro e he
      simp only [List.mem_map, List.mem_range] at he
      obtain ⟨i, hi, rfl⟩ := he
      exact (hf i hi).2

end Go.Proofs.YtfdalbmopaemgabGreatDoor

namespace Go.Proofs.YtfdalbmopaemgabGreatDoor
open Go.ChangeShapes Go.WideShapes Go.ChangeAt Go.WideMaps Go.WideElems Go.RowKit

set_option maxRecDepth 100000 in
theorem all_contract (H : Type) (enc : TypeId × Value → H) (W : World) (base : Nat) (args : Array Value) (ds gs : List (DataW H)) (before : List MemPlace)
    (hval : ∀ (j : Nat) t v, Tryz.f3.params[j]? = some t → args[j]? = some v → Value.okWide Tryz.prog W .any base t v)
    (hW : DataW.Whole enc Tryz.prog Tryz.f3.params.toList Rows.allSpec.vars false W args.toList ds gs before) (hL : laidMetH Tryz.prog laid3 W) (hk : Rows.uptoSmall H (ds ++ gs) = true) :
    Calls Tryz.prog 3 args W fun e W' => ∃ v, e = .returned v ∧ Rows.allSpec.post enc Tryz.prog Tryz.f3 false true false false W args v W' := by
  have hW' := hW
  obtain ⟨p, q, hA0, hV, rfl, hfz, hnd⟩ := hW
  have hA : DataW.TrodAll enc Tryz.prog W 0 (fun _ => true) true Tryz.f3.params.toList args.toList ds p := hA0
  rw [Tryz.params3] at hA hval
  obtain ⟨v0, vs0, d0, ds0, p0, q0, hargs, rfl, rfl, h0, r0⟩ := trodAll_cons hA
  obtain ⟨rfl, rfl, rfl⟩ := trodAll_nil r0
  obtain rfl : args = #[v0] := by cases args; simp_all
  obtain ⟨rfl, rfl⟩ := trodVars_none hV
  obtain ⟨fuel, hf⟩ := id h0
  obtain ⟨a0, len, cap, rfl⟩ := okWide_slice Tryz.underlying22 (hval 0 22 v0 rfl rfl)
  have hb : Rows.uptoBulk d0 ≤ 1048576 := by
    have h := of_decide_eq_true hk
    simp only [List.append_nil, Rows.uptoBulkAll] at h
    omega
  obtain ⟨ds, hs, hok, hm⟩ := script_of_trod2 (by simpa [Value.cells] using hf) hb
  have htab := tab_of_laid hL
  have hlt : ∀ x ∈ p0, x.block < W.heap.size := fun x hx => hW'.lt x (by simpa using hx)
  clear hA0 hL hf
  refine (all_walk _ ds W hs hok hm htab).mono fun e W' ⟨he, hnx⟩ => ?_
  subst he
  refine ⟨_, rfl, _, _, _, [], p0 ++ [], [], hW', ?_, ?_, rfl, hnx.frame _, fun h => (by cases h)⟩
  · exact trodAll_cons_mk (shut_bool Tryz.underlying4 _) trodAll_mk0
  · exact trodAll_cons_mk (Below.trod (by kernel_rfl) (by kernel_rfl) (of_decide_eq_true (by kernel_rfl)) h0 hnx hlt) trodAll_mk0

theorem all_reads (os : Os) {H : Type} (enc : TypeId × Value → H) : ∃ places, DataW.whole enc Tryz.prog ((World.doorLaid Tryz.prog 400 os).forCall (fun _ _ => 0) ⟨#[], #[.slice none 0 0], []⟩).memory Tryz.f3.params.toList Rows.allSpec.vars false #[Value.slice none 0 0].toList 8 = some ([.nil], [], places) :=
  ⟨[], by kernel_rfl⟩

set_option maxRecDepth 100000 in
theorem all_lifted (os : Os) (started : os.Started) (H : Type) (enc : TypeId × Value → H) (F : Stop.Interp) :
    ReturnsInHanded {} Tryz.checked os 3 .any ((Rows.OpenSpec.upto Rows.allSpec).preRow enc Tryz.prog Tryz.f3 Rows.allUptoRow.domain false Rows.allUptoRow.laid) (((Rows.OpenSpec.upto Rows.allSpec).at F).post enc Tryz.prog Tryz.f3 false true false false) := by
  obtain ⟨places, hx⟩ := all_reads os enc
  refine returnsInHanded_of_row (C := Tryz.checked) (s := Rows.OpenSpec.upto Rows.allSpec) own started (by kernel_rfl) Tryz.func3
    (witness_row_at (enc := enc) (C := Tryz.checked) false (World.doorLaid Tryz.prog 400 os) #[.slice none 0 0] rfl (by kernel_rfl) (by kernel_rfl) (by kernel_rfl)
      (OpenSpec.preRow_of_cond 8 hx (by kernel_rfl) (fun k hk => by cases hk; kernel_rfl) (by kernel_rfl) (door_met os _))) ?_
  intro W base args ds gs before hval hW _ hcond _ hL _ _
  exact all_contract H enc W base args ds gs before hval hW hL (hcond _ rfl)

theorem all_saidUpto : Rows.AllUptoSaid :=
  OpenClaim.holds_of_cond 3 Tryz.f3 rfl rfl rfl rfl rfl rfl rfl ⟨rfl, rfl, rfl, rfl, rfl⟩ rfl rfl rfl rfl rfl (by kernel_rfl) Tryz.func3 (by kernel_rfl)
    (of_decide_eq_true (by kernel_rfl)) (by unfold Func.isWrapper; first | (rw [if_pos (by decide +kernel)]; kernel_rfl) | (rw [if_neg (by decide +kernel)]; exact ⟨rfl, rfl⟩))
    (fun os started H enc _ F => by rw [OpenClaim.pre_eq_preRow]; exact all_lifted os started H enc F)

theorem all_plain (f : FuncId) (fn : Func) (hf : Tryz.pinned.checked.prog.funcNamed Rows.allUptoRow.func = some f) (hfn : Tryz.pinned.checked.prog.funcs[f]? = some fn) :
    false = Tryz.pinned.checked.prog.looks [] ∧ ∀ (j : Nat) t, fn.params[j]? = some t → Tryz.pinned.checked.prog.wantsStandIn t = false := by
  obtain rfl : f = 3 := Option.some.inj ((show Tryz.prog.funcNamed Rows.allUptoRow.func = some 3 by kernel_rfl).symm.trans hf) |>.symm
  obtain rfl : fn = Tryz.f3 := (Option.some.inj (Tryz.func3.symm.trans hfn)).symm
  refine ⟨by kernel_rfl, fun j t ht => ?_⟩
  rw [Tryz.params3] at ht
  obtain rfl : t = 22 := by simpa using Array.mem_of_getElem? ht
  exact (show Tryz.prog.wantsStandIn 22 = false by kernel_rfl)

theorem all_card : Rows.AllUptoCardSaid :=
  Claim7.holds_tied_plain_at .later [] _ _ _ _ all_saidUpto (fun _ h => by cases h) (by kernel_rfl) (fun _ h => by cases h) allUpto_row_tie rfl ⟨rfl, rfl⟩ (by kernel_rfl) rfl all_plain (by kernel_rfl)

end Go.Proofs.YtfdalbmopaemgabGreatDoor
