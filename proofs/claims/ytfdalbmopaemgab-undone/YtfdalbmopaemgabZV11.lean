import Derived.Test.YtfdalbmopaemgabZV10
import Derived.Test.YtfdalbmopaemgabZS8
import Derived.Deep.MidRow
namespace Go.Proofs.Ytfdalbmopaemgab
open Go.RowKit

def holdA (es : List Ev) (x : Int) : Nat × Nat × Int := if 4 ≤ x then (0, 0, 6) else ((holdersL es x).1, (holdersL es x).2, 0)

set_option maxRecDepth 100000 in
set_option maxHeartbeats 2000000 in
theorem sholders_any (b x : Nat) (es : List Ev) (w : World) (h : StC w b es) (hx : x ≤ 255) :
    Calls Try.prog 33 #[.pointer (some ⟨b, 0, none⟩), .int .u8 (x : Int)] w fun r w' => r = .returned (.tuple #[.int .u16 ((holdA es (x : Int)).1 : Int), .int .u16 ((holdA es (x : Int)).2.1 : Int), .int .i64 (holdA es (x : Int)).2.2]) ∧ ∃ n, w' = w.drewN n := by
  obtain ⟨T, W, O, q, h, hlen⟩ := h
  by_cases hx4 : 4 ≤ x
  · have e4 : (4 : Int) ≤ (x : Int) := by omega
    have HV : Hid (holdA es (x : Int) = (0, 0, 6)) := by show _ = _; unfold holdA; rw [if_pos e4]
    clear q h
    go_enter Try.func33, Try.ntmps33
    go_wp2_with fail
    go_ret3
    exact ⟨by rw [HV.out]; rfl, 0, rfl⟩
  · have e4 : ¬ (4 : Int) ≤ (x : Int) := by omega
    have e5 : (x : Int) < 4 := by omega
    have hob := h.ob x (by omega)
    have g0 := hob.rd
    have g1 := hob.wr
    rw [q.rd x (by omega)] at g0
    rw [q.wr x (by omega)] at g1
    have HV : Hid (holdA es (x : Int) = ((holdersL es (x : Int)).1, (holdersL es (x : Int)).2, 0)) := by show _ = _; unfold holdA; rw [if_neg e4]
    generalize (holdersL es (x : Int)).1 = a1 at g0 HV
    generalize (holdersL es (x : Int)).2 = a2 at g1 HV
    clear q h hob
    go_enter Try.func33, Try.ntmps33
    go_wp2_with fail
    go_region
    go_wp2_with fail
    go_ret3
    exact ⟨by rw [HV.out]; rfl, 1, rfl⟩

set_option maxRecDepth 100000 in
set_option maxHeartbeats 2000000 in
theorem svalues_any (b : Nat) (es : List Ev) (w : World) (h : StC w b es) :
    Calls Try.prog 34 #[.pointer (some ⟨b, 0, none⟩)] w fun r w' => r = .returned (valsV fun i => isL es 0 (i : Int)) ∧ Below w.heap.size w w' := by
  obtain ⟨T, W, O, q, h, hlen⟩ := h
  have HO : Hid (∀ x, x < 4 → w.cell? ⟨b, 33 + x * 18 + 2, none⟩ = some (.int .i32 (isL es 0 (x : Int)))) := fun x hx => by
    have := (h.ob x hx).own 0 (by omega)
    rw [q.own x hx 0 (Or.inl rfl)] at this
    exact this
  have hlt := h.tr.lt
  clear q h
  have hb0 : Below w.heap.size w (w.alloc (.cells #[.int .i32 0, .int .i32 0, .int .i32 0, .int .i32 0] 53)) := (Below.refl _ _).alloc (Nat.le_refl _) _
  have hb1 : Below (w.heap.size + 1) (w.alloc (.cells #[.int .i32 0, .int .i32 0, .int .i32 0, .int .i32 0] 53)) ((w.alloc (.cells #[.int .i32 0, .int .i32 0, .int .i32 0, .int .i32 0] 53)).alloc (.cells #[.int .i32 0, .int .i32 0, .int .i32 0, .int .i32 0] 53)) := (Below.refl _ _).alloc (by simp) _
  have hvr := (vat_new w 53).below (w' := (w.alloc (.cells #[.int .i32 0, .int .i32 0, .int .i32 0, .int .i32 0] 53)).alloc (.cells #[.int .i32 0, .int .i32 0, .int .i32 0, .int .i32 0] 53)) (by simpa using hb1)
  have hvv := vat_new (w.alloc (.cells #[.int .i32 0, .int .i32 0, .int .i32 0, .int .i32 0] 53)) 53
  rw [World.size_alloc] at hvv
  have HST : Hid (VAt ((w.alloc (.cells #[.int .i32 0, .int .i32 0, .int .i32 0, .int .i32 0] 53)).alloc (.cells #[.int .i32 0, .int .i32 0, .int .i32 0, .int .i32 0] 53)) (w.heap.size + 1) (valsK es 0)) := by
    have h7 : valsK es 0 = fun _ => 0 := by funext i; unfold valsK; rw [if_neg (by omega)]
    show VAt _ _ _
    rw [h7]
    exact hvv
  have HVR := hidIt hvr
  have HBB : Hid (Below w.heap.size w ((w.alloc (.cells #[.int .i32 0, .int .i32 0, .int .i32 0, .int .i32 0] 53)).alloc (.cells #[.int .i32 0, .int .i32 0, .int .i32 0, .int .i32 0] 53))) := hb0.trans (hb1.mono (by omega))
  clear hb0 hb1 hvr hvv
  go_enter Try.func34, Try.ntmps34
  go_wp2_with fail
  go_loopw [5] (fun i wr => ∃ k : Nat, k ≤ 4 ∧ i = .int .i64 k ∧ VAt wr (w.heap.size + 1) (valsK es k) ∧ VAt wr w.heap.size (fun _ => 0) ∧ Below w.heap.size w wr) (fun i _ => 4 - (intOf i).toNat)
  case atStart => exact ⟨0, by omega, rfl, HST.out, HVR.out, HBB.out⟩
  case round =>
    clear HST HVR HBB
    obtain ⟨k, hk, rfl, hva, hvr, hnx⟩ := hrel
    by_cases hlt4 : k < 4
    · have hlt' : (k : Int) < 4 := by omega
      have hk0 : (0 : Int) ≤ (k : Int) := by omega
      have g := HO.out k hlt4
      rw [← World.cell?_of_block (w' := wr) (a := ⟨b, 33 + k * 18 + 2, none⟩) (hnx.block b hlt)] at g
      have c1 := hva.cell k hlt4
      have f1 := hva.fz k
      have hset := hva.set k hlt4 (isL es 0 (k : Int))
      rw [valsK_succ] at hset
      have HSET := hidIt hset
      have HR1 : Hid (VAt (wr.setCell ⟨w.heap.size + 1, k, none⟩ (.int .i32 (isL es 0 (k : Int)))) w.heap.size fun _ => 0) := hvr.of_heap (Below.heap_setCell _ ⟨w.heap.size + 1, k, none⟩ _ _ (by simp)) (by simp)
      have HB1 : Hid (Below w.heap.size w (wr.setCell ⟨w.heap.size + 1, k, none⟩ (.int .i32 (isL es 0 (k : Int))))) := hnx.setCell (p := ⟨w.heap.size + 1, k, none⟩) (by simp) _
      clear hset hva hvr
      go_wp2_with fail
      go_roundw
      case rel => exact ⟨k + 1, by omega, by go_num, HSET.out, HR1.out, HB1.out⟩
      case measure => simp [intOf]; omega
    · have hge : ¬ (k : Int) < 4 := by omega
      have hk4 : k = 4 := by omega
      subst hk4
      have c0 := hva.cell 0 (by omega)
      have c1 := hva.cell 1 (by omega)
      have c2 := hva.cell 2 (by omega)
      have c3 := hva.cell 3 (by omega)
      have q0 := hvr.cell 0 (by omega)
      have q1 := hvr.cell 1 (by omega)
      have q2 := hvr.cell 2 (by omega)
      have q3 := hvr.cell 3 (by omega)
      have f0 := hvr.fz
      clear hva hvr
      go_wp2_with fail
      exact bodyPost_ret (v := valsV fun i => isL es 0 (i : Int)) (by simp [results, Try.results34, go_sem, q0, q1, q2, q3, valsK]) rfl ⟨rfl, set4_below hnx _ (Nat.le_refl _) _ _ _ _⟩

/-! ### New -/
def zF (o : Nat) : Value := if o < 17 then .int .u8 0 else if o < 33 then .bool false else if o < 105 then (if (o - 33) % 18 < 2 then .int .u16 0 else .int .i32 0) else if o < 405 then (if (o - 105) % 5 < 3 then .int .u8 0 else .int .i32 0) else .int .i64 0

def zeroC : Array Value := ((List.range 406).map zF).toArray

theorem zeroC_size : zeroC.size = 406 := by simp [zeroC]
theorem zeroC_ne : zeroC ≠ #[] := fun h => by have := zeroC_size; rw [h] at this; simp at this

theorem Try.zeroRun (w : World) : (zeroValue 76).run Try.prog w = .ok (.agg zeroC) w := by
  have h : (Try.prog.info? 76).map (·.zero) = some (some (.agg zeroC)) := by kernel_rfl
  cases hq : Try.prog.info? 76 with
  | none => rw [hq] at h; cases h
  | some i =>
    rw [hq] at h
    have hs : i.zero = some (.agg zeroC) := by simpa using h
    simp [zeroValue, Sem.run_bind, typeInfo, hq, hs]

theorem new_cell (w : World) (T : TypeId) (o : Nat) (ho : o < 406) : (w.alloc (.cells zeroC T)).cell? ⟨w.heap.size, o, none⟩ = some (zF o) := by
  have h : zeroC[o]? = some (zF o) := by
    unfold zeroC
    rw [List.getElem?_toArray, List.getElem?_map, List.getElem?_range ho]
    rfl
  rw [World.cell?_alloc_new]
  exact h

theorem new_st (w : World) (T : TypeId) : StAt (w.alloc (.cells zeroC T)) w.heap.size tr0 (fun _ => ⟨0, 0, fun _ => 0⟩) [] := by
  have hc := new_cell w T
  refine ⟨⟨?_, fun i hi => ?_, fun i hi => ?_, fun o => ?_, by simp⟩, fun x hx => ⟨?_, ?_, fun i hi => ?_⟩, fun i hi => ⟨?_, ?_, ?_, ?_, ?_⟩, ?_⟩
  · rw [hc _ (by omega)]; rfl
  · rw [hc _ (by omega)]; unfold zF; rw [if_pos (by omega)]; rfl
  · rw [hc _ (by omega)]; unfold zF; rw [if_neg (by omega), if_pos (by omega)]; rfl
  · exact World.frozen?_alloc_new _ _ _ _
  · rw [hc _ (by omega)]; unfold zF; rw [if_neg (by omega), if_neg (by omega), if_pos (by omega), if_pos (by omega)]; rfl
  · rw [hc _ (by omega)]; unfold zF; rw [if_neg (by omega), if_neg (by omega), if_pos (by omega), if_pos (by omega)]; rfl
  · rw [hc _ (by omega)]; unfold zF; rw [if_neg (by omega), if_neg (by omega), if_pos (by omega), if_neg (by omega)]
  · rw [hc _ (by omega)]; unfold zF; rw [if_neg (by omega), if_neg (by omega), if_neg (by omega), if_pos (by omega), if_pos (by omega)]; rfl
  · rw [hc _ (by omega)]; unfold zF; rw [if_neg (by omega), if_neg (by omega), if_neg (by omega), if_pos (by omega), if_pos (by omega)]; rfl
  · rw [hc _ (by omega)]; unfold zF; rw [if_neg (by omega), if_neg (by omega), if_neg (by omega), if_pos (by omega), if_pos (by omega)]; rfl
  · rw [hc _ (by omega)]; unfold zF; rw [if_neg (by omega), if_neg (by omega), if_neg (by omega), if_pos (by omega), if_neg (by omega)]; rfl
  · rw [hc _ (by omega)]; unfold zF; rw [if_neg (by omega), if_neg (by omega), if_neg (by omega), if_pos (by omega), if_neg (by omega)]; rfl
  · rw [hc _ (by omega)]; rfl

theorem new_is (w : World) (T : TypeId) : StC (w.alloc (.cells zeroC T)) w.heap.size [] ∧ Below w.heap.size w (w.alloc (.cells zeroC T)) := ⟨⟨_, _, _, QInv.start, new_st w T, by simp⟩, (Below.refl _ _).alloc (Nat.le_refl _) _⟩

set_option maxRecDepth 100000 in
set_option maxHeartbeats 2000000 in
theorem new_any (w : World) :
    Calls Try.prog 9 #[] w fun r w' => r = .returned (.pointer (some ⟨w.heap.size, 0, none⟩)) ∧ StC w' w.heap.size [] ∧ Below w.heap.size w w' := by
  have hz := Try.zeroRun
  have hne := zeroC_ne
  have hsz := zeroC_size
  go_enter Try.func9, Try.ntmps9
  go_wp2_with fail
  go_ret
  exact ⟨rfl, new_is w _⟩

/-! ### History -/
def ev60 (es : List Ev) : List Ev := (List.range 60).map (evF es)

theorem ev60_len (es : List Ev) : (ev60 es).length = 60 := by simp [ev60]
theorem ev60_at (es : List Ev) (k : Nat) (hk : k < 60) : (ev60 es)[k]'(by rw [ev60_len]; exact hk) = evF es k := by simp [ev60]

theorem StAt.range {w : World} {b : Nat} {T : Tr} {O : Nat → Ob} {es : List Ev} (h : StAt w b T O es) : w.rangeAt b 105 (evCells (ev60 es)) := by
  intro j v hv
  have hj : j < 300 := by
    have := (List.getElem?_eq_some_iff.1 hv).1
    rw [evCells_length, ev60_len] at this
    omega
  obtain ⟨i, f, hi, hf, rfl⟩ : ∃ i f, i < 60 ∧ f < 5 ∧ j = i * 5 + f := ⟨j / 5, j % 5, by omega, by omega, by omega⟩
  rw [evCells_at _ i (by rw [ev60_len]; exact hi) f hf, ev60_at es i hi] at hv
  have he := h.ev i hi
  rw [← Nat.add_assoc]
  have : f = 0 ∨ f = 1 ∨ f = 2 ∨ f = 3 ∨ f = 4 := by omega
  rcases this with rfl | rfl | rfl | rfl | rfl
  · rw [← hv]; exact he.c0
  · rw [← hv]; exact he.c1
  · rw [← hv]; exact he.c2
  · rw [← hv]; exact he.c3
  · rw [← hv]; exact he.c4

theorem Try.idxEv (w : World) (es : List Ev) (k : Nat) (hk : k < 60) : (Instr.index 72 (.agg (evCells (ev60 es)).toArray) (.int .i64 (k : Int))).run Try.prog w = .ok (evV (evF es k)) w := by
  have hu := Try.underlying72
  have hx : ∀ f, f < 5 → (evCells (ev60 es)).toArray[k * 5 + f]? = (evC (evF es k))[f]? := fun f hf => by
    rw [List.getElem?_toArray, evCells_at _ k (by rw [ev60_len]; exact hk) f hf, ev60_at es k hk]
  have hsz : (evCells (ev60 es)).toArray.size = 300 := by simp [evCells_length, ev60_len]
  have hex : (evCells (ev60 es)).toArray.extract (k * 5) (k * 5 + 5) = #[.int .u8 (evF es k).k, .int .u8 (evF es k).t, .int .u8 (evF es k).a, .int .i32 (evF es k).v, .int .i32 (evF es k).s] := by
    apply Array.ext_getElem?
    intro f
    rw [Array.getElem?_extract]
    by_cases hf : f < 5
    · rw [if_pos (by omega), hx f hf]
      simp [evC]
    · rw [if_neg (by omega), Array.getElem?_eq_none (by simp; omega)]
  unfold Instr.index
  simp only [Sem.run_bind, asIntOf, Sem.run_pure, Result.andThen_ok, run_underlying hu]
  rw [if_pos ⟨by omega, by omega⟩]
  generalize (evCells (ev60 es)).toArray = A at hex ⊢
  simp [part, go_sem, Try.isAgg71, Try.sizeOf71, hex]

set_option maxRecDepth 100000 in
set_option maxHeartbeats 2000000 in
theorem shistory_any (b : Nat) (es : List Ev) (w : World) (h : StC w b es) :
    Calls Try.prog 25 #[.pointer (some ⟨b, 0, none⟩)] w fun r w' => ∃ v, r = .returned v ∧ Own w' w.heap.size v es ∧ Below w.heap.size w w' := by
  obtain ⟨T, W, O, q, h, hlen⟩ := h
  have hlt := h.tr.lt
  have g := h.n
  obtain ⟨i0, hi, hz0, hz1, hz2⟩ := info_parts Try.infoEv
  have HI := hidIt hi
  have HZ0 := hidIt hz0
  have HZ1 := hidIt hz1
  have HZ2 := hidIt hz2
  clear hi hz0 hz1 hz2
  have HRG := hidIt h.range
  have HIX : Hid (∀ w (k : Nat), k < 60 → (Instr.index 72 (.agg (evCells (ev60 es)).toArray) (.int .i64 (k : Int))).run Try.prog w = .ok (evV (evF es k)) w) := fun w k hk => Try.idxEv w es k hk
  have HSZ : Hid ((Try.prog.info? 72).map (·.size) = some (evCells (ev60 es)).length) := by show _ = _; rw [evCells_length, ev60_len]; kernel_rfl
  generalize evCells (ev60 es) = CS at HRG HIX HSZ
  clear q h
  go_enter Try.func25, Try.ntmps25
  go_wp2_with fail
  refine wp_load_mid (P := Try.prog) 72 (Operand.tmp 8) rfl b 105 rfl CS _ HRG.out Try.underlying72 rfl HSZ.out ?_
  generalize CS.toArray = A at HIX ⊢
  go_wp2_with fail
  go_loopw [3, 10] (fun v i wr => ∃ k : Nat, k ≤ 60 ∧ i = .int .i64 k ∧ Own wr w.heap.size v (es.take k) ∧ Below w.heap.size w wr) (fun _ i _ => 60 - (intOf i).toNat)
  case atStart => exact ⟨0, by omega, rfl, Own.nil _ _, Below.refl _ _⟩
  case round =>
    obtain ⟨k, hk, rfl, hown, hnx⟩ := hrel
    have hszr := hnx.size
    by_cases hlt6 : k < 60
    · have hlt' : (k : Int) < 60 := by omega
      have hk0 : (0 : Int) ≤ (k : Int) := by omega
      have hix : ∀ w, (Instr.index 72 (.agg A) (.int .i64 (k : Int))).run Try.prog w = .ok (evV (evF es k)) w := fun w => HIX.out w k hlt6
      have gr : wr.cell? ⟨b, 405, none⟩ = some (.int .i64 (es.length : Int)) := by rw [World.cell?_of_block (a := ⟨b, 405, none⟩) (hnx.block b hlt)]; exact g
      have hbr : b < wr.heap.size := by omega
      obtain ⟨ev, hev⟩ : ∃ ev, evF es k = ev := ⟨_, rfl⟩
      rw [hev] at hix
      have HEV := hidIt hev
      clear hev
      by_cases hkl : k < es.length
      · have hkl' : (k : Int) < (es.length : Int) := by omega
        have HEE : Hid (es[k] = ev) := by show _ = _; rw [← HEV.out]; unfold evF; rw [List.getD_eq_getElem?_getD, List.getElem?_eq_getElem hkl]; rfl
        have hlen : (es.take k).length = k := by simp; omega
        obtain ⟨a, cp, hv⟩ := hown.form
        rw [hlen] at hv
        subst hv
        have HL := hidIt hlen
        clear hlen
        have hown2 := hown
        unfold Own at hown2
        rw [HL.out] at hown2
        have HB1 : Hid (Below w.heap.size w ((wr.alloc (.cells #[.int .u8 ev.k, .int .u8 ev.t, .int .u8 ev.a, .int .i32 ev.v, .int .i32 ev.s] 71)).alloc (.cells #[.int .u8 ev.k, .int .u8 ev.t, .int .u8 ev.a, .int .i32 ev.v, .int .i32 ev.s] 71))) := (hnx.alloc (by omega) _).alloc (by simp; omega) _
        clear hown
        go_wp2_with (at_builtin; refine wpList_append_own _ rfl _ _ 27 rfl w.heap.size 71 i0 (.agg #[.int .u8 0, .int .u8 0, .int .u8 0, .int .i32 0, .int .i32 0]) 5 12 Try.underlying27 HI.out HZ0.out HZ1.out HZ2.out rfl (by decide) _ _ _ rfl (World.ownsRow.alloc (World.ownsRow.alloc hown2 _) _) ⟨wr.heap.size + 1, 0, none⟩ 1 1 (evC ev) rfl rfl ?c1 ?c2 ?c3 ?c4 ?c5 ?_)
        case c1 => exact evC_new wr _ _ ev
        case c2 => exact evC_one ev
        case c3 => unfold maxLen; omega
        case c4 => omega
        case c5 => simp; omega
        · intro v' w3 hown' hgrow _
          have hnx2 : Below w.heap.size w w3 := by
            refine Below.grown HB1.out hgrow (by simp; omega) (fun j hj => ?_)
            exact (World.ownsRow.lt hown2 j hj).1
          have hown3 : Own w3 w.heap.size v' (es.take (k + 1)) := by
            rw [List.take_succ_eq_append_getElem hkl, HEE.out]
            unfold Own
            rw [evCells_append, List.length_append, HL.out]
            simpa [evCells] using hown'
          clear hown' hgrow
          go_wp2
          go_roundw
          case rel => exact ⟨k + 1, by omega, by go_num, hown3, hnx2⟩
          case measure => simp [intOf]; omega
      · have hkl' : ¬ (k : Int) < (es.length : Int) := by omega
        have HN : Hid (es.take (k + 1) = es.take k) := by show _ = _; rw [List.take_of_length_le (by omega), List.take_of_length_le (by omega)]
        obtain ⟨a, cp, hv⟩ := hown.form
        subst hv
        have HB1 : Hid (Below w.heap.size w (wr.alloc (.cells #[.int .u8 ev.k, .int .u8 ev.t, .int .u8 ev.a, .int .i32 ev.v, .int .i32 ev.s] 71))) := hnx.alloc (by omega) _
        have HO1 : Hid (Own (wr.alloc (.cells #[.int .u8 ev.k, .int .u8 ev.t, .int .u8 ev.a, .int .i32 ev.v, .int .i32 ev.s] 71)) w.heap.size (.slice a (es.take k).length cp) (es.take k)) := hown.below ((Below.refl _ _).alloc (Nat.le_refl _) _)
        clear hown
        go_wp2_with fail
        go_roundw
        case rel => exact ⟨k + 1, by omega, by go_num, by rw [HN.out]; exact HO1.out, HB1.out⟩
        case measure => simp [intOf]; omega
    · have hge : ¬ (k : Int) < 60 := by omega
      rw [List.take_of_length_le (show es.length ≤ k by omega)] at hown
      obtain ⟨a, cp, hv⟩ := hown.form
      subst hv
      have HO1 := hidIt hown
      clear hown
      go_wp2_with fail
      go_ret
      exact ⟨_, rfl, HO1.out, hnx⟩

end Go.Proofs.Ytfdalbmopaemgab
