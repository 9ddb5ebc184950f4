import Derived.Test.YtfdalbmopaemgabGreatDoorZG5
namespace Go.Proofs.YtfdalbmopaemgabGreatDoor
open Go.RowKit

set_option maxRecDepth 100000 in
set_option maxHeartbeats 4000000 in
theorem hreplay_any (a : Option Addr) (c : Nat) (es : List Ev) (w : World) (hs : SlEv w (.slice a es.length c) es) (hok : ∀ e ∈ es, e.Ok) (hm : es.length ≤ 1048576) :
    Calls Tryz.prog 51 #[.slice a es.length c] w (RePost w es) := by
  have HS := hidIt hs
  have HOK := hidIt hok
  have hbx := (Below.refl w.heap.size w).alloc (Nat.le_refl _) (.cells #[.int .i32 0, .int .i32 0, .int .i32 0, .int .i32 0] 72)
  have HV0 := hidIt (vat_new w 72)
  have HCH := hidIt (hcheck_any a c es _ (hs.below hbx) hok hm)
  clear hs hok
  obtain ⟨⟨pe, pp⟩, hpe⟩ : ∃ x, checkG [] es = x := ⟨_, rfl⟩
  have HPE := hidIt hpe
  clear hpe
  go_enter Tryz.func51, Tryz.ntmps51
  go_wp2_with fail
  refine HCH.out.mono ?_
  rintro r w1 ⟨rfl, hb1⟩
  rw [HPE.out]
  simp only
  have HV1 := hidIt (HV0.out.below hb1)
  have hb1' := hbx.trans (hb1.mono hbx.size)
  have hz1 := HV1.out.lt
  have q0 := HV1.out.cell 0 (by omega)
  have q1 := HV1.out.cell 1 (by omega)
  have q2 := HV1.out.cell 2 (by omega)
  have q3 := HV1.out.cell 3 (by omega)
  have f0 := HV1.out.fz
  cases h0 : (pe == 0) with
  | false =>
    have h0n : (pe != 0) = true := by simp [bne, h0]
    have HN : Hid (replayG es = (0, fun _ => 0, pe)) := by show _ = _; unfold replayG; rw [HPE.out, if_neg (by simpa using h0)]
    clear h0
    go_wp2_with fail
    exact bodyPost_ret (v := .tuple #[.int .i64 0, .agg #[.int .i32 0, .int .i32 0, .int .i32 0, .int .i32 0], .int .i64 pe]) (by simp [results, Tryz.results51, go_sem, q0, q1, q2, q3]) rfl ⟨by rw [HN.out], set4_below hb1' _ (Nat.le_refl _) _ _ _ _⟩
  | true =>
    have h0n : (pe != 0) = false := by simp [bne, h0]
    have hpe0 : pe = 0 := by simpa using h0
    have hck : (checkG [] es).1 = 0 := by rw [HPE.out]; exact hpe0
    have HPO := hidIt (playOrder_any a c es (w1.alloc (.cells #[.int .i32 0, .int .i32 0, .int .i32 0, .int .i32 0] 72)) (HS.out.below (hb1'.alloc hb1'.size _)) HOK.out hck)
    have HRG : Hid (replayG es = ((playL es (fun _ => 0) (orderL es)).1, (playL es (fun _ => 0) (orderL es)).2, 0)) := by show _ = _; unfold replayG; rw [if_pos hck]
    obtain ⟨T, W, hgi, hordW⟩ := gi_all HOK.out hck
    have HPL : Hid (∀ p ∈ orderL es, Played es es.length p) := fun p hp => by rw [hordW] at hp; exact hgi.pl 0 p hp
    have HOL : Hid ((orderL es).length ≤ 60) := by show _ ≤ _; have h6 := check_len hck; have h7 := hgi.bound 0; rw [hordW]; omega
    clear h0 hpe0 hck hgi hordW
    go_wp2_with fail
    refine HPO.out.mono ?_
    rintro r w2 ⟨ov, rfl, hown2, hb2⟩
    clear HPO
    obtain ⟨ord, hord⟩ : ∃ ord, orderL es = ord := ⟨_, rfl⟩
    rw [hord] at hown2 HPL HRG HOL
    clear hord
    have hol := HOL.out
    obtain ⟨oa, oc, rfl⟩ := ownsRow_form hown2
    have hb2x : Below w.heap.size w (w1.alloc (.cells #[.int .i32 0, .int .i32 0, .int .i32 0, .int .i32 0] 72)) := hb1'.alloc hb1'.size _
    have HB2 := hidIt (hb2x.trans (hb2.mono hb2x.size))
    have HVR := hidIt ((HV1.out.below ((Below.refl _ _).alloc (Nat.le_refl _) _)).below hb2)
    have HVV := hidIt ((vat_new w1 72).below hb2)
    have HOWN := hidIt hown2
    have hz2 : w1.heap.size < w2.heap.size := by have := hb2.size; simp at this; omega
    clear hown2 hb2 hb2x q0 q1 q2 q3 f0
    go_wp2_with fail
    go_loopw [25] (fun i wr => ∃ j : Nat, j ≤ ord.length ∧ i = .int .i64 j ∧ RpLoop w2 w1.heap.size es ord j wr) (fun i _ => ord.length - (intOf i).toNat)
    case atStart => exact ⟨0, by omega, rfl, _, HVV.out, ExB.refl _ _, rfl⟩
    case round =>
      clear HVV
      obtain ⟨j, hj, rfl, V, hva, hex, hpl⟩ := hrel
      have hzr : w2.heap.size ≤ wr.heap.size := hex.below.size
      have HBR : Hid (Below w.heap.size w wr) := HB2.out.trans (hex.below.mono (by omega))
      have HVRR : Hid (VAt wr w.heap.size fun _ => 0) := HVR.out.of_heap (hex.rest _ (by omega) HVR.out.lt) hzr
      have q0 := HVRR.out.cell 0 (by omega)
      have q1 := HVRR.out.cell 1 (by omega)
      have q2 := HVRR.out.cell 2 (by omega)
      have q3 := HVRR.out.cell 3 (by omega)
      have f0 := HVRR.out.fz
      have v0 := hva.cell 0 (by omega)
      have v1 := hva.cell 1 (by omega)
      have v2 := hva.cell 2 (by omega)
      have v3 := hva.cell 3 (by omega)
      have f1 := hva.fz
      have hzw : w.heap.size < wr.heap.size := by omega
      have hzv : w1.heap.size < wr.heap.size := by omega
      have HVA := hidIt hva
      have HEX := hidIt hex
      have HPY := hidIt hpl
      clear hva hex hpl
      by_cases hlt : j < ord.length
      · have hlt' : (j : Int) < (ord.length : Int) := by omega
        have hj0 : (0 : Int) ≤ (j : Int) := by omega
        have hownr := ownsRow_of_heap HOWN.out (w' := wr) fun g hg => HEX.out.rest g (by have := (World.ownsRow.lt HOWN.out g hg).1; simp at this; omega) (World.ownsRow.lt HOWN.out g hg).2
        obtain ⟨g, rfl, hg1, hg2, gc⟩ := own_at hownr j hlt
        obtain ⟨p, hp⟩ : ∃ p, ord[j] = p := ⟨_, rfl⟩
        rw [hp] at gc
        obtain ⟨hpl, e, he, hoe, hea⟩ := HPL.out p (by rw [← hp]; exact List.getElem_mem _)
        have hpl' : (p : Int) < (es.length : Int) := by omega
        have hp0 : (0 : Int) ≤ (p : Int) := by omega
        have HSR := hidIt (HS.out.below HBR.out)
        obtain ⟨bb, off, rfl, hbw, g0, g1, g2, g3, g4⟩ := HSR.out.at_ p hpl
        obtain ⟨kk, tt, aa, vv, ss, hev, hk0', hk1', ht', ha'⟩ := ev_nat es[p] (HOK.out _ (List.getElem_mem _))
        have hee : e = ⟨kk, (tt : Int), (aa : Int), vv, ss⟩ := by rw [List.getElem?_eq_getElem hpl, hev] at he; exact (Option.some.inj he).symm
        subst hee
        rw [hev] at g0 g1 g2 g3 g4
        simp only at hoe hea
        have ha4 : aa < 4 := by omega
        have ha4' : (aa : Int) < 4 := by omega
        have va := HVA.out.cell aa ha4
        have HSTOP := hidIt (play_stop (V := V) hlt hp he)
        have HGO := hidIt (play_on (V := V) hlt hp he)
        simp only [Int.toNat_natCast] at HSTOP HGO
        have hbe : Below wr.heap.size wr (wr.alloc (.cells #[.int .u8 kk, .int .u8 (tt : Int), .int .u8 (aa : Int), .int .i32 vv, .int .i32 ss] 45)) := (Below.refl _ _).alloc (Nat.le_refl _) _
        have HVE := hidIt (HVA.out.below hbe)
        have HEE := hidIt (HEX.out.more hbe (by omega))
        have HBE : Hid (Below w.heap.size w (wr.alloc (.cells #[.int .u8 kk, .int .u8 (tt : Int), .int .u8 (aa : Int), .int .i32 vv, .int .i32 ss] 45))) := HBR.out.trans (hbe.mono (by omega))
        clear hownr hp he hev hoe hea hbe
        cases hns : nSeen kk with
        | false =>
          have HNS := hidIt hns
          have HN : Hid (playL es (fun _ => 0) ord = playL es (upd V aa (becL ⟨kk, (tt : Int), (aa : Int), vv, ss⟩)) (ord.drop (j + 1))) := HPY.out.trans (HGO.out (fun q => by rw [HNS.out] at q; exact absurd q.1 (by decide)))
          clear hns
          go_wp2_with fail
          go_quiet ((go_at_call 80; exact Calls.quiet_of_same (ns_is kk false _ HNS.out)))
          go_wp2_with fail
          go_region_with (go_at_call 81; refine (becomes_r kk (tt : Int) (aa : Int) vv ss _).mono ?_; rintro r w4 ⟨rfl, hb4, hc4⟩; have y2 : w4.cell? ⟨wr.heap.size, 2, none⟩ = some (.int .u8 (aa : Int)) := (by rw [hc4 _ _ (by simp)]; simp [go_sem]); have HV4 := hidIt ((HVE.out.drewN nq).drew.below hb4); have HE4 := hidIt ((HEE.out.drewN nq).drew.more hb4 (by simp; omega)); have z1 := HV4.out.cell aa ha4; have z2 := HV4.out.fz aa; clear hc4)
          all_goals
            go_wp2_with fail
            go_roundw
            case rel => exact ⟨j + 1, by omega, by go_num, _, HV4.out.set aa ha4 _, HE4.out.set _ _, HN.out⟩
            case measure => simp [intOf]; omega
        | true =>
          have HNS := hidIt hns
          clear hns
          cases hse : (V aa == ss) with
          | true =>
            have hsn : (V aa != ss) = false := by simp [bne, hse]
            have HN : Hid (playL es (fun _ => 0) ord = playL es (upd V aa (becL ⟨kk, (tt : Int), (aa : Int), vv, ss⟩)) (ord.drop (j + 1))) := HPY.out.trans (HGO.out (fun q => q.2 (by simpa using hse)))
            clear hse
            go_wp2_with fail
            go_quiet ((go_at_call 80; exact Calls.quiet_of_same (ns_is kk true _ HNS.out)))
            go_wp2_with fail
            go_region_with (go_at_call 81; refine (becomes_r kk (tt : Int) (aa : Int) vv ss _).mono ?_; rintro r w4 ⟨rfl, hb4, hc4⟩; have y2 : w4.cell? ⟨wr.heap.size, 2, none⟩ = some (.int .u8 (aa : Int)) := (by rw [hc4 _ _ (by simp)]; simp [go_sem]); have HV4 := hidIt ((HVE.out.drewN nq).drew.below hb4); have HE4 := hidIt ((HEE.out.drewN nq).drew.more hb4 (by simp; omega)); have z1 := HV4.out.cell aa ha4; have z2 := HV4.out.fz aa; clear hc4)
            all_goals
              go_wp2_with fail
              go_roundw
              case rel => exact ⟨j + 1, by omega, by go_num, _, HV4.out.set aa ha4 _, HE4.out.set _ _, HN.out⟩
              case measure => simp [intOf]; omega
          | false =>
            have hsn : (V aa != ss) = true := by simp [bne, hse]
            have HN : Hid (replayG es = ((p : Int), V, 0)) := by show _ = _; rw [HRG.out, HPY.out, HSTOP.out ⟨HNS.out, by simpa using hse⟩]
            clear hse
            go_wp2_with fail
            go_quiet ((go_at_call 80; exact Calls.quiet_of_same (ns_is kk true _ HNS.out)))
            go_wp2_with fail
            go_region
            all_goals (try go_wp2_with fail)
            all_goals exact bodyPost_ret (v := .tuple #[.int .i64 (p : Int), valsV V, .int .i64 0]) (by simp [results, Tryz.results51, go_sem, q0, q1, q2, q3, hzw]) rfl ⟨by rw [HN.out], set4_below (below_drewN (below_drewN HBE.out nq) 1) _ (Nat.le_refl _) _ _ _ _⟩
      · have hge : ¬ (j : Int) < (ord.length : Int) := by omega
        have HN : Hid (replayG es = (-1, V, 0)) := by show _ = _; rw [HRG.out, HPY.out, List.drop_eq_nil_of_le (by omega)]; rfl
        go_wp2_with fail
        go_region
        all_goals (try go_wp2_with fail)
        all_goals exact bodyPost_ret (v := .tuple #[.int .i64 (-1), valsV V, .int .i64 0]) (by simp [results, Tryz.results51, go_sem, q0, q1, q2, q3]) rfl ⟨by rw [HN.out], set4_below (below_drewN HBR.out 1) _ (Nat.le_refl _) _ _ _ _⟩

set_option maxHeartbeats 400000 in
theorem replay_all (v : Value) (es : List Ev) (w : World) (hs : SlEv w v es) (hok : ∀ e ∈ es, e.Ok) (hm : es.length ≤ 1048576) :
    Calls Tryz.prog 28 #[v] w (RePost w es) := by
  obtain ⟨a, c, rfl⟩ := slice_form hs
  have hbx := (Below.refl w.heap.size w).alloc (Nat.le_refl _) (.cells #[.int .i32 0, .int .i32 0, .int .i32 0, .int .i32 0] 72)
  have HV0 := hidIt (vat_new w 72)
  have HC := hidIt (hreplay_any a c es _ (hs.below hbx) hok hm)
  clear hs hok
  obtain ⟨⟨rp, rv, re⟩, hrg⟩ : ∃ x, replayG es = x := ⟨_, rfl⟩
  have HRG := hidIt hrg
  clear hrg
  go_enter Tryz.func28, Tryz.ntmps28
  go_wp2_with fail
  refine HC.out.mono ?_
  rintro r w1 ⟨rfl, hb1⟩
  rw [HRG.out]
  simp only
  have HV1 := hidIt (HV0.out.below hb1)
  have HB : Hid (Below w.heap.size w w1) := hbx.trans (hb1.mono hbx.size)
  have hz1 := HV1.out.lt
  have q0 := HV1.out.cell 0 (by omega)
  have q1 := HV1.out.cell 1 (by omega)
  have q2 := HV1.out.cell 2 (by omega)
  have q3 := HV1.out.cell 3 (by omega)
  have f0 := HV1.out.fz
  go_wp2_with fail
  exact bodyPost_ret (v := .tuple #[.int .i64 rp, valsV rv, .int .i64 re]) (by simp [results, Tryz.results28, go_sem, q0, q1, q2, q3]) rfl ⟨by rw [HRG.out], set4_below HB.out _ (Nat.le_refl _) _ _ _ _⟩

end Go.Proofs.YtfdalbmopaemgabGreatDoor

namespace Go.Proofs.YtfdalbmopaemgabGreatDoor
open Go.RowKit

/-! ### The document's own playing -/
structure AgAt (w : World) (b : Nat) (hv : Value) (V : Nat → Int) (r : Int) : Prop where
  h : w.cell? ⟨b, 0, none⟩ = some hv
  cell : ∀ i, i < 4 → w.cell? ⟨b, 1 + i, none⟩ = some (.int .i32 (V i))
  wrong : w.cell? ⟨b, 5, none⟩ = some (.int .i64 r)
  fz : ∀ o, w.frozen? ⟨b, o, none⟩ = false
  lt : b < w.heap.size

theorem AgAt.of_heap {w w' : World} {b : Nat} {hv : Value} {V : Nat → Int} {r : Int} (h : AgAt w b hv V r) (hh : w'.heap[b]? = w.heap[b]?) (hz : w.heap.size ≤ w'.heap.size) : AgAt w' b hv V r :=
  ⟨by rw [World.cell?_of_block (a := ⟨b, _, none⟩) hh]; exact h.h, fun i hi => by rw [World.cell?_of_block (a := ⟨b, _, none⟩) hh]; exact h.cell i hi, by rw [World.cell?_of_block (a := ⟨b, _, none⟩) hh]; exact h.wrong,
   fun o => by rw [World.frozen?_of_block (a := ⟨b, _, none⟩) hh]; exact h.fz o, Nat.lt_of_lt_of_le h.lt hz⟩

theorem AgAt.below {w w' : World} {b : Nat} {hv : Value} {V : Nat → Int} {r : Int} (h : AgAt w b hv V r) (hb : Below w.heap.size w w') : AgAt w' b hv V r := h.of_heap (hb.block b h.lt) hb.size
theorem AgAt.drew {w : World} {b : Nat} {hv : Value} {V : Nat → Int} {r : Int} (h : AgAt w b hv V r) : AgAt w.drew b hv V r := ⟨h.h, h.cell, h.wrong, h.fz, h.lt⟩
theorem AgAt.drewN {w : World} {b : Nat} {hv : Value} {V : Nat → Int} {r : Int} (h : AgAt w b hv V r) (n : Nat) : AgAt (w.drewN n) b hv V r := ⟨h.h, h.cell, h.wrong, h.fz, h.lt⟩

theorem AgAt.set {w : World} {b : Nat} {hv : Value} {V : Nat → Int} {r : Int} (h : AgAt w b hv V r) (i : Nat) (hi : i < 4) (v : Int) : AgAt (w.setCell ⟨b, 1 + i, none⟩ (.int .i32 v)) b hv (upd V i v) r := by
  have ho : ∀ j, j ≠ 1 + i → (w.setCell ⟨b, 1 + i, none⟩ (.int .i32 v)).cell? ⟨b, j, none⟩ = w.cell? ⟨b, j, none⟩ := fun j hj => World.cell?_setCell_other _ _ _ _ (by intro e; injection e with _ e2 _; exact hj e2.symm)
  refine ⟨by rw [ho _ (by omega)]; exact h.h, fun j hj => ?_, by rw [ho _ (by omega)]; exact h.wrong, fun o => by rw [World.frozen?_setCell]; exact h.fz o, by simpa using h.lt⟩
  unfold upd
  by_cases e : j = i
  · subst e
    rw [if_pos rfl]
    exact World.cell?_setCell_same _ _ _ (h.cell j hj)
  · rw [if_neg e, ho _ (by omega)]
    exact h.cell j hj

theorem AgAt.setWrong {w : World} {b : Nat} {hv : Value} {V : Nat → Int} {r : Int} (h : AgAt w b hv V r) (r' : Int) : AgAt (w.setCell ⟨b, 5, none⟩ (.int .i64 r')) b hv V r' := by
  have ho : ∀ j, j ≠ 5 → (w.setCell ⟨b, 5, none⟩ (.int .i64 r')).cell? ⟨b, j, none⟩ = w.cell? ⟨b, j, none⟩ := fun j hj => World.cell?_setCell_other _ _ _ _ (by intro e; injection e with _ e2 _; exact hj e2.symm)
  exact ⟨by rw [ho _ (by omega)]; exact h.h, fun j hj => by rw [ho _ (by omega)]; exact h.cell j hj, World.cell?_setCell_same _ _ _ h.wrong, fun o => by rw [World.frozen?_setCell]; exact h.fz o, by simpa using h.lt⟩

def AgPost (w : World) (b : Nat) (hv : Value) (x : Int × (Nat → Int)) (r : Ending) (w' : World) : Prop := r = .returned (.tuple #[]) ∧ AgAt w' b hv x.2 x.1 ∧ ExB w w' b

theorem upd_same {α : Type} (f : Nat → α) (i : Nat) (v : α) (h : f i = v) : upd f i v = f := by
  funext j
  unfold upd
  by_cases e : j = i
  · rw [if_pos e, e, h]
  · rw [if_neg e]

theorem play_one {es : List Ev} {V : Nat → Int} {p : Nat} {e : Ev} (he : es[p]? = some e) : playL es V [p] = if nSeen e.k = true ∧ V e.a.toNat ≠ e.s then ((p : Int), V) else (-1, upd V e.a.toNat (becL e)) := by
  rw [playL, he]
  simp only [playL]

set_option maxRecDepth 100000 in
set_option maxHeartbeats 4000000 in
theorem access_any (bb off c b : Nat) (es : List Ev) (i : Nat) (V : Nat → Int) (w : World) (hs : SlEv w (.slice (some ⟨bb, off, none⟩) es.length c) es) (hi : i < es.length) (hok : es[i].Ok) (hobj : onObj es[i].k = true) (ha4 : es[i].a < 4) (hag : AgAt w b (.slice (some ⟨bb, off, none⟩) es.length c) V (-1)) :
    Calls Tryz.prog 82 #[.pointer (some ⟨b, 0, none⟩), .int .i64 (i : Int)] w (AgPost w b (.slice (some ⟨bb, off, none⟩) es.length c) (playL es V [i])) := by
  have hi' : (i : Int) < (es.length : Int) := by omega
  have hi0 : (0 : Int) ≤ (i : Int) := by omega
  obtain ⟨bb', off', hbb, hbw, g0, g1, g2, g3, g4⟩ := hs.at_ i hi
  simp only [Option.some.injEq, Addr.mk.injEq] at hbb
  obtain ⟨rfl, rfl, _⟩ := hbb
  have HP1 := hidIt (play_one (V := V) (List.getElem?_eq_getElem hi))
  obtain ⟨kk, tt, aa, vv, ss, hev, hk0', hk1', ht', ha'⟩ := ev_nat es[i] hok
  rw [hev] at g0 g1 g2 g3 g4 hobj ha4 HP1
  simp only [Int.toNat_natCast] at hobj ha4 HP1
  have hr := onObj_iff.1 hobj
  have ha4' : aa < 4 := by omega
  have hcell := hag.cell aa ha4'
  have hh := hag.h
  have hwr := hag.wrong
  have hfz := hag.fz
  have hlt := hag.lt
  have hbe : Below w.heap.size w (w.alloc (.cells #[.int .u8 kk, .int .u8 (tt : Int), .int .u8 (aa : Int), .int .i32 vv, .int .i32 ss] 45)) := (Below.refl _ _).alloc (Nat.le_refl _) _
  have HAE := hidIt (hag.below hbe)
  have HEE := hidIt ((ExB.refl w b).more hbe (Nat.le_of_lt hlt))
  clear hs hok hev hag hobj hbe ha'
  have hkk : kk = 2 ∨ kk = 3 ∨ kk = 4 := by omega
  clear hr hk0' hk1'
  rcases hkk with rfl | rfl | rfl
  · cases hse : (V aa == ss) with
    | true =>
      have hsn : (V aa != ss) = false := by simp [bne, hse]
      have HN : Hid (playL es V [i] = (-1, V)) := by show _ = _; rw [HP1.out, if_neg (fun q => q.2 (by simpa using hse)), upd_same]; simp [becL]; simpa using hse
      clear hse
      go_enter Tryz.func82, Tryz.ntmps82
      go_wp2_with fail
      go_quiet (fail)
      go_wp2_with fail
      go_end0
      exact ⟨rfl, by rw [HN.out]; exact HAE.out.drewN _, HEE.out.drewN _⟩
    | false =>
      have hsn : (V aa != ss) = true := by simp [bne, hse]
      have HN : Hid (playL es V [i] = ((i : Int), V)) := by show _ = _; rw [HP1.out, if_pos ⟨rfl, by simpa using hse⟩]
      clear hse
      go_enter Tryz.func82, Tryz.ntmps82
      go_wp2_with fail
      go_quiet (fail)
      go_wp2_with fail
      go_end0
      exact ⟨rfl, by rw [HN.out]; exact (HAE.out.drewN _).setWrong _, (HEE.out.drewN _).set _ _⟩
  · have HN : Hid (playL es V [i] = (-1, upd V aa vv)) := by show _ = _; rw [HP1.out, if_neg (fun q => absurd q.1 (by decide))]; simp [becL]
    go_enter Tryz.func82, Tryz.ntmps82
    go_wp2_with fail
    go_quiet (fail)
    go_wp2_with fail
    go_region
    go_wp2_with fail
    go_end0
    exact ⟨rfl, by rw [HN.out]; exact (HAE.out.drewN _).drew.set aa ha4' _, (HEE.out.drewN _).drew.set _ _⟩
  · cases hse : (V aa == ss) with
    | true =>
      have hsn : (V aa != ss) = false := by simp [bne, hse]
      have HN : Hid (playL es V [i] = (-1, upd V aa (wrap32 (ss + vv)))) := by show _ = _; rw [HP1.out, if_neg (fun q => q.2 (by simpa using hse))]; simp [becL]
      clear hse
      go_enter Tryz.func82, Tryz.ntmps82
      go_wp2_with fail
      go_quiet (fail)
      go_wp2_with fail
      go_region
      go_wp2_with fail
      go_end0
      exact ⟨rfl, by rw [HN.out]; exact (HAE.out.drewN _).drew.set aa ha4' _, (HEE.out.drewN _).drew.set _ _⟩
    | false =>
      have hsn : (V aa != ss) = true := by simp [bne, hse]
      have HN : Hid (playL es V [i] = ((i : Int), V)) := by show _ = _; rw [HP1.out, if_pos ⟨rfl, by simpa using hse⟩]
      clear hse
      go_enter Tryz.func82, Tryz.ntmps82
      go_wp2_with fail
      go_quiet (fail)
      go_wp2_with fail
      go_end0
      exact ⟨rfl, by rw [HN.out]; exact (HAE.out.drewN _).setWrong _, (HEE.out.drewN _).set _ _⟩

end Go.Proofs.YtfdalbmopaemgabGreatDoor
