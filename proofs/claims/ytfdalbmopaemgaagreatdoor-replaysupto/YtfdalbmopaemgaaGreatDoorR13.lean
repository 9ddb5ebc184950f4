import Derived.Test.YtfdalbmopaemgaaGreatDoorR12
namespace Go.Proofs.YtfdalbmopaemgaaGreatDoor
open Go.RowKit

theorem ag_new (w : World) (T : TypeId) (hv : Value) : AgAt (w.alloc (.cells #[hv, .int .i32 0, .int .i32 0, .int .i32 0, .int .i32 0, .int .i64 (-1)] T)) w.heap.size hv (fun _ => 0) (-1) := by
  refine ⟨by simp [go_sem], fun i hi => ?_, by simp [go_sem], fun o => by simp [go_sem], by simp⟩
  have hc : i = 0 ∨ i = 1 ∨ i = 2 ∨ i = 3 := by omega
  rcases hc with rfl | rfl | rfl | rfl <;> simp [go_sem]

set_option maxRecDepth 100000 in
set_option maxHeartbeats 4000000 in
theorem refReplay (a : Option Addr) (c : Nat) (es : List Ev) (w : World) (hs : SlEv w (.slice a es.length c) es) (hok : ∀ e ∈ es, e.Ok) (hm : es.length ≤ 1048576) (hcap : es.length ≤ c) :
    Calls Tryz.prog 34 #[.slice a es.length c] w (RePost w es) := by
  have HS := hidIt hs
  have HOK := hidIt hok
  have hbx := (Below.refl w.heap.size w).alloc (Nat.le_refl _) (.cells #[.int .i32 0, .int .i32 0, .int .i32 0, .int .i32 0] 58)
  have HV0 := hidIt (vat_new w 58)
  have HCH := hidIt (refCheck a c es _ (hs.below hbx) hok hm hcap)
  clear hs hok
  obtain ⟨⟨pe, pp⟩, hpe⟩ : ∃ x, checkG [] es = x := ⟨_, rfl⟩
  have HPE := hidIt hpe
  clear hpe
  go_enter Tryz.func34, Tryz.ntmps34
  go_wp2_with fail
  refine HCH.out.mono ?_
  rintro r w1 ⟨rfl, hb1⟩
  rw [HPE.out]
  simp only
  have HV1 := hidIt (HV0.out.below hb1)
  have hb1' := hbx.trans (hb1.mono hbx.size)
  have hz1 := HV1.out.lt
  have q0 := HV1.out.cell 0 (by omega)
  have q1 := HV1.out.cell 1 (by omega)
  have q2 := HV1.out.cell 2 (by omega)
  have q3 := HV1.out.cell 3 (by omega)
  have f0 := HV1.out.fz
  cases h0 : (pe == 0) with
  | false =>
    have h0n : (pe != 0) = true := by simp [bne, h0]
    have HN : Hid (replayG es = (0, fun _ => 0, pe)) := by show _ = _; unfold replayG; rw [HPE.out, if_neg (by simpa using h0)]
    clear h0
    go_wp2_with fail
    exact bodyPost_ret (v := .tuple #[.int .i64 0, .agg #[.int .i32 0, .int .i32 0, .int .i32 0, .int .i32 0], .int .i64 pe]) (by simp [results, Tryz.results34, go_sem, q0, q1, q2, q3]) rfl ⟨by rw [HN.out], set4_below hb1' _ (Nat.le_refl _) _ _ _ _⟩
  | true =>
    have h0n : (pe != 0) = false := by simp [bne, h0]
    have hpe0 : pe = 0 := by simpa using h0
    have hck : (checkG [] es).1 = 0 := by rw [HPE.out]; exact hpe0
    obtain ⟨T, W, hgi, hordW⟩ := gi_all HOK.out hck
    have hba : Below w1.heap.size w1 (w1.alloc (.cells #[.slice a es.length c, .int .i32 0, .int .i32 0, .int .i32 0, .int .i32 0, .int .i64 (-1)] 100)) := (Below.refl _ _).alloc (Nat.le_refl _) _
    have HPL := hidIt (refPlay es T W HOK.out hck hgi a c w1 (HS.out.below hb1') w1.heap.size (Nat.le_refl _) 16 0 (by omega) (by omega) (fun _ => 0) _ hba (ag_new w1 100 _))
    have HRG : Hid (replayG es = ((playL es (fun _ => 0) (W 0)).1, (playL es (fun _ => 0) (W 0)).2, 0)) := by show _ = _; unfold replayG; rw [if_pos hck, hordW]
    have HBA : Hid (Below w.heap.size w (w1.alloc (.cells #[.slice a es.length c, .int .i32 0, .int .i32 0, .int .i32 0, .int .i32 0, .int .i64 (-1)] 100))) := hb1'.trans (hba.mono (Nat.le_of_lt hz1))
    have HVA := hidIt (HV1.out.below hba)
    clear h0 hpe0 hck hgi hordW hba q0 q1 q2 q3 f0
    go_wp2_with fail
    refine HPL.out.mono ?_
    rintro r w4 ⟨rfl, ha4, he4⟩
    obtain ⟨⟨rp, rv⟩, hrp⟩ : ∃ x, playL es (fun _ => 0) (W 0) = x := ⟨_, rfl⟩
    rw [hrp] at ha4 HRG
    simp only at ha4 HRG
    clear hrp HPL
    have HV4 : Hid (VAt w4 w.heap.size fun _ => 0) := HVA.out.of_heap (he4.rest _ (by omega) HVA.out.lt) he4.below.size
    have HB4 : Hid (Below w.heap.size w w4) := HBA.out.trans (he4.below.mono (Nat.le_of_lt hz1))
    have hz4 := HV4.out.lt
    have q0 := HV4.out.cell 0 (by omega)
    have q1 := HV4.out.cell 1 (by omega)
    have q2 := HV4.out.cell 2 (by omega)
    have q3 := HV4.out.cell 3 (by omega)
    have f0 := HV4.out.fz
    have v0 := ha4.cell 0 (by omega)
    have v1 := ha4.cell 1 (by omega)
    have v2 := ha4.cell 2 (by omega)
    have v3 := ha4.cell 3 (by omega)
    have v5 := ha4.wrong
    simp only [Nat.add_zero, Nat.reduceAdd] at v0 v1 v2 v3
    clear ha4 he4
    go_wp2_with fail
    go_region
    all_goals (try go_wp2_with fail)
    all_goals exact bodyPost_ret (v := .tuple #[.int .i64 rp, valsV rv, .int .i64 0]) (by simp [results, Tryz.results34, go_sem, q0, q1, q2, q3]) rfl ⟨by rw [HRG.out], set4_below (below_drewN HB4.out 1) _ (Nat.le_refl _) _ _ _ _⟩

end Go.Proofs.YtfdalbmopaemgaaGreatDoor
