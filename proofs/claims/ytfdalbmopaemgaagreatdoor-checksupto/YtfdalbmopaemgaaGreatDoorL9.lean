import Derived.Test.YtfdalbmopaemgaaGreatDoorK9
namespace Go.Proofs.YtfdalbmopaemgaaGreatDoor
open Go.RowKit

set_option maxRecDepth 100000 in
set_option maxHeartbeats 2000000 in
theorem checked_any (B wb : Nat) (hv : Value) (hs : List (Value × Int)) (o : OpD) (es : List Ev) (w : World) (h : Inv w B wb hv hs) (hop : OpOk w B o es) (hH : hs.length ≤ 10000000) :
    Calls Tryz.prog 16 #[.pointer (some ⟨wb, 0, none⟩), opV o] w (StepPost w B wb hs.length) := by
  obtain ⟨ok, on, ot, ox, ov, ohv, os⟩ := o
  obtain ⟨ha, hc, hvf⟩ := slice_form hop.sl
  simp only at hvf
  subst hvf
  have HI := hidIt h
  have HOP := hidIt hop
  have hlen := hop.len
  have hcap : es.length ≤ hc := hop.cap _ _ _ rfl
  have hBw : B ≤ w.heap.size := Nat.le_trans h.base (Nat.le_of_lt h.wb_lt)
  have hbx := (Below.refl w.heap.size w).alloc (Nat.le_refl _) (opC ⟨ok, on, ot, ox, ov, .slice ha es.length hc, os⟩)
  clear h hop
  have hl0 : (0 : Int) ≤ (es.length : Int) := by omega
  have hl1 : (es.length : Int) ≤ ((es.length + 8 : Nat) : Int) := by omega
  go_enter Tryz.func16, Tryz.ntmps16
  go_wp2_with fail
  refine (handed_any _ es _ (HOP.out.sl.below hbx) hlen).mono ?_
  rintro r w1 ⟨g, rfl, hg, hrow, hb1⟩
  have hb1' : Below w.heap.size w w1 := hbx.trans (hb1.mono (by simp))
  obtain ⟨z0, z5, z6⟩ := bcell7 hb1 (by simp) rfl
  have hz1 : w.heap.size < w1.heap.size := by have := hb1.size; simp at this; omega
  go_wp2_with fail
  refine (check_all _ es _ (Row.prefix hrow).slEv HOP.out.ok hlen).mono ?_
  rintro r w2 ⟨rfl, hb2⟩
  obtain ⟨⟨pe, pp⟩, hpe⟩ : ∃ x, checkG [] es = x := ⟨_, rfl⟩
  have HPE := hidIt hpe
  rw [hpe]
  simp only
  clear hpe
  have y5 : w2.cell? ⟨w.heap.size, 5, none⟩ = some (.slice ha es.length hc) := by rw [bcells hb2 _ _ hz1]; exact z5
  have hb2' : Below w.heap.size w w2 := hb1'.trans (hb2.mono hb1'.size)
  clear z0 z5 z6
  go_wp2_with fail
  refine (refCheck ha hc es _ (HOP.out.sl.below hb2') HOP.out.ok hlen hcap).mono ?_
  rintro r w3 ⟨rfl, hb3⟩
  rw [HPE.out]
  simp only
  have hz2 : w.heap.size < w2.heap.size := Nat.lt_of_lt_of_le hz1 hb2.size
  have x5 : w3.cell? ⟨w.heap.size, 5, none⟩ = some (.slice ha es.length hc) := by rw [bcells hb3 _ _ hz2]; exact y5
  have hb3' : Below w.heap.size w w3 := hb2'.trans (hb3.mono hb2'.size)
  have hrow3 : Row w3 g (es.length + 8) (es ++ List.replicate 8 byEv) := (hrow.below hb2 hrow.lt).below hb3 (Nat.lt_of_lt_of_le hrow.lt hb2.size)
  clear y5
  go_wp2_with fail
  refine (still_any _ es g _ (HOP.out.sl.below hb3') hlen hrow3).mono ?_
  rintro r w4 ⟨rfl, hb4⟩
  have hb4' : Below w.heap.size w w4 := hb3'.trans (hb4.mono hb3'.size)
  have hrow4 : Row w4 g (es.length + 8) (es ++ List.replicate 8 byEv) := hrow3.below hb4 hrow3.lt
  have hgw : w.heap.size ≤ g := by simp at hg; omega
  have hlen8 : (es ++ List.replicate 8 byEv).length = es.length + 8 := by simp
  have hkeep := keep_row B wb hv hs g (es.length + 8) (es ++ List.replicate 8 byEv) w4 (HI.out.below hb4') hrow4 (Nat.le_trans hBw hgw) (by have := HI.out.wb_lt; omega) (fun e => by have := (HI.out.hv_lt g e).2; omega) (fun x hx e => by have := ((HI.out.each x hx).lt g e).2; omega) (by rw [hlen8]; omega) hH
  rw [hlen8] at hkeep
  have HK := hidIt hkeep
  clear x5 hkeep hlen8
  go_wp2_with fail
  refine HK.out.mono ?_
  rintro r w5 ⟨rfl, hv', hs', hi5, hl5, hb5⟩
  have HR := hidIt (And.intro hi5 (And.intro hl5 hb5))
  clear hi5 hl5 hb5
  go_wp2_with fail
  go_ret
  refine ⟨ret_bool (by simp), hv', hs', HR.out.1, by have := HR.out.2.1; omega, (hb4'.mono hBw).trans HR.out.2.2⟩

set_option maxRecDepth 100000 in
set_option maxHeartbeats 1000000 in
theorem step_check : StepOk 3 := by
  intro B wb hv hs o es w hk h hop hH ht
  obtain ⟨ha, hc, hvf⟩ := slice_form hop.sl
  obtain ⟨ok, on, ot, ox, ov, ohv, os⟩ := o
  simp only at hk hvf
  subst hk hvf
  have hbx := (Below.refl w.heap.size w).alloc (Nat.le_refl _) (opC ⟨3, on, ot, ox, ov, .slice ha es.length hc, os⟩)
  have hBw : B ≤ w.heap.size := Nat.le_trans h.base (Nat.le_of_lt h.wb_lt)
  have HC := hidIt (checked_any B wb hv hs ⟨3, on, ot, ox, ov, .slice ha es.length hc, os⟩ es _ (h.below hbx) (hop.stay (hbx.mono hBw)) hH)
  clear h hop
  go_enter Tryz.func11, Tryz.ntmps11
  go_wp2_with fail
  refine HC.out.mono ?_
  rintro r w1 ⟨rfl, hv', hs', h1, h2, h3⟩
  have HR := hidIt (And.intro h1 (And.intro h2 h3))
  clear h1 h2 h3
  go_wp2_with fail
  go_ret
  exact ⟨rfl, hv', hs', HR.out.1, HR.out.2.1, (hbx.mono hBw).trans HR.out.2.2⟩

set_option maxHeartbeats 400000 in
theorem checks_walk (v : Value) (ds : List OpD) (w : World) (hs : SlOp w v ds) (hok : ∀ d ∈ ds, ∃ es, OpOk w w.heap.size d es) (hmax : ds.length ≤ 1048576) (ht : Tab w) :
    Calls Tryz.prog 5 #[v] w fun r w' => r = .returned (.bool true) ∧ Below w.heap.size w w' := by
  have HC := hidIt (upTo_all 3 (by decide) (by decide) step_check v ds w hs hok hmax ht)
  clear hs hok
  go_enter Tryz.func5, Tryz.ntmps5
  go_wp2_with fail
  refine HC.out.mono ?_
  rintro r w1 ⟨rfl, hb⟩
  go_wp2_with fail
  go_ret
  exact ⟨rfl, hb⟩

end Go.Proofs.YtfdalbmopaemgaaGreatDoor
