import Derived.Test.YtfdalbmopaemgabGreatDoorZK9
import Derived.Test.YtfdalbmopaemgabGreatDoorZA1
import Derived.Test.YtfdalbmopaemgabGreatDoorZL10
import Derived.Test.YtfdalbmopaemgabGreatDoorZA2
namespace Go.Proofs.YtfdalbmopaemgabGreatDoor
open Go.RowKit

set_option maxRecDepth 100000 in
set_option maxHeartbeats 2000000 in
theorem checked_any (B wb : Nat) (hv : Value) (hs : List (Value × Int)) (o : OpD) (es : List Ev) (w : World) (h : Inv w B wb hv hs) (hop : OpOk w B o es) (hH : hs.length ≤ 10000000) :
    Calls Tryz.prog 12 #[.pointer (some ⟨wb, 0, none⟩), opV o] w (StepPost w B wb hs.length) := by
  obtain ⟨ok, on, ot, ox, ov, ohv, os⟩ := o
  obtain ⟨ha, hc, hvf⟩ := slice_form hop.sl
  simp only at hvf
  subst hvf
  have HI := hidIt h
  have HOP := hidIt hop
  have hlen := hop.len
  have hcap : es.length ≤ hc := hop.cap _ _ _ rfl
  have hBw : B ≤ w.heap.size := Nat.le_trans h.base (Nat.le_of_lt h.wb_lt)
  have hbx := (Below.refl w.heap.size w).alloc (Nat.le_refl _) (opC ⟨ok, on, ot, ox, ov, .slice ha es.length hc, os⟩)
  clear h hop
  have hl0 : (0 : Int) ≤ (es.length : Int) := by omega
  have hl1 : (es.length : Int) ≤ ((es.length + 8 : Nat) : Int) := by omega
  go_enter Tryz.func12, Tryz.ntmps12
  go_wp2_with fail
  refine (handed_any _ es _ (HOP.out.sl.below hbx) hlen).mono ?_
  rintro r w1 ⟨g, rfl, hg, hrow, hb1⟩
  have hb1' : Below w.heap.size w w1 := hbx.trans (hb1.mono (by simp))
  obtain ⟨z0, z5, z6⟩ := bcell7 hb1 (by simp) rfl
  have hz1 : w.heap.size < w1.heap.size := by have := hb1.size; simp at this; omega
  go_wp2_with fail
  refine (check_all _ es _ (Row.prefix hrow).slEv HOP.out.ok hlen).mono ?_
  rintro r w2 ⟨rfl, hb2⟩
  obtain ⟨⟨pe, pp⟩, hpe⟩ : ∃ x, checkG [] es = x := ⟨_, rfl⟩
  have HPE := hidIt hpe
  rw [hpe]
  simp only
  clear hpe
  have y5 : w2.cell? ⟨w.heap.size, 5, none⟩ = some (.slice ha es.length hc) := by rw [bcells hb2 _ _ hz1]; exact z5
  have hb2' : Below w.heap.size w w2 := hb1'.trans (hb2.mono hb1'.size)
  clear z0 z5 z6
  go_wp2_with fail
  refine (refCheck ha hc es _ (HOP.out.sl.below hb2') HOP.out.ok hlen hcap).mono ?_
  rintro r w3 ⟨rfl, hb3⟩
  rw [HPE.out]
  simp only
  have hz2 : w.heap.size < w2.heap.size := Nat.lt_of_lt_of_le hz1 hb2.size
  have x5 : w3.cell? ⟨w.heap.size, 5, none⟩ = some (.slice ha es.length hc) := by rw [bcells hb3 _ _ hz2]; exact y5
  have hb3' : Below w.heap.size w w3 := hb2'.trans (hb3.mono hb2'.size)
  have hrow3 : Row w3 g (es.length + 8) (es ++ List.replicate 8 byEv) := (hrow.below hb2 hrow.lt).below hb3 (Nat.lt_of_lt_of_le hrow.lt hb2.size)
  clear y5
  go_wp2_with fail
  refine (still_any _ es g _ (HOP.out.sl.below hb3') hlen hrow3).mono ?_
  rintro r w4 ⟨rfl, hb4⟩
  have hb4' : Below w.heap.size w w4 := hb3'.trans (hb4.mono hb3'.size)
  have hrow4 : Row w4 g (es.length + 8) (es ++ List.replicate 8 byEv) := hrow3.below hb4 hrow3.lt
  have hgw : w.heap.size ≤ g := by simp at hg; omega
  have hlen8 : (es ++ List.replicate 8 byEv).length = es.length + 8 := by simp
  have hkeep := keep_row B wb hv hs g (es.length + 8) (es ++ List.replicate 8 byEv) w4 (HI.out.below hb4') hrow4 (Nat.le_trans hBw hgw) (by have := HI.out.wb_lt; omega) (fun e => by have := (HI.out.hv_lt g e).2; omega) (fun x hx e => by have := ((HI.out.each x hx).lt g e).2; omega) (by rw [hlen8]; omega) hH
  rw [hlen8] at hkeep
  have HK := hidIt hkeep
  clear x5 hkeep hlen8
  go_wp2_with fail
  refine HK.out.mono ?_
  rintro r w5 ⟨rfl, hv', hs', hi5, hl5, hb5⟩
  have HR := hidIt (And.intro hi5 (And.intro hl5 hb5))
  clear hi5 hl5 hb5
  go_wp2_with fail
  go_ret
  refine ⟨ret_bool (by simp), hv', hs', HR.out.1, by have := HR.out.2.1; omega, (hb4'.mono hBw).trans HR.out.2.2⟩

set_option maxRecDepth 100000 in
set_option maxHeartbeats 1000000 in
theorem step_check : StepOk 3 := by
  intro B wb hv hs o es w hk h hop hH ht
  obtain ⟨ha, hc, hvf⟩ := slice_form hop.sl
  obtain ⟨ok, on, ot, ox, ov, ohv, os⟩ := o
  simp only at hk hvf
  subst hk hvf
  have hbx := (Below.refl w.heap.size w).alloc (Nat.le_refl _) (opC ⟨3, on, ot, ox, ov, .slice ha es.length hc, os⟩)
  have hBw : B ≤ w.heap.size := Nat.le_trans h.base (Nat.le_of_lt h.wb_lt)
  have HC := hidIt (checked_any B wb hv hs ⟨3, on, ot, ox, ov, .slice ha es.length hc, os⟩ es _ (h.below hbx) (hop.stay (hbx.mono hBw)) hH)
  clear h hop
  go_enter Tryz.func7, Tryz.ntmps7
  go_wp2_with fail
  refine HC.out.mono ?_
  rintro r w1 ⟨rfl, hv', hs', h1, h2, h3⟩
  have HR := hidIt (And.intro h1 (And.intro h2 h3))
  clear h1 h2 h3
  go_wp2_with fail
  go_ret
  exact ⟨rfl, hv', hs', HR.out.1, HR.out.2.1, (hbx.mono hBw).trans HR.out.2.2⟩

end Go.Proofs.YtfdalbmopaemgabGreatDoor

namespace Go.Proofs.YtfdalbmopaemgabGreatDoor
open Go.RowKit

set_option maxRecDepth 100000 in
set_option maxHeartbeats 2000000 in
theorem checked_g {St : World → (Nat → Prop) → Value → List Ev → Prop} (I : StOk St) (B wb : Nat) (hv pv : Value) (hs : List (Value × Int)) (ps : List PlD) (o : OpD) (es : List Ev) (w : World) (h : GInv St w B wb hv hs pv ps) (hop : OpOk w B o es) (hH : hs.length ≤ 10000000) :
    Calls Tryz.prog 12 #[.pointer (some ⟨wb, 0, none⟩), opV o] w (SPost St w B wb hs.length ps.length) := by
  obtain ⟨ok, on, ot, ox, ov, ohv, os⟩ := o
  obtain ⟨ha, hc, hvf⟩ := slice_form hop.sl
  simp only at hvf
  subst hvf
  have HI := hidIt h
  have HOP := hidIt hop
  have hlen := hop.len
  have hcap : es.length ≤ hc := hop.cap _ _ _ rfl
  have hBw : B ≤ w.heap.size := Nat.le_trans h.inv.base (Nat.le_of_lt h.inv.wb_lt)
  have hbx := (Below.refl w.heap.size w).alloc (Nat.le_refl _) (opC ⟨ok, on, ot, ox, ov, .slice ha es.length hc, os⟩)
  clear h hop
  have hl0 : (0 : Int) ≤ (es.length : Int) := by omega
  have hl1 : (es.length : Int) ≤ ((es.length + 8 : Nat) : Int) := by omega
  go_enter Tryz.func12, Tryz.ntmps12
  go_wp2_with fail
  refine (handed_any _ es _ (HOP.out.sl.below hbx) hlen).mono ?_
  rintro r w1 ⟨g, rfl, hg, hrow, hb1⟩
  have hb1' : Below w.heap.size w w1 := hbx.trans (hb1.mono (by simp))
  obtain ⟨z0, z5, z6⟩ := bcell7 hb1 (by simp) rfl
  have hz1 : w.heap.size < w1.heap.size := by have := hb1.size; simp at this; omega
  go_wp2_with fail
  refine (check_all _ es _ (Row.prefix hrow).slEv HOP.out.ok hlen).mono ?_
  rintro r w2 ⟨rfl, hb2⟩
  obtain ⟨⟨pe, pp⟩, hpe⟩ : ∃ x, checkG [] es = x := ⟨_, rfl⟩
  have HPE := hidIt hpe
  rw [hpe]
  simp only
  clear hpe
  have y5 : w2.cell? ⟨w.heap.size, 5, none⟩ = some (.slice ha es.length hc) := by rw [bcells hb2 _ _ hz1]; exact z5
  have hb2' : Below w.heap.size w w2 := hb1'.trans (hb2.mono hb1'.size)
  clear z0 z5 z6
  go_wp2_with fail
  refine (refCheck ha hc es _ (HOP.out.sl.below hb2') HOP.out.ok hlen hcap).mono ?_
  rintro r w3 ⟨rfl, hb3⟩
  rw [HPE.out]
  simp only
  have hz2 : w.heap.size < w2.heap.size := Nat.lt_of_lt_of_le hz1 hb2.size
  have x5 : w3.cell? ⟨w.heap.size, 5, none⟩ = some (.slice ha es.length hc) := by rw [bcells hb3 _ _ hz2]; exact y5
  have hb3' : Below w.heap.size w w3 := hb2'.trans (hb3.mono hb2'.size)
  have hrow3 : Row w3 g (es.length + 8) (es ++ List.replicate 8 byEv) := (hrow.below hb2 hrow.lt).below hb3 (Nat.lt_of_lt_of_le hrow.lt hb2.size)
  clear y5
  go_wp2_with fail
  refine (still_any _ es g _ (HOP.out.sl.below hb3') hlen hrow3).mono ?_
  rintro r w4 ⟨rfl, hb4⟩
  have hb4' : Below w.heap.size w w4 := hb3'.trans (hb4.mono hb3'.size)
  have hrow4 : Row w4 g (es.length + 8) (es ++ List.replicate 8 byEv) := hrow3.below hb4 hrow3.lt
  have hgw : w.heap.size ≤ g := by simp at hg; omega
  have hlen8 : (es ++ List.replicate 8 byEv).length = es.length + 8 := by simp
  have hkeep := keep_rowP I B wb hv pv hs ps g (es.length + 8) (es ++ List.replicate 8 byEv) w4 (HI.out.below I hb4') hrow4 (Nat.le_trans hBw hgw) (by have := HI.out.inv.wb_lt; omega) (fun e => by have := (HI.out.inv.hv_lt g e).2; omega) (fun x hx e => by have := ((HI.out.inv.each x hx).lt g e).2; omega) (by rw [hlen8]; omega) hH (fun e => by have := (World.ownsRow.lt HI.out.prow g e).2; omega) (fun i hi q => by have := PlD.own_lt I (HI.out.each i hi) q; omega)
  rw [hlen8] at hkeep
  have HK := hidIt hkeep
  clear x5 hkeep hlen8
  go_wp2_with fail
  refine HK.out.mono ?_
  rintro r w5 ⟨rfl, hv', hs', hi5, hl5, hb5⟩
  have HR := hidIt (And.intro hi5 (And.intro hl5 hb5))
  clear hi5 hl5 hb5
  go_wp2_with fail
  go_ret
  refine ⟨ret_bool (by simp), hv', hs', pv, ps, HR.out.1, by have := HR.out.2.1; omega, by omega, (hb4'.mono hBw).trans HR.out.2.2⟩

end Go.Proofs.YtfdalbmopaemgabGreatDoor

namespace Go.Proofs.YtfdalbmopaemgabGreatDoor
open Go.RowKit

set_option maxRecDepth 100000 in
set_option maxHeartbeats 2000000 in
theorem replayed_g {St : World → (Nat → Prop) → Value → List Ev → Prop} (I : StOk St) (B wb : Nat) (hv pv : Value) (hs : List (Value × Int)) (ps : List PlD) (o : OpD) (es : List Ev) (w : World) (h : GInv St w B wb hv hs pv ps) (hop : OpOk w B o es) (hH : hs.length ≤ 10000000) :
    Calls Tryz.prog 13 #[.pointer (some ⟨wb, 0, none⟩), opV o] w (SPost St w B wb hs.length ps.length) := by
  obtain ⟨ok, on, ot, ox, ov, ohv, os⟩ := o
  obtain ⟨ha, hc, hvf⟩ := slice_form hop.sl
  simp only at hvf
  subst hvf
  have HI := hidIt h
  have HOP := hidIt hop
  have hlen := hop.len
  have hcap : es.length ≤ hc := hop.cap _ _ _ rfl
  have hBw : B ≤ w.heap.size := Nat.le_trans h.inv.base (Nat.le_of_lt h.inv.wb_lt)
  have hbx := (Below.refl w.heap.size w).alloc (Nat.le_refl _) (opC ⟨ok, on, ot, ox, ov, .slice ha es.length hc, os⟩)
  clear h hop
  have hl0 : (0 : Int) ≤ (es.length : Int) := by omega
  have hl1 : (es.length : Int) ≤ ((es.length + 8 : Nat) : Int) := by omega
  go_enter Tryz.func13, Tryz.ntmps13
  go_wp2_with fail
  refine (handed_any _ es _ (HOP.out.sl.below hbx) hlen).mono ?_
  rintro r w1 ⟨g, rfl, hg, hrow, hb1⟩
  have hb1' : Below w.heap.size w w1 := hbx.trans (hb1.mono (by simp))
  obtain ⟨z0, z5, z6⟩ := bcell7 hb1 (by simp) rfl
  have hz1 : w.heap.size < w1.heap.size := by have := hb1.size; simp at this; omega
  go_wp2_with fail
  refine (replay_all _ es _ (Row.prefix hrow).slEv HOP.out.ok hlen).mono ?_
  rintro r w2 ⟨rfl, hb2⟩
  obtain ⟨⟨rp, rv, re⟩, hrg⟩ : ∃ x, replayG es = x := ⟨_, rfl⟩
  have HRG := hidIt hrg
  rw [hrg]
  simp only
  clear hrg
  have y5 : w2.cell? ⟨w.heap.size, 5, none⟩ = some (.slice ha es.length hc) := by rw [bcells hb2 _ _ hz1]; exact z5
  have hz2 : w.heap.size < w2.heap.size := Nat.lt_of_lt_of_le hz1 hb2.size
  have hb2' : Below w.heap.size w w2 := hb1'.trans (hb2.mono hb1'.size)
  have hbv : Below w2.heap.size w2 (w2.alloc (.cells #[.int .i32 (rv 0), .int .i32 (rv 1), .int .i32 (rv 2), .int .i32 (rv 3)] 72)) := (Below.refl _ _).alloc (Nat.le_refl _) _
  have hb2v := hb2'.trans (hbv.mono hb2'.size)
  have HA := hidIt (vals_new w2 72 rv)
  clear z0 z5 z6
  go_wp2_with fail
  refine (refReplay ha hc es _ (HOP.out.sl.below hb2v) HOP.out.ok hlen hcap).mono ?_
  rintro r w3 ⟨rfl, hb3⟩
  rw [HRG.out]
  simp only
  have hz2v : w.heap.size < (w2.alloc (.cells #[.int .i32 (rv 0), .int .i32 (rv 1), .int .i32 (rv 2), .int .i32 (rv 3)] 72)).heap.size := by simp; omega
  have x5 : w3.cell? ⟨w.heap.size, 5, none⟩ = some (.slice ha es.length hc) := by rw [bcells hb3 _ _ hz2v, bcells hbv _ _ hz2]; exact y5
  have hb3' : Below w.heap.size w w3 := hb2v.trans (hb3.mono hb2v.size)
  have hbu : Below w3.heap.size w3 (w3.alloc (.cells #[.int .i32 (rv 0), .int .i32 (rv 1), .int .i32 (rv 2), .int .i32 (rv 3)] 72)) := (Below.refl _ _).alloc (Nat.le_refl _) _
  have hb3u := hb3'.trans (hbu.mono hb3'.size)
  have HA3 := hidIt ((HA.out.below hb3).below hbu)
  have HU3 := hidIt (vals_new w3 72 rv)
  have hz3 : w2.heap.size < w3.heap.size := by have := hb3.size; simp at this; omega
  have hz3' : w.heap.size < w3.heap.size := by omega
  have hrow2 := hrow.below hb2 hrow.lt
  have hrow3 := ((hrow2.below hbv hrow2.lt).below hb3 (hrow2.below hbv hrow2.lt).lt)
  have hrow3u : Row (w3.alloc (.cells #[.int .i32 (rv 0), .int .i32 (rv 1), .int .i32 (rv 2), .int .i32 (rv 3)] 72)) g (es.length + 8) (es ++ List.replicate 8 byEv) := hrow3.below hbu hrow3.lt
  have hgl2 : g < w2.heap.size := hrow2.lt
  clear y5
  go_wp2_with fail
  refine (still_any _ es g _ (HOP.out.sl.below hb3u) hlen hrow3u).mono ?_
  rintro r w4 ⟨rfl, hb4⟩
  have hb4' : Below w.heap.size w w4 := hb3u.trans (hb4.mono hb3u.size)
  have hrow4 : Row w4 g (es.length + 8) (es ++ List.replicate 8 byEv) := hrow3u.below hb4 hrow3u.lt
  have hgw : w.heap.size ≤ g := by simp at hg; omega
  have hlen8 : (es ++ List.replicate 8 byEv).length = es.length + 8 := by simp
  have hkeep := keep_rowPF I B wb hv pv hs ps g (es.length + 8) (es ++ List.replicate 8 byEv) w4 (HI.out.below I hb4') hrow4 (Nat.le_trans hBw hgw) (by have := HI.out.inv.wb_lt; omega) (fun e => by have := (HI.out.inv.hv_lt g e).2; omega) (fun x hx e => by have := ((HI.out.inv.each x hx).lt g e).2; omega) (by rw [hlen8]; omega) hH (fun e => by have := (World.ownsRow.lt HI.out.prow g e).2; omega) (fun i hi q => by have := PlD.own_lt I (HI.out.each i hi) q; omega)
  rw [hlen8] at hkeep
  have HK := hidIt hkeep
  have HA4 := hidIt (HA3.out.below hb4)
  have HU4 := hidIt (HU3.out.below hb4)
  clear x5 hkeep hlen8
  go_wp2_with fail
  refine HK.out.mono ?_
  rintro r w5 ⟨rfl, hv', hs', hi5, hl5, hb5, hf5⟩
  have hfar : ∀ k, w.heap.size < k → k ≠ g → k < w4.heap.size → w5.heap[k]? = w4.heap[k]? := fun k h1 h2 h3 => hf5 k h3 h2 (by have := HI.out.inv.wb_lt; omega) (fun e => by have := (HI.out.inv.hv_lt k e).2; omega)
  have hA5 := HA4.out.of_heap (hfar _ hz2 (by omega) HA4.out.lt)
  have hU5 := HU4.out.of_heap (hfar _ (by omega) (by omega) HU4.out.lt)
  obtain ⟨a0, a1, a2, a3, _⟩ := hA5
  obtain ⟨b0, b1, b2, b3, _⟩ := hU5
  have HR := hidIt (And.intro hi5 (And.intro hl5 hb5))
  clear hi5 hl5 hb5 hf5 hfar
  have heqv := Tryz.eqVals
  go_wp2_with fail
  go_ret
  refine ⟨ret_bool (by simp), hv', hs', pv, ps, HR.out.1, by have := HR.out.2.1; omega, by omega, (hb4'.mono hBw).trans HR.out.2.2⟩

end Go.Proofs.YtfdalbmopaemgabGreatDoor

namespace Go.Proofs.YtfdalbmopaemgabGreatDoor
open Go.RowKit

theorem ginv_start (St : World → (Nat → Prop) → Value → List Ev → Prop) (w : World) (T : TypeId) : GInv St (w.alloc (.cells #[.slice none 0 0, .slice none 0 0] T)) w.heap.size w.heap.size (.slice none 0 0) [] (.slice none 0 0) [] :=
  ⟨inv_start w T, by simp [go_sem], by simp [go_sem], World.ownsRow_nil _ _ _ _, by simp [Value.ownBlock], fun g hg => (by simp [Value.ownBlock] at hg), fun x hx => (by cases hx), fun i hi => (by simp at hi), fun i hi => (by simp at hi), fun i j hi => (by simp at hi)⟩

theorem OpAt.stay {w w' : World} {b o : Nat} {d : OpD} (h : OpAt w b o d) (hh : w'.heap[b]? = w.heap[b]?) : OpAt w' b o d :=
  ⟨by rw [World.cell?_of_block (a := ⟨b, _, none⟩) hh]; exact h.c0, by rw [World.cell?_of_block (a := ⟨b, _, none⟩) hh]; exact h.c1, by rw [World.cell?_of_block (a := ⟨b, _, none⟩) hh]; exact h.c2, by rw [World.cell?_of_block (a := ⟨b, _, none⟩) hh]; exact h.c3, by rw [World.cell?_of_block (a := ⟨b, _, none⟩) hh]; exact h.c4, by rw [World.cell?_of_block (a := ⟨b, _, none⟩) hh]; exact h.c5, by rw [World.cell?_of_block (a := ⟨b, _, none⟩) hh]; exact h.c6⟩

theorem SlOp.stay {w w' : World} {v : Value} {ds : List OpD} (h : SlOp w v ds) (hb : Below w.heap.size w w') : SlOp w' v ds := by
  rcases h with h | ⟨b, off, cap, h1, h2, h3⟩
  · exact Or.inl h
  · exact Or.inr ⟨b, off, cap, h1, Nat.lt_of_lt_of_le h2 hb.size, fun i hi => (h3 i hi).stay (hb.block b h2)⟩

theorem SlOp.form {w : World} {v : Value} {ds : List OpD} (h : SlOp w v ds) : ∃ a c, v = .slice a ds.length c := by
  rcases h with ⟨rfl, a, c, rfl⟩ | ⟨b, off, cap, h1, _⟩
  · exact ⟨a, c, rfl⟩
  · exact ⟨_, cap, h1⟩

theorem OpOk.wide {w : World} {B B' : Nat} {o : OpD} {es : List Ev} (h : OpOk w B o es) (hB : B ≤ B') : OpOk w B' o es :=
  ⟨h.sl, h.ok, h.len, h.str, fun he g hg => Nat.lt_of_lt_of_le (h.lt he g hg) hB, h.k0, h.k1, h.cap⟩

def LoopG (St : World → (Nat → Prop) → Value → List Ev → Prop) (w : World) (B : Nat) (k : Nat) (wr : World) : Prop := ∃ hv hs pv ds, GInv St wr B B hv hs pv ds ∧ hs.length ≤ 4 * k ∧ ds.length ≤ k ∧ Below B w wr

def StepG (St : World → (Nat → Prop) → Value → List Ev → Prop) (L M : Int) : Prop := ∀ (B wb : Nat) (hv pv : Value) (hs : List (Value × Int)) (ds : List PlD) (ok on ot ox ov : Int) (ha : Option Addr) (hl hc : Nat) (os : ByteArray) (es : List Ev) (w : World),
  ((L ≤ ok ∧ ok ≤ M) ∨ 5 ≤ ok) → GInv St w B wb hv hs pv ds → OpOk w B ⟨ok, on, ot, ox, ov, .slice ha hl hc, os⟩ es → OpB ⟨ok, on, ot, ox, ov, .slice ha hl hc, os⟩ → hs.length ≤ 10000000 → ds.length ≤ 1048576 → Tab w →
  Calls Tryz.prog 7 #[.pointer (some ⟨wb, 0, none⟩), opV ⟨ok, on, ot, ox, ov, .slice ha hl hc, os⟩] w (SPost St w B wb hs.length ds.length)

set_option maxRecDepth 100000 in
set_option maxHeartbeats 4000000 in
theorem upTo_g {St : World → (Nat → Prop) → Value → List Ev → Prop} (I : StOk St) (L M : Int) (hM : 5 ≤ M) (hstep : StepG St L M) (b off cap : Nat) (ds : List OpD) (w : World) (hbw : b < w.heap.size) (hds : ∀ (i : Nat) (h : i < ds.length), OpAt w b (off + i * 7) ds[i])
    (hok : ∀ d ∈ ds, (∃ es, OpOk w w.heap.size d es) ∧ OpB d) (hmax : ds.length ≤ 1048576) (ht : Tab w) :
    Calls Tryz.prog 5 #[.slice (some ⟨b, off, none⟩) ds.length cap, .int .i64 L, .int .i64 M] w fun r w' => r = .returned (.int .i64 (-1)) ∧ Below w.heap.size w w' := by
  have HST := hidIt hstep
  have HDS := hidIt hds
  have HOK := hidIt hok
  clear hstep hds hok
  have hbx := (Below.refl w.heap.size w).alloc (Nat.le_refl _) (.cells #[.slice none 0 0, .slice none 0 0] 30)
  have e5 : ¬ M < 5 := by omega
  go_enter Tryz.func5, Tryz.ntmps5
  go_wp2_with fail
  go_loopw [8] (fun i wr => ∃ k : Nat, k ≤ ds.length ∧ i = .int .i64 k ∧ LoopG St w w.heap.size k wr) (fun i _ => ds.length - (intOf i).toNat)
  case atStart => exact ⟨0, by omega, rfl, _, _, _, _, ginv_start St w _, by simp, by simp, hbx⟩
  case round =>
    obtain ⟨k, hk, rfl, hv, hs, pv, ps, hinv, hhs, hps, hnx⟩ := hrel
    by_cases hlt : k < ds.length
    · have hlt' : (k : Int) < (ds.length : Int) := by omega
      have hk0 : (0 : Int) ≤ (k : Int) := by omega
      obtain ⟨g0, g1, g2, g3, g4, g5, g6⟩ := (HDS.out k hlt).below hbw hnx
      obtain ⟨⟨es, hop⟩, hob⟩ := HOK.out ds[k] (List.getElem_mem _)
      obtain ⟨d, hd⟩ : ∃ d, ds[k] = d := ⟨_, rfl⟩
      rw [hd] at g0 g1 g2 g3 g4 g5 g6 hop hob
      clear hd
      have hop2 := hop.stay hnx
      obtain ⟨ha, hc, hvf⟩ := slice_form hop2.sl
      obtain ⟨ok, on, ot, ox, ov, ohv, os⟩ := d
      simp only at hvf g0 g1 g2 g3 g4 g5 g6
      subst hvf
      have hk0' := hop.k0
      have hk1' := hop.k1
      simp only at hk0' hk1'
      have hBr : w.heap.size ≤ wr.heap.size := hnx.size
      have hby := (Below.refl wr.heap.size wr).alloc (Nat.le_refl _) (opC ⟨ok, on, ot, ox, ov, .slice ha es.length hc, os⟩)
      have HLK : Hid (∀ (w1 : World) hv' hs' pv' ds', GInv St w1 w.heap.size w.heap.size hv' hs' pv' ds' → hs'.length ≤ 4 * k + 4 → ds'.length ≤ k + 1 → Below w.heap.size w w1 → Calls Tryz.prog 8 #[.pointer (some ⟨w.heap.size, 0, none⟩)] w1 fun r w2 => r = .returned (.bool true) ∧ LoopG St w w.heap.size (k + 1) w2) := fun w1 hv' hs' pv' ds' h1 h2 h3 h4 =>
        (looks_any w.heap.size w.heap.size hv' hs' w1 h1.inv (by omega)).mono fun r w2 ⟨hr, hb2⟩ => ⟨hr, hv', hs', pv', ds', h1.below I hb2, by omega, by omega, h4.trans (hb2.mono h4.size)⟩
      by_cases hpl : (L ≤ ok ∧ ok ≤ M) ∨ 5 ≤ ok
      · have HC := hidIt (HST.out w.heap.size w.heap.size hv pv hs ps ok on ot ox ov ha es.length hc os es _ hpl (hinv.below I hby) (hop2.stay (hby.mono hBr)) hob (by omega) (by omega) (ht.below ht.2 (hnx.trans (hby.mono hBr))))
        have HNB : Hid (Below w.heap.size w (wr.alloc (opC ⟨ok, on, ot, ox, ov, .slice ha es.length hc, os⟩))) := hnx.trans (hby.mono hBr)
        clear hinv hop hop2 hby
        by_cases p1 : L ≤ ok
        · by_cases p2 : ok ≤ M
          · clear hpl
            go_wp2_with fail
            refine HC.out.mono ?_
            rintro r w1 ⟨rfl, hv', hs', pv', ds', h1, h2, h3, h4⟩
            have HLL := hidIt (HLK.out w1 hv' hs' pv' ds' h1 (by omega) (by omega) (HNB.out.trans h4))
            clear h1 h2 h3 h4
            go_wp2_with fail
            refine HLL.out.mono ?_
            rintro r w2 ⟨rfl, hl2⟩
            go_wp2_with fail
            go_roundw
            case rel => exact ⟨k + 1, by omega, by go_num, hl2⟩
            case measure => simp [intOf]; omega
          · have p3 : ¬ ok < 5 := by omega
            clear hpl
            go_wp2_with fail
            refine HC.out.mono ?_
            rintro r w1 ⟨rfl, hv', hs', pv', ds', h1, h2, h3, h4⟩
            have HLL := hidIt (HLK.out w1 hv' hs' pv' ds' h1 (by omega) (by omega) (HNB.out.trans h4))
            clear h1 h2 h3 h4
            go_wp2_with fail
            refine HLL.out.mono ?_
            rintro r w2 ⟨rfl, hl2⟩
            go_wp2_with fail
            go_roundw
            case rel => exact ⟨k + 1, by omega, by go_num, hl2⟩
            case measure => simp [intOf]; omega
        · have p3 : ¬ ok < 5 := by omega
          clear hpl
          go_wp2_with fail
          refine HC.out.mono ?_
          rintro r w1 ⟨rfl, hv', hs', pv', ds', h1, h2, h3, h4⟩
          have HLL := hidIt (HLK.out w1 hv' hs' pv' ds' h1 (by omega) (by omega) (HNB.out.trans h4))
          clear h1 h2 h3 h4
          go_wp2_with fail
          refine HLL.out.mono ?_
          rintro r w2 ⟨rfl, hl2⟩
          go_wp2_with fail
          go_roundw
          case rel => exact ⟨k + 1, by omega, by go_num, hl2⟩
          case measure => simp [intOf]; omega
      · have HR : Hid (LoopG St w w.heap.size (k + 1) (wr.alloc (opC ⟨ok, on, ot, ox, ov, .slice ha es.length hc, os⟩))) := ⟨hv, hs, pv, ps, hinv.below I hby, by omega, by omega, hnx.trans (hby.mono hBr)⟩
        have p1 : ¬ L ≤ ok := by omega
        have p3 : ok < 5 := by omega
        clear hinv hop hop2 hby hpl
        go_wp2_with fail
        go_roundw
        case rel => exact ⟨k + 1, by omega, by go_num, HR.out⟩
        case measure => simp [intOf]; omega
    · have hge : ¬ (k : Int) < (ds.length : Int) := by omega
      go_wp2_with fail
      go_ret
      exact ⟨rfl, hnx⟩

set_option maxRecDepth 100000 in
set_option maxHeartbeats 1000000 in
theorem upTo_nil2 (L M : Int) (a : Option Addr) (cap : Nat) (w : World) :
    Calls Tryz.prog 5 #[.slice a 0 cap, .int .i64 L, .int .i64 M] w fun r w' => r = .returned (.int .i64 (-1)) ∧ Below w.heap.size w w' := by
  have hbx := (Below.refl w.heap.size w).alloc (Nat.le_refl _) (.cells #[.slice none 0 0, .slice none 0 0] 30)
  go_enter Tryz.func5, Tryz.ntmps5
  go_wp2_with fail
  go_loop [8] (fun i => i = .int .i64 0) (fun _ => 0)
  case atStart => rfl
  case round =>
    obtain rfl := hrel
    go_wp2_with fail
    go_ret
    exact ⟨rfl, hbx⟩

theorem upTo_gall {St : World → (Nat → Prop) → Value → List Ev → Prop} (I : StOk St) (L M : Int) (hM : 5 ≤ M) (hstep : StepG St L M) (v : Value) (ds : List OpD) (w : World) (hs : SlOp w v ds) (hok : ∀ d ∈ ds, (∃ es, OpOk w w.heap.size d es) ∧ OpB d) (hmax : ds.length ≤ 1048576) (ht : Tab w) :
    Calls Tryz.prog 5 #[v, .int .i64 L, .int .i64 M] w fun r w' => r = .returned (.int .i64 (-1)) ∧ Below w.heap.size w w' := by
  rcases hs with ⟨rfl, a, c, rfl⟩ | ⟨b, off, cap, rfl, h2, h3⟩
  · exact upTo_nil2 L M a c w
  · exact upTo_g I L M hM hstep b off cap ds w h2 h3 hok hmax ht

set_option maxHeartbeats 400000 in
theorem made_any {St : World → (Nat → Prop) → Value → List Ev → Prop} (I : StOk St) (N : StNew St) (w : World) :
    Calls Tryz.prog 4 #[] w fun r w' => r = .returned (.bool true) ∧ Below w.heap.size w w' := by
  have hbx := (Below.refl w.heap.size w).alloc (Nat.le_refl _) (.cells #[.slice none 0 0, .slice none 0 0] 30)
  have HC := hidIt (created_any I N w.heap.size w.heap.size (.slice none 0 0) [] (.slice none 0 0) [] _ (ginv_start St w 30) (by simp))
  go_enter Tryz.func4, Tryz.ntmps4
  go_wp2_with fail
  refine HC.out.mono ?_
  rintro r w1 ⟨rfl, pv', ds', _, _, h3⟩
  go_wp2_with fail
  go_ret
  exact ⟨rfl, hbx.trans h3⟩

theorem stepG_high {St : World → (Nat → Prop) → Value → List Ev → Prop} (I : StOk St) (J : StAsk St) (N : StNew St) (K : StHist St) (L M : Int) (hL : 5 ≤ L) : StepG St L M :=
  fun B wb hv pv hs ds ok on ot ox ov ha hl hc os es w hp h hop hob hH hn _ => step_g I J N K B wb hv pv hs ds ok on ot ox ov ha hl hc os (by omega) ⟨hop.k0, hop.k1⟩ hob w h hH hn

end Go.Proofs.YtfdalbmopaemgabGreatDoor

namespace Go.Proofs.YtfdalbmopaemgabGreatDoor
open Go.RowKit

set_option maxRecDepth 100000 in
set_option maxHeartbeats 1000000 in
theorem stepG_printed {St : World → (Nat → Prop) → Value → List Ev → Prop} (I : StOk St) (B wb : Nat) (hv pv : Value) (hs : List (Value × Int)) (ps : List PlD) (on ot ox ov : Int) (ha : Option Addr) (hl hc : Nat) (os : ByteArray) (es : List Ev) (w : World) (h : GInv St w B wb hv hs pv ps) (hop : OpOk w B ⟨1, on, ot, ox, ov, .slice ha hl hc, os⟩ es) (hH : hs.length ≤ 10000000) (ht : Tab w) :
    Calls Tryz.prog 7 #[.pointer (some ⟨wb, 0, none⟩), opV ⟨1, on, ot, ox, ov, .slice ha hl hc, os⟩] w (SPost St w B wb hs.length ps.length) := by
  have hbx := (Below.refl w.heap.size w).alloc (Nat.le_refl _) (opC ⟨1, on, ot, ox, ov, .slice ha hl hc, os⟩)
  have hBw : B ≤ w.heap.size := Nat.le_trans h.inv.base (Nat.le_of_lt h.inv.wb_lt)
  have HC := hidIt (printed_g I B wb hv pv hs ps ⟨1, on, ot, ox, ov, .slice ha hl hc, os⟩ es _ (h.below I hbx) (hop.stay (hbx.mono hBw)) hH (ht.below ht.2 hbx))
  clear h hop
  go_enter Tryz.func7, Tryz.ntmps7
  go_wp2_with fail
  refine HC.out.mono ?_
  rintro r w1 ⟨rfl, hv', hs', pv', ps', h1, h2, h3, h4⟩
  have HR := hidIt (And.intro h1 (And.intro h2 (And.intro h3 h4)))
  clear h1 h2 h3 h4
  go_wp2_with fail
  go_ret
  exact ⟨rfl, hv', hs', pv', ps', HR.out.1, HR.out.2.1, HR.out.2.2.1, (hbx.mono hBw).trans HR.out.2.2.2⟩

set_option maxRecDepth 100000 in
set_option maxHeartbeats 1000000 in
theorem stepG_parsed {St : World → (Nat → Prop) → Value → List Ev → Prop} (I : StOk St) (B wb : Nat) (hv pv : Value) (hs : List (Value × Int)) (ps : List PlD) (on ot ox ov : Int) (ha : Option Addr) (hl hc : Nat) (os : ByteArray) (es : List Ev) (w : World) (h : GInv St w B wb hv hs pv ps) (hop : OpOk w B ⟨2, on, ot, ox, ov, .slice ha hl hc, os⟩ es) (hH : hs.length ≤ 10000000) :
    Calls Tryz.prog 7 #[.pointer (some ⟨wb, 0, none⟩), opV ⟨2, on, ot, ox, ov, .slice ha hl hc, os⟩] w (SPost St w B wb hs.length ps.length) := by
  have hbx := (Below.refl w.heap.size w).alloc (Nat.le_refl _) (opC ⟨2, on, ot, ox, ov, .slice ha hl hc, os⟩)
  have hBw : B ≤ w.heap.size := Nat.le_trans h.inv.base (Nat.le_of_lt h.inv.wb_lt)
  have HC := hidIt (parsed_g I B wb hv pv hs ps ⟨2, on, ot, ox, ov, .slice ha hl hc, os⟩ es _ (h.below I hbx) (hop.stay (hbx.mono hBw)) hH)
  clear h hop
  go_enter Tryz.func7, Tryz.ntmps7
  go_wp2_with fail
  refine HC.out.mono ?_
  rintro r w1 ⟨rfl, hv', hs', pv', ps', h1, h2, h3, h4⟩
  have HR := hidIt (And.intro h1 (And.intro h2 (And.intro h3 h4)))
  clear h1 h2 h3 h4
  go_wp2_with fail
  go_ret
  exact ⟨rfl, hv', hs', pv', ps', HR.out.1, HR.out.2.1, HR.out.2.2.1, (hbx.mono hBw).trans HR.out.2.2.2⟩

set_option maxRecDepth 100000 in
set_option maxHeartbeats 1000000 in
theorem stepG_checked {St : World → (Nat → Prop) → Value → List Ev → Prop} (I : StOk St) (B wb : Nat) (hv pv : Value) (hs : List (Value × Int)) (ps : List PlD) (on ot ox ov : Int) (ha : Option Addr) (hl hc : Nat) (os : ByteArray) (es : List Ev) (w : World) (h : GInv St w B wb hv hs pv ps) (hop : OpOk w B ⟨3, on, ot, ox, ov, .slice ha hl hc, os⟩ es) (hH : hs.length ≤ 10000000) :
    Calls Tryz.prog 7 #[.pointer (some ⟨wb, 0, none⟩), opV ⟨3, on, ot, ox, ov, .slice ha hl hc, os⟩] w (SPost St w B wb hs.length ps.length) := by
  have hbx := (Below.refl w.heap.size w).alloc (Nat.le_refl _) (opC ⟨3, on, ot, ox, ov, .slice ha hl hc, os⟩)
  have hBw : B ≤ w.heap.size := Nat.le_trans h.inv.base (Nat.le_of_lt h.inv.wb_lt)
  have HC := hidIt (checked_g I B wb hv pv hs ps ⟨3, on, ot, ox, ov, .slice ha hl hc, os⟩ es _ (h.below I hbx) (hop.stay (hbx.mono hBw)) hH)
  clear h hop
  go_enter Tryz.func7, Tryz.ntmps7
  go_wp2_with fail
  refine HC.out.mono ?_
  rintro r w1 ⟨rfl, hv', hs', pv', ps', h1, h2, h3, h4⟩
  have HR := hidIt (And.intro h1 (And.intro h2 (And.intro h3 h4)))
  clear h1 h2 h3 h4
  go_wp2_with fail
  go_ret
  exact ⟨rfl, hv', hs', pv', ps', HR.out.1, HR.out.2.1, HR.out.2.2.1, (hbx.mono hBw).trans HR.out.2.2.2⟩

set_option maxRecDepth 100000 in
set_option maxHeartbeats 1000000 in
theorem stepG_replayed {St : World → (Nat → Prop) → Value → List Ev → Prop} (I : StOk St) (B wb : Nat) (hv pv : Value) (hs : List (Value × Int)) (ps : List PlD) (on ot ox ov : Int) (ha : Option Addr) (hl hc : Nat) (os : ByteArray) (es : List Ev) (w : World) (h : GInv St w B wb hv hs pv ps) (hop : OpOk w B ⟨4, on, ot, ox, ov, .slice ha hl hc, os⟩ es) (hH : hs.length ≤ 10000000) :
    Calls Tryz.prog 7 #[.pointer (some ⟨wb, 0, none⟩), opV ⟨4, on, ot, ox, ov, .slice ha hl hc, os⟩] w (SPost St w B wb hs.length ps.length) := by
  have hbx := (Below.refl w.heap.size w).alloc (Nat.le_refl _) (opC ⟨4, on, ot, ox, ov, .slice ha hl hc, os⟩)
  have hBw : B ≤ w.heap.size := Nat.le_trans h.inv.base (Nat.le_of_lt h.inv.wb_lt)
  have HC := hidIt (replayed_g I B wb hv pv hs ps ⟨4, on, ot, ox, ov, .slice ha hl hc, os⟩ es _ (h.below I hbx) (hop.stay (hbx.mono hBw)) hH)
  clear h hop
  go_enter Tryz.func7, Tryz.ntmps7
  go_wp2_with fail
  refine HC.out.mono ?_
  rintro r w1 ⟨rfl, hv', hs', pv', ps', h1, h2, h3, h4⟩
  have HR := hidIt (And.intro h1 (And.intro h2 (And.intro h3 h4)))
  clear h1 h2 h3 h4
  go_wp2_with fail
  go_ret
  exact ⟨rfl, hv', hs', pv', ps', HR.out.1, HR.out.2.1, HR.out.2.2.1, (hbx.mono hBw).trans HR.out.2.2.2⟩

theorem stepG_all {St : World → (Nat → Prop) → Value → List Ev → Prop} (I : StOk St) (J : StAsk St) (N : StNew St) (K : StHist St) : StepG St 1 14 := by
  intro B wb hv pv hs ps ok on ot ox ov ha hl hc os es w hp h hop hob hH hn ht
  by_cases h5 : 5 ≤ ok
  · exact step_g I J N K B wb hv pv hs ps ok on ot ox ov ha hl hc os (Or.inr h5) ⟨hop.k0, hop.k1⟩ hob w h hH hn
  · have h4 : ok = 1 ∨ ok = 2 ∨ ok = 3 ∨ ok = 4 := by omega
    rcases h4 with rfl | rfl | rfl | rfl
    · exact stepG_printed I B wb hv pv hs ps on ot ox ov ha hl hc os es w h hop hH ht
    · exact stepG_parsed I B wb hv pv hs ps on ot ox ov ha hl hc os es w h hop hH
    · exact stepG_checked I B wb hv pv hs ps on ot ox ov ha hl hc os es w h hop hH
    · exact stepG_replayed I B wb hv pv hs ps on ot ox ov ha hl hc os es w h hop hH

end Go.Proofs.YtfdalbmopaemgabGreatDoor
