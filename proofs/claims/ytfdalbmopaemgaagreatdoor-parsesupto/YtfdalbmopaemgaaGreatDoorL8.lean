import Derived.Test.YtfdalbmopaemgaaGreatDoorL7
import Derived.Test.YtfdalbmopaemgaaGreatDoorR4
namespace Go.Proofs.YtfdalbmopaemgaaGreatDoor
open Go.RowKit

theorem parseG_len : ∀ (f : Nat) (l : List UInt8) (acc : List Ev), acc.length ≤ 60 → (parseG f l acc).1.length ≤ 60
  | 0, l, acc, h => by unfold parseG; simpa using h
  | f + 1, l, acc, h => by
    unfold parseG
    split
    · exact h
    · split
      · simp
      · rename_i h2
        split
        · simp
        · exact parseG_len f _ _ (by simp; omega)

theorem parseL_len (l : List UInt8) : (parseL l).1.length ≤ 60 := by
  unfold parseL
  split
  · simp
  · exact parseG_len _ _ _ (by simp)

/-- keep, of a list that came out. -/
theorem keep_own (B wb : Nat) (hv : Value) (hs : List (Value × Int)) (v : Value) (N : Nat) (es : List Ev) (w : World) (h : Inv w B wb hv hs) (hown : Own w N v es) (hN : B ≤ N) (hw : wb < N) (hgv : ∀ g, hv.ownBlock = some g → g < N)
    (hgx : ∀ x ∈ hs, ∀ g, x.1.ownBlock = some g → g < N) (hn : es.length ≤ 2097152) (hH : hs.length ≤ 10000000) :
    Calls Tryz.prog 27 #[.pointer (some ⟨wb, 0, none⟩), v] w (KeepPost w B wb hs.length) := by
  rcases hown.2 with ⟨rfl, _⟩ | ⟨g, cap, cur, rfl, h1, h2, h3, h4, h5, h6⟩
  · exact keep_nil B wb hv hs w h hH
  · exact keep_row B wb hv hs g cap es w h ⟨cur, h2, h5, h3, h4, h6⟩ (Nat.le_trans hN h1) (by omega) (fun e => by have := hgv g e; omega) (fun x hx e => by have := hgx x hx g e; omega) hn hH

set_option maxRecDepth 100000 in
set_option maxHeartbeats 2000000 in
theorem parsed_any (B wb : Nat) (hv : Value) (hs : List (Value × Int)) (o : OpD) (es : List Ev) (w : World) (h : Inv w B wb hv hs) (hop : OpOk w B o es) (hH : hs.length ≤ 10000000) :
    Calls Tryz.prog 15 #[.pointer (some ⟨wb, 0, none⟩), opV o] w (StepPost w B wb hs.length) := by
  obtain ⟨ok, on, ot, ox, ov, ohv, os⟩ := o
  obtain ⟨ha, hc, hvf⟩ := slice_form hop.sl
  simp only at hvf
  subst hvf
  have HI := hidIt h
  have hstr := hop.str
  simp only at hstr
  have hBw : B ≤ w.heap.size := Nat.le_trans h.base (Nat.le_of_lt h.wb_lt)
  have hbx := (Below.refl w.heap.size w).alloc (Nat.le_refl _) (opC ⟨ok, on, ot, ox, ov, .slice ha es.length hc, os⟩)
  clear h hop
  go_enter Tryz.func15, Tryz.ntmps15
  go_wp2_with fail
  refine (parse_all os _ (by omega)).mono ?_
  rintro r w1 ⟨v1, rfl, hown1, hb1⟩
  have hb1' : Below w.heap.size w w1 := hbx.trans (hb1.mono (by simp))
  obtain ⟨z0, z5, z6⟩ := bcell7 hb1 (by simp) rfl
  have hz1 : w.heap.size < w1.heap.size := by have := hb1.size; simp at this; omega
  obtain ⟨⟨L, c, d⟩, hL⟩ : ∃ x, parseL os.data.toList = x := ⟨_, rfl⟩
  have HL := hidIt hL
  have hLl := parseL_len os.data.toList
  rw [hL] at hown1 hLl
  simp only at hown1 hLl
  rw [hL]
  simp only
  clear hL
  obtain ⟨a1, c1, rfl⟩ := hown1.form
  have HO1 := hidIt hown1
  clear hown1
  go_wp2_with fail
  refine (refParse_any os _ hstr).mono ?_
  rintro r w2 ⟨v2, rfl, hown2, hb2⟩
  rw [HL.out] at hown2 ⊢
  simp only at hown2 ⊢
  obtain ⟨a2, c2, rfl⟩ := hown2.form
  have HO2 := hidIt hown2
  have hb2' : Below w.heap.size w w2 := hb1'.trans (hb2.mono hb1'.size)
  clear hown2 z0 z5 z6
  go_wp2_with fail
  refine (same_all _ _ L _ (HO1.out.below hb2).slEv HO2.out.slEv (by omega)).mono ?_
  rintro r w3 ⟨rfl, n3, rfl⟩
  have hb3 : Below w2.heap.size w2 (w2.drewN n3) := below_drewN (Below.refl _ _) n3
  have hb3' : Below w.heap.size w (w2.drewN n3) := hb2'.trans (hb3.mono hb2'.size)
  have HK := hidIt (keep_own B wb hv hs (.slice a1 L.length c1) _ L (w2.drewN n3) (HI.out.below hb3') ((HO1.out.below hb2).below hb3) (by simp; omega) (by simp; have := HI.out.wb_lt; omega) (fun g hg => by have := (HI.out.hv_lt g hg).2; simp; omega) (fun x hx g hg => by have := ((HI.out.each x hx).lt g hg).2; simp; omega) (by omega) hH)
  go_wp2_with fail
  refine HK.out.mono ?_
  rintro r w5 ⟨rfl, hv', hs', hi5, hl5, hb5⟩
  have HR := hidIt (And.intro hi5 (And.intro hl5 hb5))
  clear hi5 hl5 hb5
  go_wp2_with fail
  go_ret
  refine ⟨ret_bool (by simp), hv', hs', HR.out.1, by have := HR.out.2.1; omega, (hb3'.mono hBw).trans HR.out.2.2⟩

set_option maxRecDepth 100000 in
set_option maxHeartbeats 1000000 in
theorem step_parse : StepOk 2 := by
  intro B wb hv hs o es w hk h hop hH ht
  obtain ⟨ha, hc, hvf⟩ := slice_form hop.sl
  obtain ⟨ok, on, ot, ox, ov, ohv, os⟩ := o
  simp only at hk hvf
  subst hk hvf
  have hbx := (Below.refl w.heap.size w).alloc (Nat.le_refl _) (opC ⟨2, on, ot, ox, ov, .slice ha es.length hc, os⟩)
  have hBw : B ≤ w.heap.size := Nat.le_trans h.base (Nat.le_of_lt h.wb_lt)
  have HC := hidIt (parsed_any B wb hv hs ⟨2, on, ot, ox, ov, .slice ha es.length hc, os⟩ es _ (h.below hbx) (hop.stay (hbx.mono hBw)) hH)
  clear h hop
  go_enter Tryz.func11, Tryz.ntmps11
  go_wp2_with fail
  refine HC.out.mono ?_
  rintro r w1 ⟨rfl, hv', hs', h1, h2, h3⟩
  have HR := hidIt (And.intro h1 (And.intro h2 h3))
  clear h1 h2 h3
  go_wp2_with fail
  go_ret
  exact ⟨rfl, hv', hs', HR.out.1, HR.out.2.1, (hbx.mono hBw).trans HR.out.2.2⟩

set_option maxHeartbeats 400000 in
theorem parses_walk (v : Value) (ds : List OpD) (w : World) (hs : SlOp w v ds) (hok : ∀ d ∈ ds, ∃ es, OpOk w w.heap.size d es) (hmax : ds.length ≤ 1048576) (ht : Tab w) :
    Calls Tryz.prog 4 #[v] w fun r w' => r = .returned (.bool true) ∧ Below w.heap.size w w' := by
  have HC := hidIt (upTo_all 2 (by decide) (by decide) step_parse v ds w hs hok hmax ht)
  clear hs hok
  go_enter Tryz.func4, Tryz.ntmps4
  go_wp2_with fail
  refine HC.out.mono ?_
  rintro r w1 ⟨rfl, hb⟩
  go_wp2_with fail
  go_ret
  exact ⟨rfl, hb⟩

end Go.Proofs.YtfdalbmopaemgaaGreatDoor
