import Derived.Test.YtfdalbmopaemgabZX3
namespace Go.Proofs.Ytfdalbmopaemgab
open Go.RowKit

/-! ### alike, Twins -/
set_option maxRecDepth 100000 in
set_option maxHeartbeats 4000000 in
theorem alike_any (b1 b2 : Nat) (es : List Ev) (w : World) (h1 : StC w b1 es) (h2 : StC w b2 es) :
    Calls Try.prog 24 #[.pointer (some ⟨b1, 0, none⟩), .pointer (some ⟨b2, 0, none⟩)] w fun r w' => r = .returned (.bool true) ∧ Below w.heap.size w w' := by
  have heq := Try.eqVals
  have H1 := hidIt h1
  have H2 := hidIt h2
  have HLEN := hidIt h1.len
  clear h1 h2
  go_enter Try.func24, Try.ntmps24
  go_wp2_with fail
  refine (ghistory b1 es w H1.out).mono ?_
  rintro r w1 ⟨hv1, rfl, ho1, hb1⟩
  obtain ⟨ha1, hc1, rfl⟩ := ho1.form
  have HO1 := hidIt ho1
  have HB1 := hidIt hb1
  clear ho1 hb1
  have HC2 := hidIt (ghistory b2 es w1 (H2.out.of_heap (HB1.out.block _ H2.out.lt) HB1.out.size))
  go_wp2_with fail
  refine HC2.out.mono ?_
  rintro r w2 ⟨hv2, rfl, ho2, hb2⟩
  obtain ⟨ha2, hc2, rfl⟩ := ho2.form
  have HO2 := hidIt ho2
  have HO12 := hidIt (HO1.out.below hb2)
  have HB2 : Hid (Below w.heap.size w w2) := HB1.out.trans (hb2.mono HB1.out.size)
  clear ho2 hb2 HC2
  have HC3 := hidIt (gvalues b1 es w2 (H1.out.of_heap (HB2.out.block _ H1.out.lt) HB2.out.size))
  go_wp2_with fail
  refine HC3.out.mono ?_
  rintro r w3 ⟨rfl, hb3⟩
  have hba : Below w3.heap.size w3 (w3.alloc (.cells #[.int .i32 (isL es 0 0), .int .i32 (isL es 0 1), .int .i32 (isL es 0 2), .int .i32 (isL es 0 3)] 53)) := (Below.refl _ _).alloc (Nat.le_refl _) _
  have HB3 : Hid (Below w.heap.size w (w3.alloc (.cells #[.int .i32 (isL es 0 0), .int .i32 (isL es 0 1), .int .i32 (isL es 0 2), .int .i32 (isL es 0 3)] 53))) := (HB2.out.trans (hb3.mono HB2.out.size)).trans (hba.mono (HB2.out.trans (hb3.mono HB2.out.size)).size)
  have HO13 := hidIt ((HO12.out.below hb3).below hba)
  have HO23 := hidIt ((HO2.out.below hb3).below hba)
  clear hb3 hba HC3
  have HC4 := hidIt (gvalues b2 es (w3.alloc (.cells #[.int .i32 (isL es 0 0), .int .i32 (isL es 0 1), .int .i32 (isL es 0 2), .int .i32 (isL es 0 3)] 53)) (H2.out.of_heap (HB3.out.block _ H2.out.lt) HB3.out.size))
  go_wp2_with fail
  refine HC4.out.mono ?_
  rintro r w4 ⟨rfl, hb4⟩
  have hsz3 : w3.heap.size < w4.heap.size := by have := hb4.size; simp at this; omega
  have v0 : w4.cell? ⟨w3.heap.size, 0, none⟩ = some (.int .i32 (isL es 0 0)) := by rw [World.cell?_of_block (a := ⟨w3.heap.size, 0, none⟩) (hb4.block _ (by simp))]; simp [go_sem]
  have v1 : w4.cell? ⟨w3.heap.size, 1, none⟩ = some (.int .i32 (isL es 0 1)) := by rw [World.cell?_of_block (a := ⟨w3.heap.size, 1, none⟩) (hb4.block _ (by simp))]; simp [go_sem]
  have v2 : w4.cell? ⟨w3.heap.size, 2, none⟩ = some (.int .i32 (isL es 0 2)) := by rw [World.cell?_of_block (a := ⟨w3.heap.size, 2, none⟩) (hb4.block _ (by simp))]; simp [go_sem]
  have v3 : w4.cell? ⟨w3.heap.size, 3, none⟩ = some (.int .i32 (isL es 0 3)) := by rw [World.cell?_of_block (a := ⟨w3.heap.size, 3, none⟩) (hb4.block _ (by simp))]; simp [go_sem]
  have hba : Below w4.heap.size w4 (w4.alloc (.cells #[.int .i32 (isL es 0 0), .int .i32 (isL es 0 1), .int .i32 (isL es 0 2), .int .i32 (isL es 0 3)] 53)) := (Below.refl _ _).alloc (Nat.le_refl _) _
  have HSE := hidIt (same_all (.slice ha1 es.length hc1) (.slice ha2 es.length hc2) es (w4.alloc (.cells #[.int .i32 (isL es 0 0), .int .i32 (isL es 0 1), .int .i32 (isL es 0 2), .int .i32 (isL es 0 3)] 53)) ((HO13.out.below hb4).below hba).slEv ((HO23.out.below hb4).below hba).slEv (by have := HLEN.out; omega))
  have HB4 : Hid (Below w.heap.size w (w4.alloc (.cells #[.int .i32 (isL es 0 0), .int .i32 (isL es 0 1), .int .i32 (isL es 0 2), .int .i32 (isL es 0 3)] 53))) := (HB3.out.trans (hb4.mono HB3.out.size)).trans (hba.mono (HB3.out.trans (hb4.mono HB3.out.size)).size)
  clear hb4 hba HC4
  go_wp2_with fail
  refine HSE.out.mono ?_
  rintro r w5 ⟨rfl, n, rfl⟩
  go_wp2_with fail
  go_ret
  exact ⟨ret_bool (by simp), below_drewN HB4.out n⟩

structure Tw (w : World) (ba bb bc bd : Nat) (ea eb ec ed : List Ev) (wr : World) : Prop where
  a : StC wr ba ea
  b : StC wr bb eb
  c : StC wr bc ec
  d : StC wr bd ed
  below : Below w.heap.size w wr

theorem Tw.goA {w wr w' : World} {ba bb bc bd : Nat} {ea eb ec ed e : List Ev} (h : Tw w ba bb bc bd ea eb ec ed wr) (h' : StP wr ba e w') (h1 : w.heap.size ≤ ba) (h2 : ba < bb) (h3 : bb < bc) (h4 : bc < bd) : Tw w ba bb bc bd e eb ec ed w' :=
  ⟨h'.1, h.b.of_heap (h'.2.rest _ h.b.lt (by omega)) h'.2.below.size, h.c.of_heap (h'.2.rest _ h.c.lt (by omega)) h'.2.below.size, h.d.of_heap (h'.2.rest _ h.d.lt (by omega)) h'.2.below.size, h'.2.low h.below (by omega) h.below.size⟩
theorem Tw.goB {w wr w' : World} {ba bb bc bd : Nat} {ea eb ec ed e : List Ev} (h : Tw w ba bb bc bd ea eb ec ed wr) (h' : StP wr bb e w') (h1 : w.heap.size ≤ ba) (h2 : ba < bb) (h3 : bb < bc) (h4 : bc < bd) : Tw w ba bb bc bd ea e ec ed w' :=
  ⟨h.a.of_heap (h'.2.rest _ h.a.lt (by omega)) h'.2.below.size, h'.1, h.c.of_heap (h'.2.rest _ h.c.lt (by omega)) h'.2.below.size, h.d.of_heap (h'.2.rest _ h.d.lt (by omega)) h'.2.below.size, h'.2.low h.below (by omega) h.below.size⟩
theorem Tw.goC {w wr w' : World} {ba bb bc bd : Nat} {ea eb ec ed e : List Ev} (h : Tw w ba bb bc bd ea eb ec ed wr) (h' : StP wr bc e w') (h1 : w.heap.size ≤ ba) (h2 : ba < bb) (h3 : bb < bc) (h4 : bc < bd) : Tw w ba bb bc bd ea eb e ed w' :=
  ⟨h.a.of_heap (h'.2.rest _ h.a.lt (by omega)) h'.2.below.size, h.b.of_heap (h'.2.rest _ h.b.lt (by omega)) h'.2.below.size, h'.1, h.d.of_heap (h'.2.rest _ h.d.lt (by omega)) h'.2.below.size, h'.2.low h.below (by omega) h.below.size⟩
theorem Tw.goD {w wr w' : World} {ba bb bc bd : Nat} {ea eb ec ed e : List Ev} (h : Tw w ba bb bc bd ea eb ec ed wr) (h' : StP wr bd e w') (h1 : w.heap.size ≤ ba) (h2 : ba < bb) (h3 : bb < bc) (h4 : bc < bd) : Tw w ba bb bc bd ea eb ec e w' :=
  ⟨h.a.of_heap (h'.2.rest _ h.a.lt (by omega)) h'.2.below.size, h.b.of_heap (h'.2.rest _ h.b.lt (by omega)) h'.2.below.size, h.c.of_heap (h'.2.rest _ h.c.lt (by omega)) h'.2.below.size, h'.1, h'.2.low h.below (by omega) h.below.size⟩
theorem Tw.stay {w wr w' : World} {ba bb bc bd : Nat} {ea eb ec ed : List Ev} (h : Tw w ba bb bc bd ea eb ec ed wr) (h' : Below wr.heap.size wr w') : Tw w ba bb bc bd ea eb ec ed w' :=
  ⟨h.a.of_heap (h'.block _ h.a.lt) h'.size, h.b.of_heap (h'.block _ h.b.lt) h'.size, h.c.of_heap (h'.block _ h.c.lt) h'.size, h.d.of_heap (h'.block _ h.d.lt) h'.size, h.below.trans (h'.mono h.below.size)⟩

theorem actsR_more (es : List Ev) (ds : List StD) (k : Nat) (hk : ds.length ≤ k) : actsR es (ds.take (k + 1)) = actsR es (ds.take k) := by
  rw [List.take_of_length_le (by omega), List.take_of_length_le hk]

set_option maxRecDepth 100000 in
set_option maxHeartbeats 8000000 in
theorem twins_walk (v1 v2 : Value) (d1 d2 : List StD) (w : World) (hs1 : SlSt w w.heap.size v1 d1) (hs2 : SlSt w w.heap.size v2 d2) (hok1 : ∀ d ∈ d1, d.Ok) (hok2 : ∀ d ∈ d2, d.Ok) (hm1 : d1.length ≤ 9223372036854775807) (hm2 : d2.length ≤ 9223372036854775807) :
    Calls Try.prog 7 #[v1, v2] w fun r w' => r = .returned (.bool true) ∧ Below w.heap.size w w' := by
  obtain ⟨a1, c1, rfl⟩ := hs1.form
  obtain ⟨a2, c2, rfl⟩ := hs2.form
  have HS1 := hidIt hs1
  have HS2 := hidIt hs2
  have HOK1 := hidIt hok1
  have HOK2 := hidIt hok2
  clear hs1 hs2 hok1 hok2
  go_enter Try.func7, Try.ntmps7
  go_wp2_with fail
  refine (known_any _).mono ?_
  rintro r wk ⟨rfl, hbk⟩
  go_wp2_with fail
  refine (new_any wk).mono ?_
  rintro r wa ⟨rfl, ha, hba⟩
  go_wp2_with fail
  refine (new_any wa).mono ?_
  rintro r wb ⟨rfl, hb, hbb⟩
  go_wp2_with fail
  refine (new_any wb).mono ?_
  rintro r wc ⟨rfl, hc, hbc⟩
  go_wp2_with fail
  refine (new_any wc).mono ?_
  rintro r wd ⟨rfl, hd, hbd⟩
  have l1 : wk.heap.size < wa.heap.size := ha.lt
  have l2 : wa.heap.size < wb.heap.size := hb.lt
  have l3 : wb.heap.size < wc.heap.size := hc.lt
  have l0 : w.heap.size ≤ wk.heap.size := hbk.size
  have T1 : Tw w wk.heap.size wa.heap.size wb.heap.size wc.heap.size [] [] [] [] wd := by
    have x1 := ha.of_heap (hbb.block _ ha.lt) hbb.size
    have x2 := x1.of_heap (hbc.block _ x1.lt) hbc.size
    have x3 := x2.of_heap (hbd.block _ x2.lt) hbd.size
    have y2 := hb.of_heap (hbc.block _ hb.lt) hbc.size
    have y3 := y2.of_heap (hbd.block _ y2.lt) hbd.size
    have z3 := hc.of_heap (hbd.block _ hc.lt) hbd.size
    have u1 := hbk.trans (hba.mono hbk.size)
    have u2 := u1.trans (hbb.mono u1.size)
    have u3 := u2.trans (hbc.mono u2.size)
    exact ⟨x3, y3, z3, hd, u3.trans (hbd.mono u3.size)⟩
  obtain ⟨pa, hpa⟩ : ∃ x, wk.heap.size = x := ⟨_, rfl⟩
  obtain ⟨pb, hpb⟩ : ∃ x, wa.heap.size = x := ⟨_, rfl⟩
  obtain ⟨pc, hpc⟩ : ∃ x, wb.heap.size = x := ⟨_, rfl⟩
  obtain ⟨pd, hpd⟩ : ∃ x, wc.heap.size = x := ⟨_, rfl⟩
  rw [hpa, hpb, hpc, hpd] at T1
  rw [hpa] at l0 l1 ⊢
  rw [hpb] at l1 l2 ⊢
  rw [hpc] at l2 l3 ⊢
  rw [hpd] at l3 ⊢
  have H0 := hidIt T1
  clear ha hb hc hd hba hbb hbc hbd hbk T1 hpa hpb hpc hpd
  go_wp2_with fail
  have HNX : Hid (∀ ea eb ec ed wr, Tw w pa pb pc pd ea eb ec ed wr → SlSt wr w.heap.size (.slice a1 d1.length c1) d1 ∧ SlSt wr w.heap.size (.slice a2 d2.length c2) d2) := fun ea eb ec ed wr h => ⟨HS1.out.stay h.below.size (fun k hk _ => h.below.block k hk), HS2.out.stay h.below.size (fun k hk _ => h.below.block k hk)⟩
  go_loopw [10] (fun i wr => ∃ k : Nat, (k ≤ d1.length ∨ k ≤ d2.length) ∧ i = .int .i64 k ∧ Tw w pa pb pc pd (actsR [] (d1.take k)) (actsR [] (d2.take k)) [] [] wr) (fun i _ => max d1.length d2.length - (intOf i).toNat)
  case atStart => exact ⟨0, by omega, rfl, H0.out⟩
  case round =>
    clear H0
    obtain ⟨k, hk, rfl, htw⟩ := hrel
    have hk0 : (0 : Int) ≤ (k : Int) := by omega
    have HTW := hidIt htw
    obtain ⟨hx1, hx2⟩ := HNX.out _ _ _ _ _ htw
    clear htw
    by_cases p1 : k < d1.length
    · have p1' : (k : Int) < (d1.length : Int) := by omega
      obtain ⟨sb1, off1, rfl, hsB1, hsw1, g0, g1, g2, g3⟩ := hx1.at_ k p1
      have hd1 := HOK1.out d1[k] (List.getElem_mem _)
      have HN1 := hidIt (actsR_snoc [] d1 k p1)
      obtain ⟨e1, he1⟩ : ∃ d, d1[k] = d := ⟨_, rfl⟩
      rw [he1] at g0 g1 g2 g3 hd1 HN1
      have HA := hidIt (act_any pa e1 _ wr HTW.out.a hd1)
      clear he1
      by_cases p2 : k < d2.length
      · have p2' : (k : Int) < (d2.length : Int) := by omega
        have HN2 := hidIt (actsR_snoc [] d2 k p2)
        clear hx1 hx2
        go_wp2_with fail
        refine HA.out.mono ?_
        rintro r u1 ⟨rfl, h1⟩
        have HT1 := hidIt (HTW.out.goA h1 (by omega) l1 l2 l3)
        clear h1
        obtain ⟨_, hx2⟩ := HNX.out _ _ _ _ _ HT1.out
        obtain ⟨sb2, off2, rfl, hsB2, hsw2, y0, y1, y2, y3⟩ := hx2.at_ k p2
        have hd2 := HOK2.out d2[k] (List.getElem_mem _)
        obtain ⟨e2, he2⟩ : ∃ d, d2[k] = d := ⟨_, rfl⟩
        rw [he2] at y0 y1 y2 y3 hd2 HN2
        have HB := hidIt (act_any pb e2 _ u1 HT1.out.b hd2)
        clear he2 hx2
        go_wp2_with fail
        refine HB.out.mono ?_
        rintro r u2 ⟨rfl, h2⟩
        have HT2 := hidIt (HT1.out.goB h2 (by omega) l1 l2 l3)
        clear h2
        rw [← HN1.out, ← HN2.out] at HT2
        go_wp2_with fail
        go_roundw
        case rel => exact ⟨k + 1, by omega, by go_num, HT2.out⟩
        case measure => simp [intOf]; omega
      · have p2' : ¬ (k : Int) < (d2.length : Int) := by omega
        have HN2 := hidIt (actsR_more [] d2 k (by omega))
        clear hx1 hx2
        go_wp2_with fail
        refine HA.out.mono ?_
        rintro r u1 ⟨rfl, h1⟩
        have HT1 := hidIt (HTW.out.goA h1 (by omega) l1 l2 l3)
        clear h1
        rw [← HN1.out, ← HN2.out] at HT1
        go_wp2_with fail
        go_roundw
        case rel => exact ⟨k + 1, by omega, by go_num, HT1.out⟩
        case measure => simp [intOf]; omega
    · have p1' : ¬ (k : Int) < (d1.length : Int) := by omega
      have HN1 := hidIt (actsR_more [] d1 k (by omega))
      by_cases p2 : k < d2.length
      · have p2' : (k : Int) < (d2.length : Int) := by omega
        obtain ⟨sb2, off2, rfl, hsB2, hsw2, y0, y1, y2, y3⟩ := hx2.at_ k p2
        have hd2 := HOK2.out d2[k] (List.getElem_mem _)
        have HN2 := hidIt (actsR_snoc [] d2 k p2)
        obtain ⟨e2, he2⟩ : ∃ d, d2[k] = d := ⟨_, rfl⟩
        rw [he2] at y0 y1 y2 y3 hd2 HN2
        have HB := hidIt (act_any pb e2 _ wr HTW.out.b hd2)
        clear he2 hx1 hx2
        go_wp2_with fail
        refine HB.out.mono ?_
        rintro r u2 ⟨rfl, h2⟩
        have HT2 := hidIt (HTW.out.goB h2 (by omega) l1 l2 l3)
        clear h2
        rw [← HN1.out, ← HN2.out] at HT2
        go_wp2_with fail
        go_roundw
        case rel => exact ⟨k + 1, by omega, by go_num, HT2.out⟩
        case measure => simp [intOf]; omega
      · have p2' : ¬ (k : Int) < (d2.length : Int) := by omega
        have HTE : Hid (Tw w pa pb pc pd (actsR [] d1) (actsR [] d2) [] [] wr) := by have := HTW.out; rwa [List.take_of_length_le (show d1.length ≤ k by omega), List.take_of_length_le (show d2.length ≤ k by omega)] at this
        have HC := hidIt (acts_any pc w.heap.size (.slice a1 d1.length c1) d1.length d1 [] wr HTE.out.c hx1 (by omega) HOK1.out hm1)
        rw [List.take_of_length_le (Nat.le_refl _)] at HC
        clear hx1 hx2 HTW
        go_wp2_with fail
        refine HC.out.mono ?_
        rintro r u1 ⟨rfl, h1⟩
        have HT1 := hidIt (HTE.out.goC h1 (by omega) l1 l2 l3)
        clear h1 HC
        have HD := hidIt (acts_any pd w.heap.size (.slice a2 d2.length c2) d2.length d2 [] u1 HT1.out.d (HNX.out _ _ _ _ _ HT1.out).2 (by omega) HOK2.out hm2)
        rw [List.take_of_length_le (Nat.le_refl _)] at HD
        go_wp2_with fail
        refine HD.out.mono ?_
        rintro r u2 ⟨rfl, h2⟩
        have HT2 := hidIt (HT1.out.goD h2 (by omega) l1 l2 l3)
        clear h2 HD
        have HL1 := hidIt (alike_any pa pc _ u2 HT2.out.a HT2.out.c)
        go_wp2_with fail
        refine HL1.out.mono ?_
        rintro r u3 ⟨rfl, hb3⟩
        have HT3 := hidIt (HT2.out.stay hb3)
        clear hb3 HL1
        have HL2 := hidIt (alike_any pb pd _ u3 HT3.out.b HT3.out.d)
        go_wp2_with fail
        refine HL2.out.mono ?_
        rintro r u4 ⟨rfl, hb4⟩
        have HT4 := hidIt (HT3.out.stay hb4)
        clear hb4 HL2
        go_wp2_with fail
        go_ret
        exact ⟨rfl, HT4.out.below⟩

end Go.Proofs.Ytfdalbmopaemgab
