import Derived.Test.YtfdalbmopaemgabZZ2
namespace Go.Proofs.Ytfdalbmopaemgab
open Go.RowKit

set_option maxRecDepth 100000 in
set_option maxHeartbeats 8000000 in
theorem undone_walk (v1 v2 : Value) (p : Nat) (d1 d2 : List StD) (w : World) (hs1 : SlSt w w.heap.size v1 d1) (hs2 : SlSt w w.heap.size v2 d2) (hp : p ≤ 255) (hok1 : ∀ d ∈ d1, d.Ok) (hok2 : ∀ d ∈ d2, d.Ok) (hm1 : d1.length ≤ 9223372036854775807) :
    Calls Try.prog 4 #[v1, .int .u8 (p : Int), v2] w fun r w' => r = .returned (.bool true) ∧ Below w.heap.size w w' := by
  have heq := Try.eqVals
  obtain ⟨a1, c1, rfl⟩ := hs1.form
  obtain ⟨a2, c2, rfl⟩ := hs2.form
  have HS1 := hidIt hs1
  have HS2 := hidIt hs2
  have HOK1 := hidIt hok1
  have HOK2 := hidIt hok2
  have HEO : Hid (∀ e ∈ actsR [] (d1.take 20), e.Ok) := actsR_ok (d1.take 20) [] (fun e he => (by cases he)) (fun d hd => hok1 d (List.mem_of_mem_take hd))
  have HEL : Hid ((actsR [] (d1.take 20)).length ≤ 20) := by
    have := actsR_len (d1.take 20) []
    show _ ≤ _
    simp at this
    omega
  clear hs1 hs2 hok1 hok2
  go_enter Try.func4, Try.ntmps4
  go_wp2_with fail
  refine (known_any _).mono ?_
  rintro r wk ⟨rfl, hbk⟩
  go_wp2_with fail
  refine (new_any wk).mono ?_
  rintro r wa ⟨rfl, ha, hba⟩
  go_wp2_with fail
  refine (new_any wa).mono ?_
  rintro r wb ⟨rfl, hb, hbb⟩
  have l1 : wk.heap.size < wa.heap.size := ha.lt
  have l0 : w.heap.size ≤ wk.heap.size := hbk.size
  have T1 : UnW w wk.heap.size wa.heap.size [] [] wb := by
    have x1 := ha.of_heap (hbb.block _ ha.lt) hbb.size
    have u1 := hbk.trans (hba.mono hbk.size)
    exact ⟨x1, hb, u1.trans (hbb.mono u1.size)⟩
  obtain ⟨pa, hpa⟩ : ∃ x, wk.heap.size = x := ⟨_, rfl⟩
  obtain ⟨pb, hpb⟩ : ∃ x, wa.heap.size = x := ⟨_, rfl⟩
  rw [hpa, hpb] at T1
  rw [hpa] at l0 l1 ⊢
  rw [hpb] at l1 ⊢
  have H0 := hidIt T1
  clear ha hb hba hbb hbk T1 hpa hpb
  have HNX : Hid (∀ ea eb wr, UnW w pa pb ea eb wr → SlSt wr w.heap.size (.slice a1 d1.length c1) d1 ∧ SlSt wr w.heap.size (.slice a2 d2.length c2) d2) := fun ea eb wr h => ⟨HS1.out.stay h.below.size (fun k hk _ => h.below.block k hk), HS2.out.stay h.below.size (fun k hk _ => h.below.block k hk)⟩
  have HA := hidIt (acts_any pa w.heap.size (.slice a1 d1.length c1) 20 d1 [] wb H0.out.a (HNX.out _ _ _ H0.out).1 (by omega) HOK1.out hm1)
  go_wp2_with fail
  refine HA.out.mono ?_
  rintro r u1 ⟨rfl, h1⟩
  have HT1 := hidIt (H0.out.goA h1 (by omega) l1)
  clear h1 HA
  have HB := hidIt (acts_any pb w.heap.size (.slice a1 d1.length c1) 20 d1 [] u1 HT1.out.b (HNX.out _ _ _ HT1.out).1 (by omega) HOK1.out hm1)
  go_wp2_with fail
  refine HB.out.mono ?_
  rintro r u2 ⟨rfl, h2⟩
  have HT2 := hidIt (HT1.out.goB h2 (by omega) l1)
  clear h2 HB HT1 H0
  generalize actsR [] (d1.take 20) = es0 at HT2 HEO HEL
  obtain ⟨T0, W0, hr0⟩ := HT2.out.a.rinv
  have HTWO := hidIt (begin_two hr0 p)
  have HBO := hidIt (begin_ok HEO.out p hp)
  have HBL := hidIt (beginR_len es0 (p : Int))
  clear hr0
  have HBA := hidIt (gbegin pa p es0 u2 HT2.out.a hp)
  go_wp2_with fail
  refine HBA.out.mono ?_
  rintro r u3 ⟨rfl, h3⟩
  have HT3 := hidIt (HT2.out.goA h3 (by omega) l1)
  clear h3 HBA
  have HBB := hidIt (gbegin pb p es0 u3 HT3.out.b hp)
  go_wp2_with fail
  refine HBB.out.mono ?_
  rintro r u4 ⟨rfl, h4⟩
  have HT4 := hidIt (HT3.out.goB h4 (by omega) l1)
  clear h4 HBB HT3 HT2
  obtain ⟨⟨es1, cc, er⟩, hbe⟩ : ∃ y, beginR es0 (p : Int) = y := ⟨_, rfl⟩
  rw [hbe] at HT4 HTWO HBO HBL ⊢
  simp only at HT4 HTWO HBO HBL ⊢
  clear hbe
  rcases HTWO.out with ⟨he, hc0⟩ | ⟨c, hc1, hc15, hce, hux⟩
  · have e1 : (er != 0) = true := by simpa using he
    subst hc0
    clear he
    go_wp2_with fail
    go_ret
    exact ⟨ret_bool (by simp), HT4.out.below⟩
  · simp only [Prod.mk.injEq] at hce
    obtain ⟨rfl, rfl⟩ := hce
    have HUX := hidIt hux
    clear hux HTWO
    go_wp2_with fail
    go_loopw [14] (fun i wr => ∃ (k : Nat) (es : List Ev), k ≤ 20 ∧ k ≤ d2.length ∧ i = .int .i64 k ∧ Hid (UX es0 c es ∧ es.length ≤ 21 + k ∧ ∀ e ∈ es, e.Ok) ∧ UnW w pa pb es es1 wr) (fun i _ => 20 - (intOf i).toNat)
    case atStart => exact ⟨0, es1, by omega, by omega, rfl, ⟨HUX.out, by have := HBL.out; have := HEL.out; omega, HBO.out⟩, HT4.out⟩
    case round =>
      obtain ⟨k, es, hk20, hkl, rfl, HE, hun⟩ := hrel
      have hk0 : (0 : Int) ≤ (k : Int) := by omega
      have HUN := hidIt hun
      clear hun
      by_cases q1 : k < d2.length
      · have q1' : (k : Int) < (d2.length : Int) := by omega
        by_cases q2 : k < 20
        · have q2' : (k : Int) < 20 := by omega
          obtain ⟨sb, off, rfl, hsB, hsw, g0, g1, g2, g3⟩ := (HNX.out _ _ _ HUN.out).2.at_ k q1
          have hd := HOK2.out d2[k] (List.getElem_mem _)
          obtain ⟨⟨dk, dt, dx, dv⟩, hdd⟩ : ∃ d, d2[k] = d := ⟨_, rfl⟩
          rw [hdd] at g0 g1 g2 g3 hd
          obtain ⟨hd1, hd2, hd3, hd4, hd5⟩ := hd
          simp only at g0 g1 g2 g3 hd1 hd2 hd3 hd4 hd5
          clear hdd
          have hbp : Below wr.heap.size wr (wr.alloc (.cells #[.int .u8 (dk : Int), .int .u8 (dt : Int), .int .u8 (dx : Int), .int .i32 dv] 46)) := (Below.refl _ _).alloc (Nat.le_refl _) _
          have HU1 := hidIt (HUN.out.stay hbp)
          clear hbp
          have HH := hidIt (ghistory pa es _ HU1.out.a)
          go_wp2_with fail
          refine HH.out.mono ?_
          rintro r z1 ⟨hv, rfl, ho, hb1⟩
          obtain ⟨ha, hc, rfl⟩ := ho.form
          have HU2 := hidIt (HU1.out.stay hb1)
          have hz1 : wr.heap.size < z1.heap.size := by have := hb1.size; simp at this; omega
          obtain ⟨Tr1, Wr1, hr1⟩ := HU2.out.a.rinv
          have HFM := hidIt (families_any ha hc es z1 ho.slEv HE.out.2.2 (by rw [hr1.serial.1]) (by have := HU2.out.a.len; omega))
          have HC1 : Hid (∀ o, z1.cell? ⟨wr.heap.size, o, none⟩ = (wr.alloc (.cells #[.int .u8 (dk : Int), .int .u8 (dt : Int), .int .u8 (dx : Int), .int .i32 dv] 46)).cell? ⟨wr.heap.size, o, none⟩) := fun o => World.cell?_of_block (a := ⟨wr.heap.size, o, none⟩) (hb1.block _ (by simp))
          have HF1 : Hid (∀ o, z1.frozen? ⟨wr.heap.size, o, none⟩ = false) := fun o => by rw [World.frozen?_of_block (a := ⟨wr.heap.size, o, none⟩) (hb1.block _ (by simp))]; exact World.frozen?_alloc_new _ _ _ _
          clear ho hb1 HH hr1
          go_wp2_with fail
          refine HFM.out.mono ?_
          rintro r z2 ⟨rfl, T', hj', hfa, hb2⟩
          rw [List.take_length] at hj'
          have HU3 := hidIt (HU2.out.stay hb2)
          have HJ' := hidIt hj'
          have hz2 : wr.heap.size < z2.heap.size := Nat.lt_of_lt_of_le hz1 hb2.size
          have HC2 : Hid (∀ o, z2.cell? ⟨wr.heap.size, o, none⟩ = (wr.alloc (.cells #[.int .u8 (dk : Int), .int .u8 (dt : Int), .int .u8 (dx : Int), .int .i32 dv] 46)).cell? ⟨wr.heap.size, o, none⟩) := fun o => (World.cell?_of_block (a := ⟨wr.heap.size, o, none⟩) (hb2.block _ hz1)).trans (HC1.out o)
          have HF2 : Hid (∀ o, z2.frozen? ⟨wr.heap.size, o, none⟩ = false) := fun o => (World.frozen?_of_block (a := ⟨wr.heap.size, o, none⟩) (hb2.block _ hz1)).trans (HF1.out o)
          have HAM := hidIt (among_any z1.heap.size c dt (upT T') (opT T') z2 hfa hc1 hc15 hd2 (fun i _ => upT_lt HJ'.out i))
          have y1 : z2.cell? ⟨wr.heap.size, 1, none⟩ = some (.int .u8 (dt : Int)) := by rw [HC2.out]; simp [go_sem]
          clear hj' hfa hb2 HFM HC1 HF1
          go_wp2_with fail
          refine HAM.out.mono ?_
          rintro r z3 ⟨u, rfl, hu1, hu15, hin, hb3⟩
          have HU4 := hidIt (HU3.out.stay hb3)
          have hz3 : wr.heap.size < z3.heap.size := Nat.lt_of_lt_of_le hz2 hb3.size
          have HC3 : Hid (∀ o, z3.cell? ⟨wr.heap.size, o, none⟩ = (wr.alloc (.cells #[.int .u8 (dk : Int), .int .u8 (dt : Int), .int .u8 (dx : Int), .int .i32 dv] 46)).cell? ⟨wr.heap.size, o, none⟩) := fun o => (World.cell?_of_block (a := ⟨wr.heap.size, o, none⟩) (hb3.block _ hz2)).trans (HC2.out o)
          have f3 : ∀ o, z3.frozen? ⟨wr.heap.size, o, none⟩ = false := fun o => (World.frozen?_of_block (a := ⟨wr.heap.size, o, none⟩) (hb3.block _ hz2)).trans (HF2.out o)
          have x0 : z3.cell? ⟨wr.heap.size, 0, none⟩ = some (.int .u8 (dk : Int)) := by rw [HC3.out]; simp [go_sem]
          have x1 : z3.cell? ⟨wr.heap.size, 1, none⟩ = some (.int .u8 (dt : Int)) := by rw [HC3.out]; simp [go_sem]
          have x2 : z3.cell? ⟨wr.heap.size, 2, none⟩ = some (.int .u8 (dx : Int)) := by rw [HC3.out]; simp [go_sem]
          have x3 : z3.cell? ⟨wr.heap.size, 3, none⟩ = some (.int .i32 dv) := by rw [HC3.out]; simp [go_sem]
          have HIN := hidIt hin
          have hpbl : pb < wr.heap.size := HUN.out.b.lt
          have HU5 : Hid (UnW w pa pb es es1 (z3.setCell ⟨wr.heap.size, 1, none⟩ (.int .u8 (u : Int)))) := ⟨HU4.out.a.of_heap (Below.heap_setCell _ ⟨wr.heap.size, 1, none⟩ _ _ (by simp only; omega)) (by simp), HU4.out.b.of_heap (Below.heap_setCell _ ⟨wr.heap.size, 1, none⟩ _ _ (by simp only; omega)) (by simp), HU4.out.below.setCell (p := ⟨wr.heap.size, 1, none⟩) (by simp only; omega) _⟩
          clear hb3 HAM HC2 HF2 y1 hin
          have HACT : Hid ((u ≠ c ∨ (dk ≠ 5 ∧ dk ≠ 6)) → UX es0 c (actR es ⟨dk, u, dx, dv⟩) ∧ (actR es ⟨dk, u, dx, dv⟩).length ≤ 21 + (k + 1) ∧ ∀ e ∈ actR es ⟨dk, u, dx, dv⟩, e.Ok) := fun hq => ⟨HE.out.1.act ⟨dk, u, dx, dv⟩ HJ'.out hu1 hu15 HIN.out hq, by have := actR_len es ⟨dk, u, dx, dv⟩; have := HE.out.2.1; omega, actR_ok HE.out.2.2 ⟨dk, u, dx, dv⟩ ⟨hd1, by simp only; omega, hd3, hd4, hd5⟩⟩
          have HAA := hidIt (act_any pa ⟨dk, u, dx, dv⟩ es (z3.setCell ⟨wr.heap.size, 1, none⟩ (.int .u8 (u : Int))) HU5.out.a ⟨hd1, by simp only; omega, hd3, hd4, hd5⟩)
          have HEK : Hid (UX es0 c es ∧ es.length ≤ 21 + (k + 1) ∧ ∀ e ∈ es, e.Ok) := ⟨HE.out.1, by have := HE.out.2.1; omega, HE.out.2.2⟩
          by_cases huc : u = c
          · have b1 : ((u : Int) != (c : Int)) = false := by simp; omega
            by_cases hk5 : dk = 5
            · have b2 : ((dk : Int) != 5) = false := by simp; omega
              clear huc hk5
              go_wp2_with fail
              go_roundw
              case rel => exact ⟨k + 1, es, by omega, by omega, by go_num, HEK, HU5.out⟩
              case measure => simp [intOf]; omega
            · have b2 : ((dk : Int) != 5) = true := by simp; omega
              by_cases hk6 : dk = 6
              · have b3 : ((dk : Int) != 6) = false := by simp; omega
                clear huc hk5 hk6
                go_wp2_with fail
                go_roundw
                case rel => exact ⟨k + 1, es, by omega, by omega, by go_num, HEK, HU5.out⟩
                case measure => simp [intOf]; omega
              · have b3 : ((dk : Int) != 6) = true := by simp; omega
                have HAC := hidIt (HACT.out (Or.inr ⟨hk5, hk6⟩))
                clear huc hk5 hk6
                go_wp2_with fail
                refine HAA.out.mono ?_
                rintro r z5 ⟨rfl, h5⟩
                have HU6 := hidIt (HU5.out.goA h5 (by omega) l1)
                clear h5
                go_wp2_with fail
                go_roundw
                case rel => exact ⟨k + 1, _, by omega, by omega, by go_num, HAC, HU6.out⟩
                case measure => simp [intOf]; omega
          · have b1 : ((u : Int) != (c : Int)) = true := by simp; omega
            have HAC := hidIt (HACT.out (Or.inl huc))
            clear huc
            go_wp2_with fail
            refine HAA.out.mono ?_
            rintro r z5 ⟨rfl, h5⟩
            have HU6 := hidIt (HU5.out.goA h5 (by omega) l1)
            clear h5
            go_wp2_with fail
            go_roundw
            case rel => exact ⟨k + 1, _, by omega, by omega, by go_num, HAC, HU6.out⟩
            case measure => simp [intOf]; omega
        · have q2' : ¬ (k : Int) < 20 := by omega
          have HUD := hidIt (HE.out.1.undone (by have := HE.out.2.1; omega))
          have HUE := hidIt (HUX.out.undone (by have := HBL.out; have := HEL.out; omega))
          have HAB := hidIt (gabort pa c es wr HUN.out.a (by omega))
          rw [HUD.out.1] at HAB
          go_wp2_with fail
          refine HAB.out.mono ?_
          rintro r z1 ⟨rfl, h1⟩
          have HZ1 := hidIt (HUN.out.goA h1 (by omega) l1)
          clear h1 HAB
          have HAC := hidIt (gabort pb c es1 z1 HZ1.out.b (by omega))
          rw [HUE.out.1] at HAC
          go_wp2_with fail
          refine HAC.out.mono ?_
          rintro r z2 ⟨rfl, h2⟩
          have HZ2 := hidIt (HZ1.out.goB h2 (by omega) l1)
          clear h2 HAC HZ1
          have HHO : Hid (∀ x : Int, holdersL (endR es 6 (c : Int)).1 x = holdersL (endR es1 6 (c : Int)).1 x) := fun x => (HUD.out.2.1 x).trans (HUE.out.2.1 x).symm
          have HVO : Hid (∀ x : Nat, isL (endR es 6 (c : Int)).1 0 (x : Int) = isL (endR es1 6 (c : Int)).1 0 (x : Int)) := fun x => (HUD.out.2.2 x).trans (HUE.out.2.2 x).symm
          generalize (endR es 6 (c : Int)).1 = eA at HZ2 HHO HVO
          generalize (endR es1 6 (c : Int)).1 = eB at HZ2 HHO HVO
          clear HUD HUE
          go_wp2_with fail
          go_loopw [19] (fun i wr => ∃ x : Nat, x ≤ 4 ∧ i = .int .u8 (x : Int) ∧ UnW w pa pb eA eB wr) (fun i _ => 4 - (intOf i).toNat)
          case atStart => exact ⟨0, by omega, rfl, HZ2.out⟩
          case round =>
            clear HZ2
            obtain ⟨x, hx, rfl, hz⟩ := hrel
            have HZ := hidIt hz
            clear hz
            by_cases hlt : x < 4
            · have hlt' : (x : Int) < 4 := by omega
              have HH1 := hidIt (gholders pa x eA wr HZ.out.a (by omega))
              have hA1 : holdA eA (x : Int) = ((holdersL eB (x : Int)).1, (holdersL eB (x : Int)).2, 0) := by unfold holdA; rw [if_neg (by omega), HHO.out]
              rw [hA1] at HH1
              simp only at HH1
              have HH2 : Hid (∀ n, Calls Try.prog 22 #[.pointer (some ⟨pb, 0, none⟩), .int .u8 (x : Int)] (wr.drewN n) fun r w' => r = .returned (.tuple #[.int .u16 ((holdersL eB (x : Int)).1 : Int), .int .u16 ((holdersL eB (x : Int)).2 : Int), .int .i64 0]) ∧ ∃ m, w' = (wr.drewN n).drewN m) := fun n => by
                have := gholders pb x eB (wr.drewN n) (HZ.out.b.drewN n) (by omega)
                have hA2 : holdA eB (x : Int) = ((holdersL eB (x : Int)).1, (holdersL eB (x : Int)).2, 0) := by unfold holdA; rw [if_neg (by omega)]
                rw [hA2] at this
                exact this
              generalize (holdersL eB (x : Int)).1 = r1 at HH1 HH2
              generalize (holdersL eB (x : Int)).2 = r2 at HH1 HH2
              clear hA1
              go_wp2_with fail
              refine HH1.out.mono ?_
              rintro r z3 ⟨rfl, n, rfl⟩
              go_wp2_with fail
              refine (HH2.out n).mono ?_
              rintro r z4 ⟨rfl, m, rfl⟩
              have HZ4 : Hid (∀ n, UnW w pa pb eA eB (wr.drewN n)) := fun n => ⟨HZ.out.a.drewN n, HZ.out.b.drewN n, below_drewN HZ.out.below n⟩
              go_wp2_with fail
              go_roundw
              case rel => exact ⟨x + 1, by omega, by go_num, HZ4.out _⟩
              case measure => simp [intOf]; omega
            · have hge : ¬ (x : Int) < 4 := by omega
              have HV1 := hidIt (gvalues pa eA wr HZ.out.a)
              unfold valsV at HV1
              dsimp only at HV1
              rw [HVO.out 0, HVO.out 1, HVO.out 2, HVO.out 3] at HV1
              go_wp2_with fail
              refine HV1.out.mono ?_
              rintro r z3 ⟨rfl, hb3⟩
              have hba : Below z3.heap.size z3 (z3.alloc (.cells #[.int .i32 (isL eB 0 ((0 : Nat) : Int)), .int .i32 (isL eB 0 ((1 : Nat) : Int)), .int .i32 (isL eB 0 ((2 : Nat) : Int)), .int .i32 (isL eB 0 ((3 : Nat) : Int))] 53)) := (Below.refl _ _).alloc (Nat.le_refl _) _
              have HZ3 := hidIt ((HZ.out.stay hb3).stay hba)
              clear hb3 hba HV1
              have HV2 := hidIt (gvalues pb eB _ HZ3.out.b)
              go_wp2_with fail
              refine HV2.out.mono ?_
              rintro r z4 ⟨rfl, hb4⟩
              have hsz3 : z3.heap.size < z4.heap.size := by have := hb4.size; simp at this; omega
              have v0 : z4.cell? ⟨z3.heap.size, 0, none⟩ = some (.int .i32 (isL eB 0 ((0 : Nat) : Int))) := by rw [World.cell?_of_block (a := ⟨z3.heap.size, 0, none⟩) (hb4.block _ (by simp))]; simp [go_sem]
              have v1 : z4.cell? ⟨z3.heap.size, 1, none⟩ = some (.int .i32 (isL eB 0 ((1 : Nat) : Int))) := by rw [World.cell?_of_block (a := ⟨z3.heap.size, 1, none⟩) (hb4.block _ (by simp))]; simp [go_sem]
              have v2 : z4.cell? ⟨z3.heap.size, 2, none⟩ = some (.int .i32 (isL eB 0 ((2 : Nat) : Int))) := by rw [World.cell?_of_block (a := ⟨z3.heap.size, 2, none⟩) (hb4.block _ (by simp))]; simp [go_sem]
              have v3 : z4.cell? ⟨z3.heap.size, 3, none⟩ = some (.int .i32 (isL eB 0 ((3 : Nat) : Int))) := by rw [World.cell?_of_block (a := ⟨z3.heap.size, 3, none⟩) (hb4.block _ (by simp))]; simp [go_sem]
              have HZ4 := hidIt (HZ3.out.stay hb4)
              have HBB2 : Hid (∀ c n, Below w.heap.size w ((z4.alloc c).drewN n)) := fun c n => below_drewN (HZ4.out.below.trans ((Below.refl _ _).alloc HZ4.out.below.size c)) n
              clear hb4 HV2
              go_wp2_with fail
              go_ret
              exact ⟨ret_bool (by simp), HBB2.out _ 0⟩
      · have q1' : ¬ (k : Int) < (d2.length : Int) := by omega
        have HUD := hidIt (HE.out.1.undone (by have := HE.out.2.1; omega))
        have HUE := hidIt (HUX.out.undone (by have := HBL.out; have := HEL.out; omega))
        have HAB := hidIt (gabort pa c es wr HUN.out.a (by omega))
        rw [HUD.out.1] at HAB
        go_wp2_with fail
        refine HAB.out.mono ?_
        rintro r z1 ⟨rfl, h1⟩
        have HZ1 := hidIt (HUN.out.goA h1 (by omega) l1)
        clear h1 HAB
        have HAC := hidIt (gabort pb c es1 z1 HZ1.out.b (by omega))
        rw [HUE.out.1] at HAC
        go_wp2_with fail
        refine HAC.out.mono ?_
        rintro r z2 ⟨rfl, h2⟩
        have HZ2 := hidIt (HZ1.out.goB h2 (by omega) l1)
        clear h2 HAC HZ1
        have HHO : Hid (∀ x : Int, holdersL (endR es 6 (c : Int)).1 x = holdersL (endR es1 6 (c : Int)).1 x) := fun x => (HUD.out.2.1 x).trans (HUE.out.2.1 x).symm
        have HVO : Hid (∀ x : Nat, isL (endR es 6 (c : Int)).1 0 (x : Int) = isL (endR es1 6 (c : Int)).1 0 (x : Int)) := fun x => (HUD.out.2.2 x).trans (HUE.out.2.2 x).symm
        generalize (endR es 6 (c : Int)).1 = eA at HZ2 HHO HVO
        generalize (endR es1 6 (c : Int)).1 = eB at HZ2 HHO HVO
        clear HUD HUE
        go_wp2_with fail
        go_loopw [19] (fun i wr => ∃ x : Nat, x ≤ 4 ∧ i = .int .u8 (x : Int) ∧ UnW w pa pb eA eB wr) (fun i _ => 4 - (intOf i).toNat)
        case atStart => exact ⟨0, by omega, rfl, HZ2.out⟩
        case round =>
          clear HZ2
          obtain ⟨x, hx, rfl, hz⟩ := hrel
          have HZ := hidIt hz
          clear hz
          by_cases hlt : x < 4
          · have hlt' : (x : Int) < 4 := by omega
            have HH1 := hidIt (gholders pa x eA wr HZ.out.a (by omega))
            have hA1 : holdA eA (x : Int) = ((holdersL eB (x : Int)).1, (holdersL eB (x : Int)).2, 0) := by unfold holdA; rw [if_neg (by omega), HHO.out]
            rw [hA1] at HH1
            simp only at HH1
            have HH2 : Hid (∀ n, Calls Try.prog 22 #[.pointer (some ⟨pb, 0, none⟩), .int .u8 (x : Int)] (wr.drewN n) fun r w' => r = .returned (.tuple #[.int .u16 ((holdersL eB (x : Int)).1 : Int), .int .u16 ((holdersL eB (x : Int)).2 : Int), .int .i64 0]) ∧ ∃ m, w' = (wr.drewN n).drewN m) := fun n => by
              have := gholders pb x eB (wr.drewN n) (HZ.out.b.drewN n) (by omega)
              have hA2 : holdA eB (x : Int) = ((holdersL eB (x : Int)).1, (holdersL eB (x : Int)).2, 0) := by unfold holdA; rw [if_neg (by omega)]
              rw [hA2] at this
              exact this
            generalize (holdersL eB (x : Int)).1 = r1 at HH1 HH2
            generalize (holdersL eB (x : Int)).2 = r2 at HH1 HH2
            clear hA1
            go_wp2_with fail
            refine HH1.out.mono ?_
            rintro r z3 ⟨rfl, n, rfl⟩
            go_wp2_with fail
            refine (HH2.out n).mono ?_
            rintro r z4 ⟨rfl, m, rfl⟩
            have HZ4 : Hid (∀ n, UnW w pa pb eA eB (wr.drewN n)) := fun n => ⟨HZ.out.a.drewN n, HZ.out.b.drewN n, below_drewN HZ.out.below n⟩
            go_wp2_with fail
            go_roundw
            case rel => exact ⟨x + 1, by omega, by go_num, HZ4.out _⟩
            case measure => simp [intOf]; omega
          · have hge : ¬ (x : Int) < 4 := by omega
            have HV1 := hidIt (gvalues pa eA wr HZ.out.a)
            unfold valsV at HV1
            dsimp only at HV1
            rw [HVO.out 0, HVO.out 1, HVO.out 2, HVO.out 3] at HV1
            go_wp2_with fail
            refine HV1.out.mono ?_
            rintro r z3 ⟨rfl, hb3⟩
            have hba : Below z3.heap.size z3 (z3.alloc (.cells #[.int .i32 (isL eB 0 ((0 : Nat) : Int)), .int .i32 (isL eB 0 ((1 : Nat) : Int)), .int .i32 (isL eB 0 ((2 : Nat) : Int)), .int .i32 (isL eB 0 ((3 : Nat) : Int))] 53)) := (Below.refl _ _).alloc (Nat.le_refl _) _
            have HZ3 := hidIt ((HZ.out.stay hb3).stay hba)
            clear hb3 hba HV1
            have HV2 := hidIt (gvalues pb eB _ HZ3.out.b)
            go_wp2_with fail
            refine HV2.out.mono ?_
            rintro r z4 ⟨rfl, hb4⟩
            have hsz3 : z3.heap.size < z4.heap.size := by have := hb4.size; simp at this; omega
            have v0 : z4.cell? ⟨z3.heap.size, 0, none⟩ = some (.int .i32 (isL eB 0 ((0 : Nat) : Int))) := by rw [World.cell?_of_block (a := ⟨z3.heap.size, 0, none⟩) (hb4.block _ (by simp))]; simp [go_sem]
            have v1 : z4.cell? ⟨z3.heap.size, 1, none⟩ = some (.int .i32 (isL eB 0 ((1 : Nat) : Int))) := by rw [World.cell?_of_block (a := ⟨z3.heap.size, 1, none⟩) (hb4.block _ (by simp))]; simp [go_sem]
            have v2 : z4.cell? ⟨z3.heap.size, 2, none⟩ = some (.int .i32 (isL eB 0 ((2 : Nat) : Int))) := by rw [World.cell?_of_block (a := ⟨z3.heap.size, 2, none⟩) (hb4.block _ (by simp))]; simp [go_sem]
            have v3 : z4.cell? ⟨z3.heap.size, 3, none⟩ = some (.int .i32 (isL eB 0 ((3 : Nat) : Int))) := by rw [World.cell?_of_block (a := ⟨z3.heap.size, 3, none⟩) (hb4.block _ (by simp))]; simp [go_sem]
            have HZ4 := hidIt (HZ3.out.stay hb4)
            have HBB2 : Hid (∀ c n, Below w.heap.size w ((z4.alloc c).drewN n)) := fun c n => below_drewN (HZ4.out.below.trans ((Below.refl _ _).alloc HZ4.out.below.size c)) n
            clear hb4 HV2
            go_wp2_with fail
            go_ret
            exact ⟨ret_bool (by simp), HBB2.out _ 0⟩

end Go.Proofs.Ytfdalbmopaemgab
