import Derived.Test.YtfdalbmopaemgaaGreatDoorL6
namespace Go.Proofs.YtfdalbmopaemgaaGreatDoor
open Go.RowKit

set_option maxRecDepth 100000 in
set_option maxHeartbeats 2000000 in
theorem keep_nil (B wb : Nat) (hv : Value) (hs : List (Value × Int)) (w : World) (h : Inv w B wb hv hs) (hH : hs.length ≤ 10000000) :
    Calls Tryz.prog 27 #[.pointer (some ⟨wb, 0, none⟩), .slice none 0 0] w (KeepPost w B wb hs.length) := by
  obtain ⟨ha, hc, hvf⟩ := h.form
  have c1 := h.cell
  rw [hvf] at c1
  have HV := hidIt hvf
  have HI := hidIt h
  obtain ⟨mark, hmark⟩ : ∃ m : Int, (hs.length : Int) + 1 = m := ⟨_, rfl⟩
  have hm0 : 0 ≤ mark := by omega
  have hm1 : mark ≤ 1073741824 := by omega
  have HM := hidIt hmark
  have hBw : B ≤ w.heap.size := Nat.le_trans h.base (Nat.le_of_lt h.wb_lt)
  have HBW := hidIt hBw
  clear hvf h
  obtain ⟨n0, hn0⟩ : ∃ n0, Hid (0 = n0) := ⟨0, rfl⟩
  have hn00 : n0 ≤ 0 := Nat.le_of_eq hn0.out.symm
  go_enter Tryz.func27, Tryz.ntmps27
  go_wp2_with fail
  clear hmark
  refine (marked_any mark _ hm0 hm1).mono ?_
  rintro r w1 ⟨rfl, hb1⟩
  clear c1
  have hmem : EvAt (w1.alloc (.cells #[.int .u8 (mkEv mark).k, .int .u8 (mkEv mark).t, .int .u8 (mkEv mark).a, .int .i32 (mkEv mark).v, .int .i32 (mkEv mark).s] 41)) w1.heap.size 0 (mkEv mark) := ⟨by simp [go_sem], by simp [go_sem], by simp [go_sem], by simp [go_sem], by simp [go_sem]⟩
  have hb1' : Below w.heap.size w (w1.alloc (.cells #[.int .u8 (mkEv mark).k, .int .u8 (mkEv mark).t, .int .u8 (mkEv mark).a, .int .i32 (mkEv mark).v, .int .i32 (mkEv mark).s] 41)) := hb1.alloc hb1.size _
  go_wp2_with fail
  go_loopw [6] (fun i wr => i = .int .i64 0 ∧ Inv wr B wb hv hs ∧ EvAt wr w1.heap.size 0 (mkEv mark) ∧ w1.heap.size < wr.heap.size ∧ Below B w wr) (fun _ _ => 0)
  case atStart => exact ⟨rfl, HI.out.below hb1', hmem, by simp, hb1'.mono HBW.out⟩
  case round =>
    obtain ⟨rfl, hinv, hme, hmlt, hnx⟩ := hrel
    · have hge : ¬ (0 : Int) < 0 := by omega
      obtain ⟨i1, hi, hz0, hz1, hz2⟩ := info_parts Tryz.infoHold
      have HI1 := hidIt hi
      have HY0 := hidIt hz0
      have HY1 := hidIt hz1
      have HY2 := hidIt hz2
      clear hi hz0 hz1 hz2
      have hl : LInv wr B wb w1.heap.size hv hs (.slice none 0 0) 0 mark :=
        ⟨Own.nil _ _, by simp [Value.ownBlock], by simp [Value.ownBlock], fun k hk => by simp [Value.ownBlock] at hk,
         fun e => by have := (HI.out.hv_lt _ e).2; have := hb1.size; omega, fun e => by have := HI.out.wb_lt; have := hb1.size; omega, hmlt, hme,
         fun x hx k hk hk' => by simp [Value.ownBlock] at hk'⟩
      have c1 := hinv.cell
      rw [HV.out] at c1
      have hBr : B ≤ wr.heap.size := Nat.le_trans hinv.base (Nat.le_of_lt hinv.wb_lt)
      have HIN := hidIt hinv
      have HL := hidIt hl
      clear hinv hl hme
      go_wp2_with (at_builtin; refine wpList_append_two _ rfl _ _ 28 rfl B 39 i1 (.agg #[.slice none 0 0, .int .i32 0]) 2 32 Tryz.underlying28 HI1.out HY0.out HY1.out HY2.out rfl (by decide) hv hs.length (holdCells hs) HV.out.symm (HIN.out.below ((Below.refl _ _).alloc (Nat.le_refl _) _)).row ⟨wr.heap.size, 0, none⟩ 1 1 [.slice none 0 0, .int .i32 mark] rfl rfl (hold_new wr _ _ _) ?c1 (by decide) ?c3 ?c4 ?c5 ?_)
      case c1 => exact ⟨rfl, rfl⟩
      case c3 => unfold maxLen; omega
      case c4 => omega
      case c5 => first | omega | (simp; omega)
      intro hv' w2 hown2 happ2
      obtain ⟨a', c', rfl⟩ := ownsRow_form hown2
      have hI2 := HIN.out.below ((Below.refl wr.heap.size wr).alloc (Nat.le_refl _) (.cells #[.slice none 0 0, .int .i32 mark] 39))
      have hL2 := HL.out.below ((Below.refl wr.heap.size wr).alloc (Nat.le_refl _) (.cells #[.slice none 0 0, .int .i32 mark] 39))
      obtain ⟨k1, k2⟩ := app_cell hI2 happ2
      have hb2 := below_app (hnx.alloc hBr (.cells #[.slice none 0 0, .int .i32 mark] 39)) happ2 (fun j hj => (HIN.out.hv_lt j hj).1) (by simp; omega)
      obtain ⟨s1, s2⟩ := step_holds hI2 hL2 hm0 hm1 (by omega) hown2 happ2
      have HSS : Hid (Loop2 w B wb w1.heap.size hs.length n0 mark 0 (.slice none 0 0) (w2.setCell ⟨wb, 1, none⟩ (.slice a' (hs.length + 1) c'))) :=
        by
        have hn0' := hn0.out
        subst hn0'
        exact ⟨_, _, s1, s2, by simp, hb2.setCell (p := ⟨wb, 1, none⟩) HIN.out.base _, Nat.le_trans s1.base (Nat.le_of_lt s1.wb_lt)⟩
      clear hI2 hL2 hb2 s1 s2 hown2 happ2 c1
      go_wp2_with fail
      go_loopw [1, 7] (fun l i wr => ∃ j : Nat, j ≤ 3 ∧ i = .int .i64 j ∧ Loop2 w B wb w1.heap.size hs.length n0 mark j l wr) (fun _ i _ => 3 - (intOf i).toNat)
      case atStart => exact ⟨0, by omega, rfl, HSS.out⟩
      case round =>
        clear HSS k1 k2
        obtain ⟨j, hj, rfl, hvj, hsj, hij, hlj, hlen, hbj, hBj⟩ := hrel
        have HLEN := hidIt hlen
        have hlenb : hsj.length ≤ 10000004 := by omega
        clear hlen
        by_cases hlt3 : j < 3
        · have hlt3' : (j : Int) < 3 := by omega
          obtain ⟨i0, hi, hz0, hz1, hz2⟩ := info_parts Tryz.infoEv
          have HI0 := hidIt hi
          have HX0 := hidIt hz0
          have HX1 := hidIt hz1
          have HX2 := hidIt hz2
          clear hi hz0 hz1 hz2
          obtain ⟨m0, m1, m2, m3, m4⟩ := hlj.mcell
          simp only [Nat.zero_add] at m1 m2 m3 m4
          have HIJ := hidIt hij
          have HLJ := hidIt hlj
          clear hij hlj
          go_wp2_with (at_builtin; refine wpList_append_two _ rfl _ _ 31 rfl B 41 i0 (.agg #[.int .u8 0, .int .u8 0, .int .u8 0, .int .i32 0, .int .i32 0]) 5 12 Tryz.underlying31 HI0.out HX0.out HX1.out HX2.out rfl (by decide) _ _ _ rfl (HLJ.out.below ((Below.refl _ _).alloc (Nat.le_refl _) _)).own _ 1 1 (evC (mkEv mark)) rfl rfl (evC_new1 _ _ _) ?d1 (by decide) ?d3 ?d4 ?d5 ?_)
          case d1 => exact evC_one _
          case d3 => unfold maxLen; simp; omega
          case d4 => simp; omega
          case d5 => simp; omega
          intro lv' w3 hown3 happ3
          have hI3 := HIJ.out.below ((Below.refl wr.heap.size wr).alloc (Nat.le_refl _) (.cells #[.int .u8 (mkEv mark).k, .int .u8 (mkEv mark).t, .int .u8 (mkEv mark).a, .int .i32 (mkEv mark).v, .int .i32 (mkEv mark).s] 41))
          have hL3 := HLJ.out.below ((Below.refl wr.heap.size wr).alloc (Nat.le_refl _) (.cells #[.int .u8 (mkEv mark).k, .int .u8 (mkEv mark).t, .int .u8 (mkEv mark).a, .int .i32 (mkEv mark).v, .int .i32 (mkEv mark).s] 41))
          have howne : Own w3 B lv' (List.replicate (n0 + j + 1) (mkEv mark)) := by
            unfold Own
            rw [List.replicate_succ', evCells_append, List.length_append, List.length_replicate]
            simpa [evCells] using hown3
          have hb3 := below_app (hbj.alloc hBj (.cells #[.int .u8 (mkEv mark).k, .int .u8 (mkEv mark).t, .int .u8 (mkEv mark).a, .int .i32 (mkEv mark).v, .int .i32 (mkEv mark).s] 41)) happ3 (fun g hg => (World.ownsRow.lt HLJ.out.own g hg).1) (by simp; omega)
          obtain ⟨q1, q2⟩ := step_list hI3 hL3 (by omega) howne happ3
          obtain ⟨la, lc, rfl⟩ := ownsRow_form hown3
          obtain ⟨hja, hjc, rfl⟩ := q1.form
          have c3 := q1.cell
          have hB3 : B ≤ w3.heap.size := Nat.le_trans q1.base (Nat.le_of_lt q1.wb_lt)
          have HQ1 := hidIt q1
          have HQ2 := hidIt q2
          clear hI3 hL3 howne hown3 happ3 q1 q2 m0 m1 m2 m3 m4
          go_wp2_with (at_builtin; refine wpList_append_two _ rfl _ _ 28 rfl B 39 i1 (.agg #[.slice none 0 0, .int .i32 0]) 2 32 Tryz.underlying28 HI1.out HY0.out HY1.out HY2.out rfl (by decide) _ _ _ rfl (HQ1.out.below ((Below.refl _ _).alloc (Nat.le_refl _) _)).row _ 1 1 [.slice la (n0 + j + 1) lc, .int .i32 mark] rfl rfl (hold_new w3 _ _ _) ?e1 (by decide) ?e3 ?e4 ?e5 ?_)
          case e1 => exact hold_cells_one (.slice la (n0 + j + 1) lc) mark rfl
          case e3 => unfold maxLen; omega
          case e4 => omega
          case e5 => first | omega | (simp; omega)
          intro hv4 w4 hown4 happ4
          obtain ⟨a4, c4, rfl⟩ := ownsRow_form hown4
          have hI4 := HQ1.out.below ((Below.refl w3.heap.size w3).alloc (Nat.le_refl _) (.cells #[.slice la (n0 + j + 1) lc, .int .i32 mark] 39))
          have hL4 := HQ2.out.below ((Below.refl w3.heap.size w3).alloc (Nat.le_refl _) (.cells #[.slice la (n0 + j + 1) lc, .int .i32 mark] 39))
          obtain ⟨k1, k2⟩ := app_cell hI4 happ4
          have hb4 := below_app (hb3.alloc hB3 (.cells #[.slice la (n0 + j + 1) lc, .int .i32 mark] 39)) happ4 (fun g hg => (HQ1.out.hv_lt g hg).1) (by simp; omega)
          obtain ⟨s1, s2⟩ := step_holds hI4 hL4 hm0 hm1 (by omega) hown4 happ4
          have HSS : Hid (Loop2 w B wb w1.heap.size hs.length n0 mark (j + 1) (.slice la (n0 + j + 1) lc) (w4.setCell ⟨wb, 1, none⟩ (.slice a4 (hsj.length + 1) c4))) :=
            ⟨_, _, s1, s2, by rw [List.length_append, HLEN.out]; rfl, hb4.setCell (p := ⟨wb, 1, none⟩) HQ1.out.base _, Nat.le_trans s1.base (Nat.le_of_lt s1.wb_lt)⟩
          clear hI4 hL4 hb4 s1 s2 hown4 happ4 c3
          go_wp2_with fail
          go_roundw
          case rel => exact ⟨j + 1, by omega, by go_num, HSS.out⟩
          case measure => simp [intOf]; omega
        · have hge3 : ¬ (j : Int) < 3 := by omega
          have hj3 : j = 3 := by omega
          subst hj3
          go_wp2_with fail
          go_end0
          exact ⟨rfl, hvj, hsj, hij, by rw [HLEN.out], hbj⟩

end Go.Proofs.YtfdalbmopaemgaaGreatDoor
