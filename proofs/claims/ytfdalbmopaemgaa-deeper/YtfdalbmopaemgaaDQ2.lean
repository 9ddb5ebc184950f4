import Derived.Test.YtfdalbmopaemgaaDQ
namespace Go.Proofs.Ytfdalbmopaemgaa
open Go.RowKit

set_option maxRecDepth 100000 in
set_option maxHeartbeats 8000000 in
theorem deeper_long (a : Option Addr) (c : Nat) (ls : List Int) (cut : Int) (w : World) (hs : SlI w (.slice a ls.length c) ls) (hl32 : ∀ x ∈ ls, -2147483648 ≤ x ∧ x ≤ 2147483647) (hlen : 15 < ls.length) :
    Calls Try.prog 4 #[.slice a ls.length c, .int .i64 cut] w fun e w' => e = .returned (.bool true) ∧ Below w.heap.size w w' := by
  obtain ⟨f, hf⟩ : ∃ f : Nat → Int, (fun k => ls.getD k 0) = f := ⟨_, rfl⟩
  have hfit : ∀ i, -2147483648 ≤ f i ∧ f i ≤ 2147483647 := by
    intro i
    rw [← hf]
    by_cases hi : i < ls.length
    · simp only [List.getD, List.getElem?_eq_getElem hi, Option.getD_some]
      exact hl32 _ (List.getElem_mem _)
    · simp only [List.getD, List.getElem?_eq_none (Nat.le_of_not_lt hi), Option.getD_none]
      omega
  have HS := hidIt hs
  have HF := hidIt hf
  have hlen' : (15 : Int) < (ls.length : Int) := by omega
  have HOK := hidIt (ch_ok f hfit cut (15) (by omega))
  have HDP := hidIt (deeper_pure f cut (15) (by omega))
  have HLC : Hid ((chL f cut (15)).length ≤ 1048576) := by show _ ≤ _; unfold chL; rw [List.length_append, upL_length, dnL_length]; omega
  clear hs hf hfit hl32
  obtain ⟨i0, hi, hz0, hz1, hz2⟩ := info_parts Try.infoEv5
  have HI := hidIt hi
  have HZ0 := hidIt hz0
  have HZ1 := hidIt hz1
  have HZ2 := hidIt hz2
  clear hi hz0 hz1 hz2
  go_enter Try.func4, Try.ntmps4
  go_wp2_with fail
  go_loopw [6, 7, 8, 9] (fun h s kp i wr => ∃ k : Nat, k ≤ 15 ∧ i = .int .i64 k ∧ DeLoop w f cut k h s kp wr) (fun _ _ _ i _ => 15 - (intOf i).toNat)
  case atStart => exact ⟨0, by omega, rfl, rfl, rfl, Own.nil _ _, Below.refl _ _⟩
  case round =>
    obtain ⟨k, hk, rfl, rfl, rfl, hown, hnx⟩ := hrel
    obtain ⟨ha, hc, rfl⟩ := hown.form
    have hul := upL_length f k
    by_cases hlt : k < 15
    · have hlt' : (k : Int) < (15 : Int) := by omega
      have hlt2 : (k : Int) < (ls.length : Int) := by omega
      have hk0 : (0 : Int) ≤ (k : Int) := by omega
      have hk15 : (k : Int) < 15 := by omega
      obtain ⟨bb, off, rfl, hbb, gl⟩ := HS.out.at_ hnx k (by omega)
      have HFK : Hid (ls.getD k 0 = f k) := congrFun HF.out k
      rw [HFK.out] at gl
      unfold Own at hown
      have HUL := hidIt hul
      clear hul
      go_wp2_with (at_builtin; refine wpList_append_own _ rfl _ _ 24 rfl w.heap.size 23 i0 (.agg #[.int .u8 0, .int .u8 0, .int .u8 0, .int .i32 0, .int .i32 0]) 5 12 Try.underlying24 HI.out HZ0.out HZ1.out HZ2.out rfl (by decide) _ _ _ rfl (World.ownsRow.alloc hown _) ⟨wr.heap.size, 0, none⟩ 1 1 (evC (bgE k)) rfl rfl ?c1 ?c2 ?c3 ?c4 ?c5 ?_)
      case c1 => exact evC_new1 wr _ (bgE k)
      case c2 => exact evC_one (bgE k)
      case c3 => rw [HUL.out]; unfold maxLen; omega
      case c4 => rw [HUL.out]; omega
      case c5 => have := hnx.size; simp; omega
      intro v2 w2 hown2 hgrow2 _
      have hnx2 : Below w.heap.size w w2 := by
        refine Below.grown (hnx.alloc hnx.size _) hgrow2 (by have := hnx.size; simp; omega) (fun j hj => ?_)
        exact (World.ownsRow.lt hown j hj).1
      have hown2' := own_snoc hown2
      have hul2 : (upL f k ++ [bgE k]).length = 2 * k + 1 := by rw [List.length_append, HUL.out]; rfl
      obtain ⟨L2, hL2⟩ : ∃ L2, upL f k ++ [bgE k] = L2 := ⟨_, rfl⟩
      rw [hL2] at hown2' hul2
      have HL2 : Hid (L2 ++ [adE f k] = upL f (k + 1)) := by show _ = _; rw [← hL2]; rfl
      clear hL2
      obtain ⟨ha2, hc2, hv2⟩ := hown2'.form
      subst hv2
      have hbb2 : bb < w2.heap.size ∧ w2.cell? ⟨bb, off + k, none⟩ = some (.int .i32 (f k)) := by
        obtain ⟨b', o', he, h1, h2⟩ := HS.out.at_ hnx2 k (by omega)
        simp only [Option.some.injEq, Addr.mk.injEq] at he
        obtain ⟨rfl, rfl, _⟩ := he
        rw [HFK.out] at h2
        exact ⟨h1, h2⟩
      obtain ⟨hb2, gl2⟩ := hbb2
      unfold Own at hown2'
      have HUL2 := hidIt hul2
      clear gl hown hown2 hgrow2 hul2
      go_wp2_with (at_builtin; refine wpList_append_own _ rfl _ _ 24 rfl w.heap.size 23 i0 (.agg #[.int .u8 0, .int .u8 0, .int .u8 0, .int .i32 0, .int .i32 0]) 5 12 Try.underlying24 HI.out HZ0.out HZ1.out HZ2.out rfl (by decide) _ _ _ rfl (World.ownsRow.alloc hown2' _) ⟨w2.heap.size, 0, none⟩ 1 1 (evC (adE f k)) rfl rfl ?d1 ?d2 ?d3 ?d4 ?d5 ?_)
      case d1 => exact evC_new1 w2 _ (adE f k)
      case d2 => exact evC_one (adE f k)
      case d3 => rw [HUL2.out]; unfold maxLen; omega
      case d4 => rw [HUL2.out]; omega
      case d5 => have := hnx2.size; simp; omega
      intro v3 w3 hown3 hgrow3 _
      have hnx3 : Below w.heap.size w w3 := by
        refine Below.grown (hnx2.alloc hnx2.size _) hgrow3 (by have := hnx2.size; simp; omega) (fun j hj => ?_)
        exact (World.ownsRow.lt hown2' j hj).1
      have hbb3 : bb < w3.heap.size ∧ w3.cell? ⟨bb, off + k, none⟩ = some (.int .i32 (f k)) := by
        obtain ⟨b', o', he, h1, h2⟩ := HS.out.at_ hnx3 k (by omega)
        simp only [Option.some.injEq, Addr.mk.injEq] at he
        obtain ⟨rfl, rfl, _⟩ := he
        rw [HFK.out] at h2
        exact ⟨h1, h2⟩
      obtain ⟨hb3, gl3⟩ := hbb3
      have hown4 := own_snoc hown3
      rw [HL2.out] at hown4
      have HR := hidIt (And.intro hown4 hnx3)
      clear gl2 hown2' hown3 hgrow3 hnx3 hown4
      by_cases hcut : (k : Int) < cut
      · have HKP : Hid (keptL f cut (k + 1) = wrap32 (sumL f k + f k)) := by show _ = _; rw [keptL, if_pos hcut, sumL]
        go_wp2_with fail
        go_roundw
        case rel => exact ⟨k + 1, by omega, by go_num, rfl, by rw [HKP.out], HR.out.1, HR.out.2⟩
        case measure => simp [intOf]; omega
      · have HKP : Hid (keptL f cut (k + 1) = keptL f cut k) := by show _ = _; rw [keptL, if_neg hcut]
        go_wp2_with fail
        go_roundw
        case rel => exact ⟨k + 1, by omega, by go_num, rfl, by rw [HKP.out], HR.out.1, HR.out.2⟩
        case measure => simp [intOf]; omega
    · have hge : ¬ (k : Int) < (15 : Int) := by omega
      have hkn : k = 15 := by omega
      subst hkn
      have HR1 : Hid (Own wr w.heap.size (.slice ha (upL f (15)).length hc) (upL f (15) ++ dnL cut (15) 0)) := by show Own _ _ _ _; rw [dnL, List.append_nil]; exact hown
      have HN1 := hidIt hnx
      clear hown hnx hul
      go_wp2_with fail
      clear hge hlt
      go_loopw [6, 11] (fun h i wr => ∃ j : Nat, j ≤ 15 ∧ i = .int .i64 ((15 : Int) - 1 - (j : Int)) ∧ DeLoop2 w f cut (15) j h wr) (fun _ i _ => (intOf i + 1).toNat)
      case atStart => exact ⟨0, by omega, by simp, HR1.out, HN1.out⟩
      case round =>
        clear HR1 HN1
        obtain ⟨j, hj, rfl, hown, hnx⟩ := hrel
        obtain ⟨hb, hd, rfl⟩ := hown.form
        by_cases hlt : j < 15
        · obtain ⟨q, hq⟩ : ∃ q : Nat, (15 : Int) - 1 - (j : Int) = (q : Int) := ⟨((15 : Int) - 1 - (j : Int)).toNat, by omega⟩
          have hqn : 15 - 1 - j = q := by omega
          have hq15 : (q : Int) < 15 := by omega
          have hq0 : (0 : Int) ≤ (q : Int) := by omega
          have HQJ : Hid ((15 : Int) - 1 - ((j + 1 : Nat) : Int) = (q : Int) - 1) := by show _ = _; omega
          have HUL : Hid ((upL f (15) ++ dnL cut (15) j).length ≤ 60) := by show _ ≤ _; rw [List.length_append, upL_length, dnL_length]; omega
          have HSN : Hid (∀ e, enE cut q = e → upL f (15) ++ dnL cut (15) j ++ [e] = upL f (15) ++ dnL cut (15) (j + 1)) := fun e he => by rw [dnL, hqn, he, List.append_assoc]
          obtain ⟨L, hL⟩ : ∃ L, upL f (15) ++ dnL cut (15) j = L := ⟨_, rfl⟩
          rw [hL] at hown HUL HSN
          rw [hL, hq]
          clear hL hqn hq
          unfold Own at hown
          cases hqc : ((q : Int) == cut) with
          | true =>
            have HEN : Hid (enE cut q = ⟨6, (q : Int) + 1, 0, 0, 0⟩) := by show _ = _; unfold enE; rw [if_pos (by simpa using hqc)]; rfl
            go_wp2_with (at_builtin; refine wpList_append_own _ rfl _ _ 24 rfl w.heap.size 23 i0 (.agg #[.int .u8 0, .int .u8 0, .int .u8 0, .int .i32 0, .int .i32 0]) 5 12 Try.underlying24 HI.out HZ0.out HZ1.out HZ2.out rfl (by decide) _ _ _ rfl (World.ownsRow.alloc hown _) ⟨wr.heap.size, 0, none⟩ 1 1 (evC ⟨6, (q : Int) + 1, 0, 0, 0⟩) rfl rfl ?c1 ?c2 ?c3 ?c4 ?c5 ?_)
            case c1 => exact evC_new1 wr _ ⟨6, (q : Int) + 1, 0, 0, 0⟩
            case c2 => exact evC_one _
            case c3 => have := HUL.out; unfold maxLen; omega
            case c4 => have := HUL.out; omega
            case c5 => have := hnx.size; simp; omega
            intro v2 w2 hown2 hgrow2 _
            have hnx2 : Below w.heap.size w w2 := by
              refine Below.grown (hnx.alloc hnx.size _) hgrow2 (by have := hnx.size; simp; omega) (fun j hj => ?_)
              exact (World.ownsRow.lt hown j hj).1
            have hown3 := own_snoc hown2
            rw [HSN.out _ HEN.out] at hown3
            have HR := hidIt (And.intro hown3 hnx2)
            clear hown2 hgrow2 hown3 hnx2
            go_wp2_with fail
            go_roundw
            case rel => exact ⟨j + 1, by omega, by rw [HQJ.out], HR.out.1, HR.out.2⟩
            case measure => simp [intOf]
          | false =>
            have HEN : Hid (enE cut q = ⟨5, (q : Int) + 1, 0, 0, 0⟩) := by show _ = _; unfold enE; rw [if_neg (by simpa using hqc)]; rfl
            go_wp2_with (at_builtin; refine wpList_append_own _ rfl _ _ 24 rfl w.heap.size 23 i0 (.agg #[.int .u8 0, .int .u8 0, .int .u8 0, .int .i32 0, .int .i32 0]) 5 12 Try.underlying24 HI.out HZ0.out HZ1.out HZ2.out rfl (by decide) _ _ _ rfl (World.ownsRow.alloc hown _) ⟨wr.heap.size, 0, none⟩ 1 1 (evC ⟨5, (q : Int) + 1, 0, 0, 0⟩) rfl rfl ?c1 ?c2 ?c3 ?c4 ?c5 ?_)
            case c1 => exact evC_new1 wr _ ⟨5, (q : Int) + 1, 0, 0, 0⟩
            case c2 => exact evC_one _
            case c3 => have := HUL.out; unfold maxLen; omega
            case c4 => have := HUL.out; omega
            case c5 => have := hnx.size; simp; omega
            intro v2 w2 hown2 hgrow2 _
            have hnx2 : Below w.heap.size w w2 := by
              refine Below.grown (hnx.alloc hnx.size _) hgrow2 (by have := hnx.size; simp; omega) (fun j hj => ?_)
              exact (World.ownsRow.lt hown j hj).1
            have hown3 := own_snoc hown2
            rw [HSN.out _ HEN.out] at hown3
            have HR := hidIt (And.intro hown3 hnx2)
            clear hown2 hgrow2 hown3 hnx2
            go_wp2_with fail
            go_roundw
            case rel => exact ⟨j + 1, by omega, by rw [HQJ.out], HR.out.1, HR.out.2⟩
            case measure => simp [intOf]
        · have hjn : j = 15 := by omega
          subst hjn
          have hm1 : (15 : Int) - 1 - ((15 : Nat) : Int) = -1 := by omega
          rw [hm1]
          clear hm1
          obtain ⟨hck, V, hrg, hv0, hv1, hv2, hv3⟩ := HDP.out
          unfold chL at hck hrg
          unfold chL at HOK HLC
          obtain ⟨es, hes⟩ : ∃ es, upL f (15) ++ dnL cut (15) (15) = es := ⟨_, rfl⟩
          rw [hes] at hck hrg HOK HLC hown
          rw [hes]
          have HCK := hidIt hck
          have HRG := hidIt hrg
          have HV := hidIt (And.intro hv0 (And.intro hv1 (And.intro hv2 hv3)))
          have HOWN := hidIt hown
          clear hck hrg hv0 hv1 hv2 hv3 hes hown HDP
          by_cases hcut : cut < 0
          · have HK : Hid (V 1 = sumL f (15)) := by show _ = _; rw [HV.out.2.1]; unfold keptF; rw [if_pos hcut]
            go_wp2_with fail
            refine (check_all _ es _ HOWN.out.slEv HOK.out HLC.out).mono ?_
            rintro r w1 ⟨rfl, hb1⟩
            rw [HCK.out]
            simp only
            have hnx1 := hnx.trans (hb1.mono hnx.size)
            go_wp2_with fail
            refine (replay_all _ es _ (HOWN.out.slEv.below hb1) HOK.out HLC.out).mono ?_
            rintro r w2 ⟨rfl, hb2⟩
            rw [HRG.out]
            simp only [valsV]
            rw [HV.out.1, HV.out.2.2.1, HV.out.2.2.2, HK.out]
            have hnx2 := hnx1.trans (hb2.mono hnx1.size)
            have heqv := Try.eqVals
            go_wp2_with fail
            go_ret
            exact ⟨ret_bool (by simp), hnx2.alloc hnx2.size _⟩
          · have HK : Hid (V 1 = keptL f cut (15)) := by show _ = _; rw [HV.out.2.1]; unfold keptF; rw [if_neg hcut]
            go_wp2_with fail
            refine (check_all _ es _ HOWN.out.slEv HOK.out HLC.out).mono ?_
            rintro r w1 ⟨rfl, hb1⟩
            rw [HCK.out]
            simp only
            have hnx1 := hnx.trans (hb1.mono hnx.size)
            go_wp2_with fail
            refine (replay_all _ es _ (HOWN.out.slEv.below hb1) HOK.out HLC.out).mono ?_
            rintro r w2 ⟨rfl, hb2⟩
            rw [HRG.out]
            simp only [valsV]
            rw [HV.out.1, HV.out.2.2.1, HV.out.2.2.2, HK.out]
            have hnx2 := hnx1.trans (hb2.mono hnx1.size)
            have heqv := Try.eqVals
            go_wp2_with fail
            go_ret
            exact ⟨ret_bool (by simp), hnx2.alloc hnx2.size _⟩

end Go.Proofs.Ytfdalbmopaemgaa
