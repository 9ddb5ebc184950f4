import Derived.Test.YtfdalbmopaemgabZV8
namespace Go.Proofs.Ytfdalbmopaemgab
open Go.RowKit

/-! ### Begin, Commit, Abort -/
set_option maxRecDepth 100000 in
set_option maxHeartbeats 2000000 in
theorem sbegin_any (b p : Nat) (es : List Ev) (w : World) (h : StC w b es) (hp : p ≤ 255) :
    Calls Try.prog 32 #[.pointer (some ⟨b, 0, none⟩), .int .u8 (p : Int)] w fun r w' => r = .returned (.tuple #[.int .u8 (beginR es (p : Int)).2.1, .int .i64 (beginR es (p : Int)).2.2]) ∧ StP w b (beginR es (p : Int)).1 w' := by
  have HS := hidIt h
  obtain ⟨T, W, O, q, h, hlen⟩ := h
  have j := q.r.s.jj
  have HM := hidIt (may_any b p T w h.tr hp)
  have hmo : mayO T.op (p : Int) = ((p : Int) == 0 || openL es (p : Int)) := by rw [mayO_nat, isO_open j]
  rw [hmo] at HM
  have HFU := hidIt (isFull_any b T O es w h)
  have HBG := hidIt (begun_any b T w h.tr)
  have hn := j.n
  cases hm : ((p : Int) == 0 || openL es (p : Int)) with
  | false =>
    rw [hm] at HM
    have HV : Hid (beginR es (p : Int) = (es, 0, 5)) := by
      show _ = _
      unfold beginR
      rw [Bool.or_eq_false_iff] at hm
      rw [if_pos ⟨by simpa using hm.1, hm.2⟩]
    clear q h j hmo hm hn
    go_enter Try.func32, Try.ntmps32
    go_wp2_with fail
    refine HM.out.mono ?_
    rintro r w1 ⟨rfl, rfl⟩
    go_wp2_with fail
    go_ret2
    exact ⟨by rw [HV.out]; rfl, by rw [HV.out]; exact ⟨HS.out, FrB.refl _ _⟩⟩
  | true =>
    rw [hm] at HM
    have hm' : ¬ ((p : Int) ≠ 0 ∧ openL es (p : Int) = false) := fun q => by rw [q.2] at hm; simp at hm; exact q.1 (by omega)
    by_cases h15 : 15 ≤ T.n
    · have e15 : (15 : Int) ≤ (T.n : Int) := by omega
      have HV : Hid (beginR es (p : Int) = (es, 0, 10)) := by show _ = _; unfold beginR; rw [if_neg hm', if_pos (by omega)]
      clear q h j hmo hm hn hm'
      go_enter Try.func32, Try.ntmps32
      go_wp2_with fail
      refine HM.out.mono ?_
      rintro r w1 ⟨rfl, rfl⟩
      go_wp2_with fail
      refine HBG.out.mono ?_
      rintro r w1 ⟨rfl, rfl⟩
      go_wp2_with fail
      go_ret2
      exact ⟨by rw [HV.out]; rfl, by rw [HV.out]; exact ⟨HS.out, FrB.refl _ _⟩⟩
    · have e15 : ¬ (15 : Int) ≤ (T.n : Int) := by omega
      by_cases h60 : 60 ≤ es.length
      · have HV : Hid (beginR es (p : Int) = (es, 0, 10)) := by show _ = _; unfold beginR; rw [if_neg hm', if_neg (by omega), if_pos h60]
        rw [decide_eq_true h60] at HFU
        clear q h j hmo hm hn hm'
        go_enter Try.func32, Try.ntmps32
        go_wp2_with fail
        refine HM.out.mono ?_
        rintro r w1 ⟨rfl, rfl⟩
        go_wp2_with fail
        refine HBG.out.mono ?_
        rintro r w1 ⟨rfl, rfl⟩
        go_wp2_with fail
        refine HFU.out.mono ?_
        rintro r w1 ⟨rfl, rfl⟩
        go_wp2_with fail
        go_ret2
        exact ⟨by rw [HV.out]; rfl, by rw [HV.out]; exact ⟨HS.out, FrB.refl _ _⟩⟩
      · have HV : Hid (beginR es (p : Int) = (es ++ [⟨1, ((T.n + 1 : Nat) : Int), (p : Int), 0, 0⟩], ((T.n + 1 : Nat) : Int), 0)) := by
          show _ = _
          unfold beginR
          rw [if_neg hm', if_neg (by omega), if_neg h60, show ((countL es : Int) + 1) = ((T.n + 1 : Nat) : Int) by omega]
        rw [decide_eq_false h60] at HFU
        have hr : RInv (es ++ [⟨1, ((T.n + 1 : Nat) : Int), (p : Int), 0, 0⟩]) (beginT T (p : Int)) W := by
          rcases q.r.begin_or p with h1 | ⟨_, _, _, h3⟩
          · rw [HV.out] at h1
            have := congrArg List.length h1
            simp at this
          · exact h3
        have HQ := hidIt (q.begin_ _ (p : Int) rfl (by omega) hr)
        have HB := hidIt (begin_any b p T w h.tr hp (by omega) (by rw [hmo, hm]))
        have HST := hidIt h
        clear q h j hmo hm hn hm' hr
        go_enter Try.func32, Try.ntmps32
        go_wp2_with fail
        refine HM.out.mono ?_
        rintro r w1 ⟨rfl, rfl⟩
        go_wp2_with fail
        refine HBG.out.mono ?_
        rintro r w1 ⟨rfl, rfl⟩
        go_wp2_with fail
        refine HFU.out.mono ?_
        rintro r w1 ⟨rfl, rfl⟩
        go_wp2_with fail
        refine HB.out.mono ?_
        rintro r w2 ⟨rfl, htr, hon⟩
        have HBG2 := hidIt (begun_any b _ w2 htr)
        have HW := hidIt (writeDown_any b (beginT T (p : Int)) O es ⟨1, ((T.n + 1 : Nat) : Int), (p : Int), 0, 0⟩ w2 (HST.out.setTr htr hon) (by omega))
        have HON := hidIt hon
        clear htr hon
        go_wp2_with fail
        refine HBG2.out.mono ?_
        rintro r w4 ⟨rfl, rfl⟩
        go_wp2_with fail
        refine HW.out.mono ?_
        rintro r w3 ⟨rfl, hs3, hf3⟩
        have HR3 := hidIt (And.intro hs3 hf3)
        clear hs3 hf3
        go_wp2_with fail
        go_ret2
        exact ⟨by rw [HV.out]; rfl, by rw [HV.out]; exact ⟨⟨_, _, _, HQ.out, HR3.out.1, by simp; omega⟩, HON.out.toB.fr.trans HR3.out.2⟩⟩

end Go.Proofs.Ytfdalbmopaemgab
