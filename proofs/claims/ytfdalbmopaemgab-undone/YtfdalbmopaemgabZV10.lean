import Derived.Test.YtfdalbmopaemgabZV9
namespace Go.Proofs.Ytfdalbmopaemgab
open Go.RowKit

def upTo (f g : Nat → Ob) (k : Nat) : Nat → Ob := fun x => if x < k then f x else g x

theorem upTo_succ (f g : Nat → Ob) (k : Nat) : upd (upTo f g k) k (f k) = upTo f g (k + 1) := by
  funext x
  unfold upd upTo
  by_cases h : x = k
  · subst h; rw [if_pos rfl, if_pos (by omega)]
  · rw [if_neg h]
    by_cases h2 : x < k
    · rw [if_pos h2, if_pos (by omega)]
    · rw [if_neg h2, if_neg (by omega)]

theorem upTo_self (f g : Nat → Ob) (k : Nat) : upTo f g k k = g k := by unfold upTo; rw [if_neg (by omega)]

def CoLoop (w : World) (b : Nat) (T : Tr) (f g : Nat → Ob) (es : List Ev) (k : Nat) (wr : World) : Prop := StAt wr b T (upTo f g k) es ∧ OnlyB w wr b

theorem StAt.congr {w : World} {b : Nat} {T : Tr} {O O' : Nat → Ob} {es : List Ev} (h : StAt w b T O es) (hh : ∀ x, x < 4 → O' x = O x) : StAt w b T O' es :=
  ⟨h.tr, fun x hx => by rw [hh x hx]; exact h.ob x hx, h.ev, h.n⟩

set_option maxRecDepth 100000 in
set_option maxHeartbeats 4000000 in
theorem scommit_any (b t : Nat) (es : List Ev) (w : World) (h : StC w b es) (ht : t ≤ 255) :
    Calls Try.prog 30 #[.pointer (some ⟨b, 0, none⟩), .int .u8 (t : Int)] w fun r w' => r = .returned (.int .i64 (endR es 5 (t : Int)).2) ∧ StP w b (endR es 5 (t : Int)).1 w' := by
  have HS := hidIt h
  obtain ⟨T, W, O, q, h, hlen⟩ := h
  have j := q.r.s.jj
  have HC := hidIt (isOpen_any b t T w h.tr ht)
  have hio := isO_open j t
  rw [hio] at HC
  have HFU := hidIt (isFull_any b T O es w h)
  have HD := hidIt (child_any b (t : Int) T w h.tr)
  have hce := child_eq j (t : Int)
  rw [hce] at HD
  cases ho : openL es (t : Int) with
  | false =>
    rw [ho] at HC
    have HV : Hid (endR es 5 (t : Int) = (es, 4)) := by show _ = _; unfold endR; rw [if_pos ho]
    clear q h j hio ho hce
    go_enter Try.func30, Try.ntmps30
    go_wp2_with fail
    refine HC.out.mono ?_
    rintro r w1 ⟨rfl, rfl⟩
    go_wp2_with fail
    go_ret
    exact ⟨by rw [HV.out]; rfl, by rw [HV.out]; exact ⟨HS.out, FrB.refl _ _⟩⟩
  | true =>
    rw [ho] at HC
    cases hch : childL es (t : Int) with
    | true =>
      rw [hch] at HD
      have HV : Hid (endR es 5 (t : Int) = (es, 8)) := by show _ = _; unfold endR; rw [if_neg (by rw [ho]; decide), if_pos ⟨rfl, hch⟩]
      clear q h j hio ho hce hch
      go_enter Try.func30, Try.ntmps30
      go_wp2_with fail
      refine HC.out.mono ?_
      rintro r w1 ⟨rfl, rfl⟩
      go_wp2_with fail
      refine HD.out.mono ?_
      rintro r w1 ⟨rfl, rfl⟩
      go_wp2_with fail
      go_ret
      exact ⟨by rw [HV.out]; rfl, by rw [HV.out]; exact ⟨HS.out, FrB.refl _ _⟩⟩
    | false =>
      rw [hch] at HD
      by_cases h60 : 60 ≤ es.length
      · rw [decide_eq_true h60] at HFU
        have HV : Hid (endR es 5 (t : Int) = (es, 10)) := by show _ = _; unfold endR; rw [if_neg (by rw [ho]; decide), if_neg (by rw [hch]; simp), if_pos h60]
        clear q h j hio ho hce hch
        go_enter Try.func30, Try.ntmps30
        go_wp2_with fail
        refine HC.out.mono ?_
        rintro r w1 ⟨rfl, rfl⟩
        go_wp2_with fail
        refine HD.out.mono ?_
        rintro r w1 ⟨rfl, rfl⟩
        go_wp2_with fail
        refine HFU.out.mono ?_
        rintro r w1 ⟨rfl, rfl⟩
        go_wp2_with fail
        go_ret
        exact ⟨by rw [HV.out]; rfl, by rw [HV.out]; exact ⟨HS.out, FrB.refl _ _⟩⟩
      · rw [decide_eq_false h60] at HFU
        have HV : Hid (endR es 5 (t : Int) = (es ++ [⟨5, (t : Int), 0, 0, 0⟩], 0)) := by show _ = _; unfold endR; rw [if_neg (by rw [ho]; decide), if_neg (by rw [hch]; simp), if_neg h60]
        have ht15 := open15 j ho
        obtain ⟨p, hp, hr⟩ : ∃ p : Nat, T.par t = (p : Int) ∧ RInv (es ++ [⟨5, (t : Int), ((0 : Nat) : Int), 0, 0⟩]) (commitT T t) (upd W p (W p ++ W t)) := by
          rcases q.r.end_or 5 t (Or.inl rfl) with h1 | ⟨_, _, h3, _⟩
          · rw [HV.out] at h1
            have := congrArg List.length h1
            simp at this
          · exact (h3 rfl).2
        have hpl := live_le j (live_of_open j ho).1
        have hplt := jj_par j t ht15.1 hpl
        rw [hp, Int.toNat_natCast] at hplt
        have HQ := hidIt (q.commit ⟨5, (t : Int), 0, 0, 0⟩ t p rfl ho hch hp hr)
        have HP := hidIt (parent_any b t T w h.tr ht15.2)
        rw [hp] at HP
        have HL : Hid (∀ x, x < 4 → (O x).rd < 65536 ∧ (O x).wr < 65536) := fun x hx => q.lt16 x hx
        have HA0 : Hid (CoLoop w b T (fun x => handO (O x) t p) O es 0 w) := ⟨h.congr (fun x _ => by unfold upTo; rw [if_neg (by omega)]), OnlyB.refl _ _⟩
        have hoT : T.op t = true := by rw [j.op t ht15.2]; exact ho
        have hct : childT T (t : Int) = false := by rw [hce, hch]
        have HOT := hidIt hoT
        have HCT := hidIt hct
        clear q h j hio ho hce hch hr hp hpl hoT hct
        go_enter Try.func30, Try.ntmps30
        go_wp2_with fail
        refine HC.out.mono ?_
        rintro r w1 ⟨rfl, rfl⟩
        go_wp2_with fail
        refine HD.out.mono ?_
        rintro r w1 ⟨rfl, rfl⟩
        go_wp2_with fail
        refine HFU.out.mono ?_
        rintro r w1 ⟨rfl, rfl⟩
        go_wp2_with fail
        refine HP.out.mono ?_
        rintro r w1 ⟨rfl, rfl⟩
        go_wp2_with fail
        go_loopw [25] (fun i wr => ∃ k : Nat, k ≤ 4 ∧ i = .int .i64 k ∧ CoLoop w1 b T (fun x => handO (O x) t p) O es k wr) (fun i _ => 4 - (intOf i).toNat)
        case atStart => exact ⟨0, by omega, rfl, HA0.out⟩
        case round =>
          obtain ⟨k, hk, rfl, hst, hon⟩ := hrel
          by_cases hlt : k < 4
          · have hlt' : (k : Int) < 4 := by omega
            have hk0 : (0 : Int) ≤ (k : Int) := by omega
            have hob := hst.ob k hlt
            rw [upTo_self] at hob
            have HH := hidIt (handUp_any b (33 + k * 18) t p (O k) wr hob hst.tr.fz (by omega) ht15.2 (by omega) (HL.out k hlt).1 (HL.out k hlt).2)
            have HST := hidIt hst
            have HON := hidIt hon
            clear hst hon hob
            go_wp2_with fail
            refine HH.out.mono ?_
            rintro r w2 ⟨rfl, hob, hoc⟩
            have hn := HST.out.setOb k hlt _ hob hoc
            rw [upTo_succ (fun x => handO (O x) t p) O k] at hn
            have HN : Hid (CoLoop w1 b T (fun x => handO (O x) t p) O es (k + 1) w2) := ⟨hn, HON.out.trans hoc.toB⟩
            clear hn hob hoc
            go_wp2_with fail
            go_roundw
            case rel => exact ⟨k + 1, by omega, by go_num, HN.out⟩
            case measure => simp [intOf]; omega
          · have hge : ¬ (k : Int) < 4 := by omega
            have hk4 : k = 4 := by omega
            subst hk4
            have hst' : StAt wr b T (fun x => handO (O x) t p) es := hst.congr (fun x hx => by unfold upTo; rw [if_pos hx])
            have HCM := hidIt (commit_any b t T wr hst'.tr ht15.2 HOT.out HCT.out)
            have HST := hidIt hst'
            have HON := hidIt hon
            clear hst hst' hon
            go_wp2_with fail
            refine HCM.out.mono ?_
            rintro r w2 ⟨rfl, htr, hc⟩
            have HW := hidIt (writeDown_any b (commitT T t) (fun x => handO (O x) t p) es ⟨5, (t : Int), 0, 0, 0⟩ w2 (HST.out.setTr htr hc) (by omega))
            have HOC := hidIt hc
            clear htr hc
            go_wp2_with fail
            refine HW.out.mono ?_
            rintro r w3 ⟨rfl, hs3, hf3⟩
            have HR3 := hidIt (And.intro hs3 hf3)
            clear hs3 hf3
            go_wp2_with fail
            go_ret
            exact ⟨by rw [HV.out]; rfl, by rw [HV.out]; exact ⟨⟨_, _, _, HQ.out, HR3.out.1, by simp; omega⟩, (HON.out.fr.trans HOC.out.toB.fr).trans HR3.out.2⟩⟩

set_option maxRecDepth 100000 in
set_option maxHeartbeats 4000000 in
theorem sabort_any (b t : Nat) (es : List Ev) (w : World) (h : StC w b es) (ht : t ≤ 255) :
    Calls Try.prog 31 #[.pointer (some ⟨b, 0, none⟩), .int .u8 (t : Int)] w fun r w' => r = .returned (.int .i64 (endR es 6 (t : Int)).2) ∧ StP w b (endR es 6 (t : Int)).1 w' := by
  have HS := hidIt h
  obtain ⟨T, W, O, q, h, hlen⟩ := h
  have j := q.r.s.jj
  have HC := hidIt (isOpen_any b t T w h.tr ht)
  have hio := isO_open j t
  rw [hio] at HC
  have HFU := hidIt (isFull_any b T O es w h)
  cases ho : openL es (t : Int) with
  | false =>
    rw [ho] at HC
    have HV : Hid (endR es 6 (t : Int) = (es, 4)) := by show _ = _; unfold endR; rw [if_pos ho]
    clear q h j hio ho
    go_enter Try.func31, Try.ntmps31
    go_wp2_with fail
    refine HC.out.mono ?_
    rintro r w1 ⟨rfl, rfl⟩
    go_wp2_with fail
    go_ret
    exact ⟨by rw [HV.out]; rfl, by rw [HV.out]; exact ⟨HS.out, FrB.refl _ _⟩⟩
  | true =>
    rw [ho] at HC
    by_cases h60 : 60 ≤ es.length
    · rw [decide_eq_true h60] at HFU
      have HV : Hid (endR es 6 (t : Int) = (es, 10)) := by show _ = _; unfold endR; rw [if_neg (by rw [ho]; decide), if_neg (by simp), if_pos h60]
      clear q h j hio ho
      go_enter Try.func31, Try.ntmps31
      go_wp2_with fail
      refine HC.out.mono ?_
      rintro r w1 ⟨rfl, rfl⟩
      go_wp2_with fail
      refine HFU.out.mono ?_
      rintro r w1 ⟨rfl, rfl⟩
      go_wp2_with fail
      go_ret
      exact ⟨by rw [HV.out]; rfl, by rw [HV.out]; exact ⟨HS.out, FrB.refl _ _⟩⟩
    · rw [decide_eq_false h60] at HFU
      have HV : Hid (endR es 6 (t : Int) = (es ++ [⟨6, (t : Int), 0, 0, 0⟩], 0)) := by show _ = _; unfold endR; rw [if_neg (by rw [ho]; decide), if_neg (by simp), if_neg h60]
      have ht15 := open15 j ho
      have hr : RInv (es ++ [⟨6, (t : Int), ((0 : Nat) : Int), 0, 0⟩]) (abortT T t) W := by
        rcases q.r.end_or 6 t (Or.inr rfl) with h1 | ⟨_, _, _, h4⟩
        · rw [HV.out] at h1
          have := congrArg List.length h1
          simp at this
        · exact h4 rfl
      have HQ := hidIt (q.abort ⟨6, (t : Int), 0, 0, 0⟩ t rfl ho hr)
      have hoT : T.op t = true := by rw [j.op t ht15.2]; exact ho
      have HAB := hidIt (abort_any b t T w h.tr ht15.2 hoT (jj_par255 j))
      have HL : Hid (∀ x, x < 4 → (O x).rd < 65536 ∧ (O x).wr < 65536) := fun x hx => q.lt16 x hx
      have HST0 := hidIt h
      have HML : Hid (openD (abortT T t).op 15 0 < 65536) := openD_lt _ 15 0 (by decide)
      generalize hm : openD (abortT T t).op 15 0 = m at HQ HML
      have HM := hidIt hm
      clear q h j hio ho hr hoT hm
      go_enter Try.func31, Try.ntmps31
      go_wp2_with fail
      refine HC.out.mono ?_
      rintro r w1 ⟨rfl, rfl⟩
      go_wp2_with fail
      refine HFU.out.mono ?_
      rintro r w1 ⟨rfl, rfl⟩
      go_wp2_with fail
      refine HAB.out.mono ?_
      rintro r w2 ⟨rfl, htr, hc⟩
      have HOP := hidIt (open_any b _ w2 htr)
      rw [HM.out] at HOP
      have hs2 := HST0.out.setTr htr hc
      have HA0 : Hid (CoLoop w1 b (abortT T t) (fun x => keepO (O x) m) O es 0 w2) := ⟨hs2.congr (fun x _ => by unfold upTo; rw [if_neg (by omega)]), hc.toB⟩
      clear htr hc hs2
      go_wp2_with fail
      refine HOP.out.mono ?_
      rintro r w4 ⟨rfl, rfl⟩
      go_wp2_with fail
      go_loopw [24] (fun i wr => ∃ k : Nat, k ≤ 4 ∧ i = .int .i64 k ∧ CoLoop w1 b (abortT T t) (fun x => keepO (O x) m) O es k wr) (fun i _ => 4 - (intOf i).toNat)
      case atStart => exact ⟨0, by omega, rfl, HA0.out⟩
      case round =>
        obtain ⟨k, hk, rfl, hst, hon⟩ := hrel
        by_cases hlt : k < 4
        · have hlt' : (k : Int) < 4 := by omega
          have hk0 : (0 : Int) ≤ (k : Int) := by omega
          have hob := hst.ob k hlt
          rw [upTo_self] at hob
          have HH := hidIt (keepOnly_any b (33 + k * 18) m (O k) wr hob hst.tr.fz HML.out (HL.out k hlt).1 (HL.out k hlt).2)
          have HST := hidIt hst
          have HON := hidIt hon
          clear hst hon hob
          go_wp2_with fail
          refine HH.out.mono ?_
          rintro r w2 ⟨rfl, hob, hoc⟩
          have hn := HST.out.setOb k hlt _ hob hoc
          rw [upTo_succ (fun x => keepO (O x) m) O k] at hn
          have HN : Hid (CoLoop w1 b (abortT T t) (fun x => keepO (O x) m) O es (k + 1) w2) := ⟨hn, HON.out.trans hoc.toB⟩
          clear hn hob hoc
          go_wp2_with fail
          go_roundw
          case rel => exact ⟨k + 1, by omega, by go_num, HN.out⟩
          case measure => simp [intOf]; omega
        · have hge : ¬ (k : Int) < 4 := by omega
          have hk4 : k = 4 := by omega
          subst hk4
          have hst' : StAt wr b (abortT T t) (fun x => keepO (O x) m) es := hst.congr (fun x hx => by unfold upTo; rw [if_pos hx])
          have HW := hidIt (writeDown_any b (abortT T t) (fun x => keepO (O x) m) es ⟨6, (t : Int), 0, 0, 0⟩ wr hst' (by omega))
          have HON := hidIt hon
          clear hst hst' hon
          go_wp2_with fail
          refine HW.out.mono ?_
          rintro r w3 ⟨rfl, hs3, hf3⟩
          have HR3 := hidIt (And.intro hs3 hf3)
          clear hs3 hf3
          go_wp2_with fail
          go_ret
          exact ⟨by rw [HV.out]; rfl, by rw [HV.out]; exact ⟨⟨_, _, _, HQ.out, HR3.out.1, by simp; omega⟩, HON.out.fr.trans HR3.out.2⟩⟩

end Go.Proofs.Ytfdalbmopaemgab
