import Derived.Test.YtfdalbmopaemgabZV5
namespace Go.Proofs.Ytfdalbmopaemgab
open Go.RowKit

theorem xor_not (b : Nat) (hb : b < 65536) : 65535 ^^^ b = 65535 - b := by
  apply Nat.eq_of_testBit_eq
  intro c
  rw [not_bit b c hb, Nat.testBit_xor, show (65535 : Nat) = 2 ^ 16 - 1 from rfl, Nat.testBit_two_pow_sub_one]
  by_cases hc : c < 16
  · rw [decide_eq_true hc]; simp
  · have : b.testBit c = false := Nat.testBit_lt_two_pow (Nat.lt_of_lt_of_le hb (show 2 ^ 16 ≤ 2 ^ c from Nat.pow_le_pow_right (by omega) (by omega)))
    rw [decide_eq_false hc, this]; rfl

theorem not16 (b : Nat) (hb : b < 65536) : bits BinOp.xor IntKind.u16 IntKind.u16.max (b : Int) = ((65535 - b : Nat) : Int) := by
  rw [← xor_not b hb, ← u16_xor_nat 65535 b (by decide) hb]
  rfl

theorem ObPost.go {w w' w'' : World} {b o : Nat} {y : Ob} {r : Ending} (h : OnlyC w w' b o (o + 18)) (h' : ObPost w' b o y r w'') : ObPost w b o y r w'' := ⟨h'.1, h'.2.1, h.trans h'.2.2⟩

set_option maxRecDepth 100000 in
set_option maxHeartbeats 2000000 in
theorem handUp_any (b o t p : Nat) (x : Ob) (w : World) (h : ObAt w b o x) (hf : ∀ o, w.frozen? ⟨b, o, none⟩ = false) (ht0 : t ≠ 0) (ht : t ≤ 15) (hp : p ≤ 15) (hr : x.rd < 65536) (hw : x.wr < 65536) :
    Calls Try.prog 44 #[.pointer (some ⟨b, o, none⟩), .int .u8 (t : Int), .int .u8 (p : Int)] w (ObPost w b o (handO x t p)) := by
  have HH := hidIt h
  have g0 := h.rd
  have g1 := h.wr
  have g2 := h.own t ht
  have h16 : (t : Int) < 16 := by omega
  have HO := hidIt (orBit x.rd p hr)
  have eb := andBit x.rd t hr ht0 ht
  have ec := andBit x.wr t hw ht0 ht
  have HN : Hid (65535 - bitN t < 65536) := by show _ < _; omega
  have hbl := bitN_lt t
  have HX := hidIt (not16 (bitN t) hbl)
  have HR1 := hidIt (or16 hr (bitN_lt p))
  have HW1 := hidIt (or16 hw (bitN_lt p))
  clear h
  cases hrb : x.rd.testBit t with
  | true =>
    rw [hrb] at eb
    have h1 := (HH.out.setRd (x.rd ||| bitN p)).drew
    have c1 : OnlyC w (w.setCell ⟨b, o, none⟩ (.int .u16 ((x.rd ||| bitN p : Nat) : Int))).drew b o (o + 18) := ((OnlyC.refl _ _ _ _).set o (by omega) (by omega) _).drew
    have HH1 := hidIt h1
    have HC1 := hidIt c1
    clear h1 c1
    cases hwb : x.wr.testBit t with
    | true =>
      rw [hwb] at ec
      have HE : Hid (handO x t p = keepO ⟨x.rd ||| bitN p, x.wr ||| bitN p, upd x.own p (x.own t)⟩ (65535 - bitN t)) := by show _ = _; unfold handO keepO; rw [hrb, hwb]; rfl
      clear hrb hwb
      go_enter Try.func44, Try.ntmps44
      go_wp2_with fail
      refine (bit_any t _ (by omega)).mono ?_
      rintro r w4 ⟨rfl, rfl⟩
      go_wp2_with fail
      go_region_with (go_at_call 55; refine (bit_any p _ (by omega)).mono ?_; rintro r w5 ⟨rfl, rfl⟩)
      all_goals (rw [HO.out]; go_wp2_with fail)
      all_goals (refine (write_any b o p (x.own t) _ _ HH1.out (fun o => (HC1.out.fz o).trans (hf o)) hp hw).mono ?_; rintro r w6 hk6; have HK6 := hidIt (ObPost.go HC1.out hk6); clear hk6; obtain rfl := HK6.out.1; go_wp2_with fail)
      all_goals (rw [HX.out]; refine (keepOnly_any b o (65535 - bitN t) _ _ HK6.out.2.1 (fun o => (HK6.out.2.2.fz o).trans (hf o)) HN.out HR1.out HW1.out).mono ?_; rintro r w7 hk; have HK := hidIt (hk.go HK6.out.2.2); clear hk; obtain rfl := HK.out.1; go_wp2_with fail; go_end0; rw [HE.out]; exact HK.out)
    | false =>
      rw [hwb] at ec
      have HE : Hid (handO x t p = keepO ⟨x.rd ||| bitN p, x.wr, x.own⟩ (65535 - bitN t)) := by show _ = _; unfold handO keepO; rw [hrb, hwb]; rfl
      clear hrb hwb
      go_enter Try.func44, Try.ntmps44
      go_wp2_with fail
      refine (bit_any t _ (by omega)).mono ?_
      rintro r w4 ⟨rfl, rfl⟩
      go_wp2_with fail
      go_region_with (go_at_call 55; refine (bit_any p _ (by omega)).mono ?_; rintro r w5 ⟨rfl, rfl⟩)
      all_goals (rw [HO.out]; go_wp2_with fail)
      all_goals (rw [HX.out]; refine (keepOnly_any b o (65535 - bitN t) _ _ HH1.out (fun o => (HC1.out.fz o).trans (hf o)) HN.out HR1.out hw).mono ?_; rintro r w7 hk; have HK := hidIt (hk.go HC1.out); clear hk; obtain rfl := HK.out.1; go_wp2_with fail; go_end0; rw [HE.out]; exact HK.out)
  | false =>
    rw [hrb] at eb
    cases hwb : x.wr.testBit t with
    | true =>
      rw [hwb] at ec
      have HE : Hid (handO x t p = keepO ⟨x.rd, x.wr ||| bitN p, upd x.own p (x.own t)⟩ (65535 - bitN t)) := by show _ = _; unfold handO keepO; rw [hrb, hwb]; rfl
      clear hrb hwb
      go_enter Try.func44, Try.ntmps44
      go_wp2_with fail
      refine (bit_any t _ (by omega)).mono ?_
      rintro r w4 ⟨rfl, rfl⟩
      go_wp2_with fail
      all_goals (go_wp2_with fail)
      all_goals (refine (write_any b o p (x.own t) _ _ HH.out hf hp hw).mono ?_; rintro r w6 hk6; have HK6 := hidIt (ObPost.go (OnlyC.refl _ _ _ _) hk6); clear hk6; obtain rfl := HK6.out.1; go_wp2_with fail)
      all_goals (rw [HX.out]; refine (keepOnly_any b o (65535 - bitN t) _ _ HK6.out.2.1 (fun o => (HK6.out.2.2.fz o).trans (hf o)) HN.out hr HW1.out).mono ?_; rintro r w7 hk; have HK := hidIt (hk.go HK6.out.2.2); clear hk; obtain rfl := HK.out.1; go_wp2_with fail; go_end0; rw [HE.out]; exact HK.out)
    | false =>
      rw [hwb] at ec
      have HE : Hid (handO x t p = keepO ⟨x.rd, x.wr, x.own⟩ (65535 - bitN t)) := by show _ = _; unfold handO keepO; rw [hrb, hwb]; rfl
      clear hrb hwb
      go_enter Try.func44, Try.ntmps44
      go_wp2_with fail
      refine (bit_any t _ (by omega)).mono ?_
      rintro r w4 ⟨rfl, rfl⟩
      go_wp2_with fail
      all_goals (go_wp2_with fail)
      all_goals (rw [HX.out]; refine (keepOnly_any b o (65535 - bitN t) _ _ HH.out hf HN.out hr hw).mono ?_; rintro r w7 hk; have HK := hidIt hk; clear hk; obtain rfl := HK.out.1; go_wp2_with fail; go_end0; rw [HE.out]; exact HK.out)

end Go.Proofs.Ytfdalbmopaemgab
