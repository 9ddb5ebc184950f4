import Derived.Test.YtfdalbmopaemgaaGreatDoorZV4
import Derived.Test.YtfdalbmopaemgaaGreatDoorZK8
namespace Go.Proofs.YtfdalbmopaemgaaGreatDoor
open Go.RowKit

/-! ### The object's methods -/
def ObPost (w : World) (b o : Nat) (x : Ob) (r : Ending) (w' : World) : Prop := r = .returned (.tuple #[]) ∧ ObAt w' b o x ∧ OnlyC w w' b o (o + 18)

set_option maxRecDepth 100000 in
set_option maxHeartbeats 1000000 in
theorem holdRead_any (b o t : Nat) (x : Ob) (w : World) (h : ObAt w b o x) (hf : ∀ o, w.frozen? ⟨b, o, none⟩ = false) (ht : t ≤ 15) (hr : x.rd < 65536) :
    Calls Tryz.prog 99 #[.pointer (some ⟨b, o, none⟩), .int .u8 (t : Int)] w (ObPost w b o ⟨x.rd ||| bitN t, x.wr, x.own⟩) := by
  have g0 := h.rd
  have HO := hidIt (orBit x.rd t hr)
  have HF := hidIt (h.setRd (x.rd ||| bitN t))
  have HC : Hid (OnlyC w (w.setCell ⟨b, o, none⟩ (.int .u16 ((x.rd ||| bitN t : Nat) : Int))) b o (o + 18)) := (OnlyC.refl _ _ _ _).set o (by omega) (by omega) _
  clear h
  go_enter Tryz.func99, Tryz.ntmps99
  go_region_with (go_at_call 120; refine (bit_any t _ (by omega)).mono ?_; rintro r w4 ⟨rfl, rfl⟩)
  all_goals (go_wp2_with fail; go_end0; rw [HO.out]; exact ⟨rfl, HF.out.drew, HC.out.drew⟩)

set_option maxRecDepth 100000 in
set_option maxHeartbeats 1000000 in
theorem write_any (b o t : Nat) (v : Int) (x : Ob) (w : World) (h : ObAt w b o x) (hf : ∀ o, w.frozen? ⟨b, o, none⟩ = false) (ht : t ≤ 15) (hr : x.wr < 65536) :
    Calls Tryz.prog 100 #[.pointer (some ⟨b, o, none⟩), .int .u8 (t : Int), .int .i32 v] w (ObPost w b o ⟨x.rd, x.wr ||| bitN t, upd x.own t v⟩) := by
  have g0 := h.wr
  have g1 := h.own t ht
  have h16 : (t : Int) < 16 := by omega
  have HO := hidIt (orBit x.wr t hr)
  have HF := hidIt ((h.setWr (x.wr ||| bitN t)).setOwn t ht v)
  have HC : Hid (OnlyC w ((w.setCell ⟨b, o + 1, none⟩ (.int .u16 ((x.wr ||| bitN t : Nat) : Int))).setCell ⟨b, o + 2 + t, none⟩ (.int .i32 v)) b o (o + 18)) := ((OnlyC.refl _ _ _ _).set (o + 1) (by omega) (by omega) _).set (o + 2 + t) (by omega) (by omega) _
  clear h
  go_enter Tryz.func100, Tryz.ntmps100
  go_wp2_with fail
  go_region_with (go_at_call 120; refine (bit_any t _ (by omega)).mono ?_; rintro r w4 ⟨rfl, rfl⟩)
  all_goals (go_wp2_with fail; go_end0; rw [HO.out]; exact ⟨rfl, HF.out.drew, HC.out.drew⟩)

set_option maxRecDepth 100000 in
set_option maxHeartbeats 1000000 in
theorem keepOnly_any (b o m : Nat) (x : Ob) (w : World) (h : ObAt w b o x) (hf : ∀ o, w.frozen? ⟨b, o, none⟩ = false) (hm : m < 65536) (hr : x.rd < 65536) (hw : x.wr < 65536) :
    Calls Tryz.prog 108 #[.pointer (some ⟨b, o, none⟩), .int .u16 (m : Int)] w (ObPost w b o (keepO x m)) := by
  have g0 := h.rd
  have g1 := h.wr
  have HO := hidIt (u16_and_nat x.rd m hr hm)
  have HO2 := hidIt (u16_and_nat x.wr m hw hm)
  have HF : Hid (ObAt ((w.setCell ⟨b, o, none⟩ (.int .u16 ((x.rd &&& m : Nat) : Int))).setCell ⟨b, o + 1, none⟩ (.int .u16 ((x.wr &&& m : Nat) : Int))) b o (keepO x m)) := (h.setRd (x.rd &&& m)).setWr (x.wr &&& m)
  have HC : Hid (OnlyC w ((w.setCell ⟨b, o, none⟩ (.int .u16 ((x.rd &&& m : Nat) : Int))).setCell ⟨b, o + 1, none⟩ (.int .u16 ((x.wr &&& m : Nat) : Int))) b o (o + 18)) := ((OnlyC.refl _ _ _ _).set o (by omega) (by omega) _).set (o + 1) (by omega) (by omega) _
  clear h
  go_enter Tryz.func108, Tryz.ntmps108
  go_wp2_with fail
  go_end0
  rw [HO.out, HO2.out]
  exact ⟨rfl, HF.out, HC.out⟩

set_option maxRecDepth 100000 in
set_option maxHeartbeats 1000000 in
theorem keepsOut_any (b o ln : Nat) (x : Ob) (wr : Bool) (w : World) (h : ObAt w b o x) (hm : ln < 65536) (hr : x.rd < 65536) (hw : x.wr < 65536) :
    Calls Tryz.prog 118 #[.pointer (some ⟨b, o, none⟩), .int .u16 (ln : Int), .bool wr] w fun r w' => r = .returned (.bool (outB (if wr then x.wr ||| x.rd else x.wr) ln)) ∧ w' = w := by
  have g0 := h.rd
  have g1 := h.wr
  have HO := hidIt (u16_or_nat x.wr x.rd hw hr)
  have HA := hidIt (u16_andNot_nat (x.wr ||| x.rd) ln (or16 hw hr) hm)
  have HB := hidIt (u16_andNot_nat x.wr ln hw hm)
  have HZ : Hid (∀ z : Nat, ((z : Int) != 0) = decide (z ≠ 0)) := fun z => by
    by_cases h : z = 0
    · subst h; rfl
    · rw [decide_eq_true h]; simp; omega
  clear h
  cases wr with
  | true =>
    go_enter Tryz.func118, Tryz.ntmps118
    go_wp2_with fail
    go_ret
    exact ⟨ret_bool (by rw [HO.out, HA.out, HZ.out]; rfl), rfl⟩
  | false =>
    go_enter Tryz.func118, Tryz.ntmps118
    go_wp2_with fail
    go_ret
    exact ⟨ret_bool (by rw [HB.out, HZ.out]; rfl), rfl⟩

set_option maxRecDepth 100000 in
set_option maxHeartbeats 2000000 in
theorem value_any (b o ln : Nat) (x : Ob) (w : World) (h : ObAt w b o x) (hm : ln < 65536) (hw : x.wr < 65536) :
    Calls Tryz.prog 119 #[.pointer (some ⟨b, o, none⟩), .int .u16 (ln : Int)] w fun r w' => r = .returned (.int .i32 (valD (x.wr &&& ln) x.own 15)) ∧ w' = w := by
  have g1 := h.wr
  have HA := hidIt (u16_and_nat x.wr ln hw hm)
  have HL : Hid (x.wr &&& ln < 65536) := Nat.lt_of_le_of_lt Nat.and_le_left hw
  have HH := hidIt h
  have g00 := h.own 0 (by omega)
  clear h
  go_enter Tryz.func119, Tryz.ntmps119
  go_wp2_with fail
  rw [HA.out]
  go_loop [6] (fun i => ∃ k : Nat, k ≤ 15 ∧ i = .int .u8 (k : Int) ∧ Hid (valD (x.wr &&& ln) x.own 15 = valD (x.wr &&& ln) x.own k)) (fun i => (intOf i).toNat)
  case atStart => exact ⟨15, by omega, rfl, rfl⟩
  case round =>
    obtain ⟨k, hk, rfl, HX⟩ := hrel
    by_cases hlt : 0 < k
    · have hlt' : (0 : Int) < (k : Int) := by omega
      have hlt2 : (k : Int) < 16 := by omega
      have hk0 : (0 : Int) ≤ (k : Int) := by omega
      have g2 := HH.out.own k (by omega)
      have HB := hidIt (bit_any k w (by omega))
      have HO := hidIt (andBit (x.wr &&& ln) k HL.out (by omega) (by omega))
      have HS : Hid (valD (x.wr &&& ln) x.own k = if (x.wr &&& ln).testBit k then x.own k else valD (x.wr &&& ln) x.own (k - 1)) := by
        show _ = _
        obtain ⟨j, rfl⟩ : ∃ j, k = j + 1 := ⟨k - 1, by omega⟩
        rw [valD]
        rfl
      cases hb : (x.wr &&& ln).testBit k with
      | true =>
        have HN : Hid (valD (x.wr &&& ln) x.own 15 = x.own k) := by show _ = _; rw [HX.out, HS.out, hb, if_pos rfl]
        rw [hb] at HO
        have e1 := HO.out
        go_wp2_with fail
        refine HB.out.mono ?_
        rintro r w1 ⟨rfl, rfl⟩
        go_wp2_with fail
        go_ret
        exact ⟨ret_i32 (by rw [HN.out]), rfl⟩
      | false =>
        have HN : Hid (valD (x.wr &&& ln) x.own 15 = valD (x.wr &&& ln) x.own (k - 1)) := by show _ = _; rw [HX.out, HS.out, hb, if_neg (by decide)]
        rw [hb] at HO
        have e1 := HO.out
        go_wp2_with fail
        refine HB.out.mono ?_
        rintro r w1 ⟨rfl, rfl⟩
        go_wp2_with fail
        go_round
        case rel => exact ⟨k - 1, by omega, by congr 1; go_num, HN⟩
        case measure => simp [intOf]; omega
    · have hk0 : k = 0 := by omega
      subst hk0
      have HN : Hid (valD (x.wr &&& ln) x.own 15 = x.own 0) := by show _ = _; rw [HX.out, valD]
      go_wp2_with fail
      go_ret
      exact ⟨ret_i32 (by rw [HN.out]), rfl⟩

end Go.Proofs.YtfdalbmopaemgaaGreatDoor

namespace Go.Proofs.YtfdalbmopaemgaaGreatDoor
open Go.RowKit

theorem xor_not (b : Nat) (hb : b < 65536) : 65535 ^^^ b = 65535 - b := by
  apply Nat.eq_of_testBit_eq
  intro c
  rw [not_bit b c hb, Nat.testBit_xor, show (65535 : Nat) = 2 ^ 16 - 1 from rfl, Nat.testBit_two_pow_sub_one]
  by_cases hc : c < 16
  · rw [decide_eq_true hc]; simp
  · have : b.testBit c = false := Nat.testBit_lt_two_pow (Nat.lt_of_lt_of_le hb (show 2 ^ 16 ≤ 2 ^ c from Nat.pow_le_pow_right (by omega) (by omega)))
    rw [decide_eq_false hc, this]; rfl

theorem not16 (b : Nat) (hb : b < 65536) : bits BinOp.xor IntKind.u16 IntKind.u16.max (b : Int) = ((65535 - b : Nat) : Int) := by
  rw [← xor_not b hb, ← u16_xor_nat 65535 b (by decide) hb]
  rfl

theorem ObPost.go {w w' w'' : World} {b o : Nat} {y : Ob} {r : Ending} (h : OnlyC w w' b o (o + 18)) (h' : ObPost w' b o y r w'') : ObPost w b o y r w'' := ⟨h'.1, h'.2.1, h.trans h'.2.2⟩

set_option maxRecDepth 100000 in
set_option maxHeartbeats 2000000 in
theorem handUp_any (b o t p : Nat) (x : Ob) (w : World) (h : ObAt w b o x) (hf : ∀ o, w.frozen? ⟨b, o, none⟩ = false) (ht0 : t ≠ 0) (ht : t ≤ 15) (hp : p ≤ 15) (hr : x.rd < 65536) (hw : x.wr < 65536) :
    Calls Tryz.prog 104 #[.pointer (some ⟨b, o, none⟩), .int .u8 (t : Int), .int .u8 (p : Int)] w (ObPost w b o (handO x t p)) := by
  have HH := hidIt h
  have g0 := h.rd
  have g1 := h.wr
  have g2 := h.own t ht
  have h16 : (t : Int) < 16 := by omega
  have HO := hidIt (orBit x.rd p hr)
  have eb := andBit x.rd t hr ht0 ht
  have ec := andBit x.wr t hw ht0 ht
  have HN : Hid (65535 - bitN t < 65536) := by show _ < _; omega
  have hbl := bitN_lt t
  have HX := hidIt (not16 (bitN t) hbl)
  have HR1 := hidIt (or16 hr (bitN_lt p))
  have HW1 := hidIt (or16 hw (bitN_lt p))
  clear h
  cases hrb : x.rd.testBit t with
  | true =>
    rw [hrb] at eb
    have h1 := (HH.out.setRd (x.rd ||| bitN p)).drew
    have c1 : OnlyC w (w.setCell ⟨b, o, none⟩ (.int .u16 ((x.rd ||| bitN p : Nat) : Int))).drew b o (o + 18) := ((OnlyC.refl _ _ _ _).set o (by omega) (by omega) _).drew
    have HH1 := hidIt h1
    have HC1 := hidIt c1
    clear h1 c1
    cases hwb : x.wr.testBit t with
    | true =>
      rw [hwb] at ec
      have HE : Hid (handO x t p = keepO ⟨x.rd ||| bitN p, x.wr ||| bitN p, upd x.own p (x.own t)⟩ (65535 - bitN t)) := by show _ = _; unfold handO keepO; rw [hrb, hwb]; rfl
      clear hrb hwb
      go_enter Tryz.func104, Tryz.ntmps104
      go_wp2_with fail
      refine (bit_any t _ (by omega)).mono ?_
      rintro r w4 ⟨rfl, rfl⟩
      go_wp2_with fail
      go_region_with (go_at_call 120; refine (bit_any p _ (by omega)).mono ?_; rintro r w5 ⟨rfl, rfl⟩)
      all_goals (rw [HO.out]; go_wp2_with fail)
      all_goals (refine (write_any b o p (x.own t) _ _ HH1.out (fun o => (HC1.out.fz o).trans (hf o)) hp hw).mono ?_; rintro r w6 hk6; have HK6 := hidIt (ObPost.go HC1.out hk6); clear hk6; obtain rfl := HK6.out.1; go_wp2_with fail)
      all_goals (rw [HX.out]; refine (keepOnly_any b o (65535 - bitN t) _ _ HK6.out.2.1 (fun o => (HK6.out.2.2.fz o).trans (hf o)) HN.out HR1.out HW1.out).mono ?_; rintro r w7 hk; have HK := hidIt (hk.go HK6.out.2.2); clear hk; obtain rfl := HK.out.1; go_wp2_with fail; go_end0; rw [HE.out]; exact HK.out)
    | false =>
      rw [hwb] at ec
      have HE : Hid (handO x t p = keepO ⟨x.rd ||| bitN p, x.wr, x.own⟩ (65535 - bitN t)) := by show _ = _; unfold handO keepO; rw [hrb, hwb]; rfl
      clear hrb hwb
      go_enter Tryz.func104, Tryz.ntmps104
      go_wp2_with fail
      refine (bit_any t _ (by omega)).mono ?_
      rintro r w4 ⟨rfl, rfl⟩
      go_wp2_with fail
      go_region_with (go_at_call 120; refine (bit_any p _ (by omega)).mono ?_; rintro r w5 ⟨rfl, rfl⟩)
      all_goals (rw [HO.out]; go_wp2_with fail)
      all_goals (rw [HX.out]; refine (keepOnly_any b o (65535 - bitN t) _ _ HH1.out (fun o => (HC1.out.fz o).trans (hf o)) HN.out HR1.out hw).mono ?_; rintro r w7 hk; have HK := hidIt (hk.go HC1.out); clear hk; obtain rfl := HK.out.1; go_wp2_with fail; go_end0; rw [HE.out]; exact HK.out)
  | false =>
    rw [hrb] at eb
    cases hwb : x.wr.testBit t with
    | true =>
      rw [hwb] at ec
      have HE : Hid (handO x t p = keepO ⟨x.rd, x.wr ||| bitN p, upd x.own p (x.own t)⟩ (65535 - bitN t)) := by show _ = _; unfold handO keepO; rw [hrb, hwb]; rfl
      clear hrb hwb
      go_enter Tryz.func104, Tryz.ntmps104
      go_wp2_with fail
      refine (bit_any t _ (by omega)).mono ?_
      rintro r w4 ⟨rfl, rfl⟩
      go_wp2_with fail
      all_goals (go_wp2_with fail)
      all_goals (refine (write_any b o p (x.own t) _ _ HH.out hf hp hw).mono ?_; rintro r w6 hk6; have HK6 := hidIt (ObPost.go (OnlyC.refl _ _ _ _) hk6); clear hk6; obtain rfl := HK6.out.1; go_wp2_with fail)
      all_goals (rw [HX.out]; refine (keepOnly_any b o (65535 - bitN t) _ _ HK6.out.2.1 (fun o => (HK6.out.2.2.fz o).trans (hf o)) HN.out hr HW1.out).mono ?_; rintro r w7 hk; have HK := hidIt (hk.go HK6.out.2.2); clear hk; obtain rfl := HK.out.1; go_wp2_with fail; go_end0; rw [HE.out]; exact HK.out)
    | false =>
      rw [hwb] at ec
      have HE : Hid (handO x t p = keepO ⟨x.rd, x.wr, x.own⟩ (65535 - bitN t)) := by show _ = _; unfold handO keepO; rw [hrb, hwb]; rfl
      clear hrb hwb
      go_enter Tryz.func104, Tryz.ntmps104
      go_wp2_with fail
      refine (bit_any t _ (by omega)).mono ?_
      rintro r w4 ⟨rfl, rfl⟩
      go_wp2_with fail
      all_goals (go_wp2_with fail)
      all_goals (rw [HX.out]; refine (keepOnly_any b o (65535 - bitN t) _ _ HH.out hf HN.out hr hw).mono ?_; rintro r w7 hk; have HK := hidIt hk; clear hk; obtain rfl := HK.out.1; go_wp2_with fail; go_end0; rw [HE.out]; exact HK.out)

end Go.Proofs.YtfdalbmopaemgaaGreatDoor

namespace Go.Proofs.YtfdalbmopaemgaaGreatDoor
open Go.RowKit

theorem jj_par255 {es : List Ev} {T : Tr} (j : JJ es T) : ∀ i, i ≤ 15 → 0 ≤ T.par i ∧ T.par i ≤ 255 := fun i hi => by
  have h15 := j.n15
  by_cases h : 1 ≤ i ∧ i ≤ T.n
  · have := j.low i h.1 h.2
    rw [j.par i hi]
    omega
  · have hb : begunN (i : Int) es = none := j.none_ i (by omega)
    rw [j.par i hi]
    unfold parentL
    rw [hb]
    simp

/-- Only the block b, and new ones. -/
structure FrB (w w' : World) (b : Nat) : Prop where
  below : Below 0 w w'
  rest : ∀ k, k < w.heap.size → k ≠ b → w'.heap[k]? = w.heap[k]?

theorem FrB.refl (w : World) (b : Nat) : FrB w w b := ⟨Below.refl _ _, fun _ _ _ => rfl⟩
theorem FrB.trans {w w' w'' : World} {b : Nat} (h : FrB w w' b) (h' : FrB w' w'' b) : FrB w w'' b :=
  ⟨h.below.trans h'.below, fun k hk hb => (h'.rest k (Nat.lt_of_lt_of_le hk h.below.size) hb).trans (h.rest k hk hb)⟩
theorem OnlyB.fr {w w' : World} {b : Nat} (h : OnlyB w w' b) : FrB w w' b := ⟨h.below.mono (Nat.zero_le _), fun k _ hb => h.rest k hb⟩
theorem FrB.drewN {w w' : World} {b : Nat} (h : FrB w w' b) (n : Nat) : FrB w (w'.drewN n) b := ⟨below_drewN h.below n, h.rest⟩
theorem FrB.drew {w w' : World} {b : Nat} (h : FrB w w' b) : FrB w w'.drew b := h.drewN 1
theorem FrB.new {w w' : World} (b : Nat) (h : Below w.heap.size w w') : FrB w w' b := ⟨h.mono (Nat.zero_le _), fun k hk _ => h.block k hk⟩

theorem isFull_any (b : Nat) (T : Tr) (O : Nat → Ob) (es : List Ev) (w : World) (h : StAt w b T O es) :
    Calls Tryz.prog 93 #[.pointer (some ⟨b, 0, none⟩)] w fun r w' => r = .returned (.bool (decide (60 ≤ es.length))) ∧ w' = w := by
  have g := h.n
  clear h
  by_cases h60 : 60 ≤ es.length
  · have e1 : (60 : Int) ≤ (es.length : Int) := by omega
    go_enter Tryz.func93, Tryz.ntmps93
    go_wp2_with fail
    go_ret
    exact ⟨ret_bool (by first | rfl | exact (decide_eq_true h60).symm), rfl⟩
  · have e1 : ¬ (60 : Int) ≤ (es.length : Int) := by omega
    go_enter Tryz.func93, Tryz.ntmps93
    go_wp2_with fail
    go_ret
    exact ⟨ret_bool (by first | rfl | exact (decide_eq_true h60).symm), rfl⟩

def DownPost (w : World) (b : Nat) (T : Tr) (O : Nat → Ob) (es : List Ev) (r : Ending) (w' : World) : Prop := r = .returned (.tuple #[]) ∧ StAt w' b T O es ∧ FrB w w' b

set_option maxRecDepth 100000 in
set_option maxHeartbeats 2000000 in
theorem writeDown_any (b : Nat) (T : Tr) (O : Nat → Ob) (es : List Ev) (e : Ev) (w : World) (h : StAt w b T O es) (hl : es.length < 60) :
    Calls Tryz.prog 95 #[.pointer (some ⟨b, 0, none⟩), evV e] w (DownPost w b T O (es ++ [e])) := by
  have hlt := h.tr.lt
  have g := h.n
  have f := h.tr.fz
  obtain ⟨e0, e1, e2, e3, e4⟩ := h.ev es.length hl
  have hl' : (es.length : Int) < 60 := by omega
  have h1 := h.addEv e hl
  have HO := hidIt (addW_only w b es.length e hl)
  have hsz : (addW w b es.length e).heap.size = w.heap.size := HO.out.size
  have hlt1 : b < (addW w b es.length e).heap.size := by omega
  have HR : Hid (∀ c, StAt ((addW w b es.length e).alloc c) b T O (es ++ [e])) := fun c => h1.of_heap (((Below.refl _ _).alloc (Nat.le_refl _) c).block b hlt1) (by simp)
  have HF : Hid (∀ c, FrB w ((addW w b es.length e).alloc c) b) := fun c => HO.out.toB.fr.trans (FrB.new b ((Below.refl _ _).alloc (Nat.le_refl _) c))
  clear h h1 hsz hlt1
  go_enter Tryz.func95, Tryz.ntmps95
  go_wp2_with fail
  go_region
  go_wp2_with fail
  go_end0
  exact ⟨rfl, (HR.out _).drew, (HF.out _).drew⟩

/-! ### Why not, and what it is -/
def whyL (es : List Ev) (k t x : Int) : Int :=
  if openL es t = false then 4 else if 4 ≤ x then 6 else if strangerL es t (othersL es k x) = true then 9 else if 60 ≤ es.length then 10 else 0

theorem accessR_fault (es : List Ev) (k t x v : Int) (h : whyL es k t x ≠ 0) : accessR es k t x v = (es, 0, whyL es k t x) := by
  unfold whyL at h ⊢
  unfold accessR
  by_cases h1 : openL es t = false
  · rw [if_pos h1, if_pos h1]
  · rw [if_neg h1] at h ⊢
    rw [if_neg h1]
    by_cases h2 : 4 ≤ x
    · rw [if_pos h2, if_pos h2]
    · rw [if_neg h2] at h ⊢
      rw [if_neg h2]
      by_cases h3 : strangerL es t (othersL es k x) = true
      · rw [if_pos h3, if_pos h3]
      · rw [if_neg h3] at h ⊢
        rw [if_neg h3]
        by_cases h4 : 60 ≤ es.length
        · rw [if_pos h4, if_pos h4]
        · rw [if_neg h4] at h
          exact absurd rfl h

theorem accessR_fine (es : List Ev) (k t x v : Int) (h : whyL es k t x = 0) : accessR es k t x v = (es ++ [accEv es k t x v], accN es k t x v, 0) ∧ openL es t = true ∧ x < 4 ∧ strangerL es t (othersL es k x) = false ∧ es.length < 60 := by
  unfold whyL at h
  unfold accessR
  by_cases h1 : openL es t = false
  · rw [if_pos h1] at h; exact absurd h (by decide)
  · rw [if_neg h1] at h ⊢
    by_cases h2 : 4 ≤ x
    · rw [if_pos h2] at h; exact absurd h (by decide)
    · rw [if_neg h2] at h ⊢
      by_cases h3 : strangerL es t (othersL es k x) = true
      · rw [if_pos h3] at h; exact absurd h (by decide)
      · rw [if_neg h3] at h ⊢
        by_cases h4 : 60 ≤ es.length
        · rw [if_pos h4] at h; exact absurd h (by decide)
        · rw [if_neg h4]
          exact ⟨rfl, by simpa using h1, by omega, by simpa using h3, by omega⟩

theorem QInv.lt16 {es : List Ev} {T : Tr} {W : Nat → List Nat} {O : Nat → Ob} (q : QInv es T W O) (x : Nat) (hx : x < 4) : (O x).rd < 65536 ∧ (O x).wr < 65536 := by
  have := holdersL_lt (low15 q.r.s.jj) (x : Int)
  rw [q.rd x hx, q.wr x hx]
  exact this

theorem QInv.out {es : List Ev} {T : Tr} {W : Nat → List Nat} {O : Nat → Ob} (q : QInv es T W O) (t x : Nat) (wr : Bool) (k : Int) (hk : k = 2 ↔ wr = false) (hx : x < 4) (ht : openL es (t : Int) = true) : outB (if wr then (O x).wr ||| (O x).rd else (O x).wr) (lineN T t) = strangerL es (t : Int) (othersL es k (x : Int)) := by
  have j := q.r.s.jj
  have htn := live_le j (live_of_open j ht).1
  have b0 := bits0 q.r (x : Int)
  unfold othersL
  rw [q.rd x hx, q.wr x hx]
  cases wr with
  | true =>
    rw [if_pos rfl, if_neg (fun e => by have := hk.1 e; cases this)]
    exact out_is j t _ htn (by rw [Nat.testBit_or, b0.1, b0.2]; rfl)
  | false =>
    rw [if_neg (by decide), if_pos (hk.2 rfl)]
    exact out_is j t _ htn b0.2

theorem open15 {es : List Ev} {T : Tr} (j : JJ es T) {t : Nat} (h : openL es (t : Int) = true) : 1 ≤ t ∧ t ≤ 15 := by
  have := j.open_range h
  have := j.n15
  omega

set_option maxRecDepth 100000 in
set_option maxHeartbeats 2000000 in
theorem accessFault_any (b t x : Nat) (wr : Bool) (k : Int) (hk : k = 2 ↔ wr = false) (T : Tr) (W : Nat → List Nat) (O : Nat → Ob) (es : List Ev) (w : World) (q : QInv es T W O) (h : StAt w b T O es) (ht : t ≤ 255) (hx : x ≤ 255) :
    Calls Tryz.prog 97 #[.pointer (some ⟨b, 0, none⟩), .int .u8 (t : Int), .int .u8 (x : Int), .bool wr] w fun r w' => r = .returned (.int .i64 (whyL es k (t : Int) (x : Int))) ∧ w' = w := by
  have j := q.r.s.jj
  have HC := hidIt (isOpen_any b t T w h.tr ht)
  have hio := isO_open j t
  rw [hio] at HC
  have HFU := hidIt (isFull_any b T O es w h)
  cases ho : openL es (t : Int) with
  | false =>
    rw [ho] at HC
    have HV : Hid (whyL es k (t : Int) (x : Int) = 4) := by show _ = _; unfold whyL; rw [if_pos ho]
    clear q h j hio ho
    go_enter Tryz.func97, Tryz.ntmps97
    go_wp2_with fail
    refine HC.out.mono ?_
    rintro r w1 ⟨rfl, rfl⟩
    go_wp2_with fail
    go_ret
    exact ⟨by rw [HV.out]; rfl, rfl⟩
  | true =>
    rw [ho] at HC
    by_cases hx4 : 4 ≤ x
    · have e4 : (4 : Int) ≤ (x : Int) := by omega
      have HV : Hid (whyL es k (t : Int) (x : Int) = 6) := by show _ = _; unfold whyL; rw [if_neg (by rw [ho]; decide), if_pos e4]
      clear q h j hio ho
      go_enter Tryz.func97, Tryz.ntmps97
      go_wp2_with fail
      refine HC.out.mono ?_
      rintro r w1 ⟨rfl, rfl⟩
      go_wp2_with fail
      go_ret
      exact ⟨by rw [HV.out]; rfl, rfl⟩
    · have e4 : ¬ (4 : Int) ≤ (x : Int) := by omega
      have e5 : (x : Int) < 4 := by omega
      have ht15 := open15 j ho
      have HLN := hidIt (line_any b t T w h.tr ht15.2 (jj_par255 j))
      have hlt := q.lt16 x (by omega)
      have hln : lineN T t < 65536 := lineD_lt T.par 15 t 0 (by decide)
      have HKO := hidIt (keepsOut_any b (33 + x * 18) (lineN T t) (O x) wr w (h.ob x (by omega)) hln hlt.1 hlt.2)
      rw [q.out t x wr k hk (by omega) ho] at HKO
      have HV : Hid (whyL es k (t : Int) (x : Int) = if strangerL es (t : Int) (othersL es k (x : Int)) = true then 9 else if 60 ≤ es.length then 10 else 0) := by show _ = _; unfold whyL; rw [if_neg (by rw [ho]; decide), if_neg e4]
      clear q h j hio ho hlt hln
      generalize strangerL es (t : Int) (othersL es k (x : Int)) = st at HKO HV
      cases st with
      | true =>
        rw [if_pos rfl] at HV
        go_enter Tryz.func97, Tryz.ntmps97
        go_wp2_with fail
        refine HC.out.mono ?_
        rintro r w1 ⟨rfl, rfl⟩
        go_wp2_with fail
        refine HLN.out.mono ?_
        rintro r w1 ⟨rfl, rfl⟩
        go_wp2_with fail
        refine HKO.out.mono ?_
        rintro r w1 ⟨rfl, rfl⟩
        go_wp2_with fail
        go_ret
        exact ⟨by rw [HV.out]; rfl, rfl⟩
      | false =>
        rw [if_neg (by decide)] at HV
        by_cases h60 : 60 ≤ es.length
        · rw [if_pos h60] at HV
          rw [decide_eq_true h60] at HFU
          go_enter Tryz.func97, Tryz.ntmps97
          go_wp2_with fail
          refine HC.out.mono ?_
          rintro r w1 ⟨rfl, rfl⟩
          go_wp2_with fail
          refine HLN.out.mono ?_
          rintro r w1 ⟨rfl, rfl⟩
          go_wp2_with fail
          refine HKO.out.mono ?_
          rintro r w1 ⟨rfl, rfl⟩
          go_wp2_with fail
          refine HFU.out.mono ?_
          rintro r w1 ⟨rfl, rfl⟩
          go_wp2_with fail
          go_ret
          exact ⟨by rw [HV.out]; rfl, rfl⟩
        · rw [if_neg h60] at HV
          rw [decide_eq_false h60] at HFU
          go_enter Tryz.func97, Tryz.ntmps97
          go_wp2_with fail
          refine HC.out.mono ?_
          rintro r w1 ⟨rfl, rfl⟩
          go_wp2_with fail
          refine HLN.out.mono ?_
          rintro r w1 ⟨rfl, rfl⟩
          go_wp2_with fail
          refine HKO.out.mono ?_
          rintro r w1 ⟨rfl, rfl⟩
          go_wp2_with fail
          refine HFU.out.mono ?_
          rintro r w1 ⟨rfl, rfl⟩
          go_wp2_with fail
          go_ret
          exact ⟨by rw [HV.out]; rfl, rfl⟩

set_option maxRecDepth 100000 in
set_option maxHeartbeats 2000000 in
theorem valueFor_any (b t x : Nat) (T : Tr) (W : Nat → List Nat) (O : Nat → Ob) (es : List Ev) (w : World) (q : QInv es T W O) (h : StAt w b T O es) (ho : openL es (t : Int) = true) (hx : x < 4) :
    Calls Tryz.prog 98 #[.pointer (some ⟨b, 0, none⟩), .int .u8 (t : Int), .int .u8 (x : Int)] w fun r w' => r = .returned (.int .i32 (isL es (t : Int) (x : Int))) ∧ w' = w := by
  have j := q.r.s.jj
  have ht15 := open15 j ho
  have e5 : (x : Int) < 4 := by omega
  have hln : lineN T t < 65536 := lineD_lt T.par 15 t 0 (by decide)
  have HLN := hidIt (line_any b t T w h.tr ht15.2 (jj_par255 j))
  have HVA := hidIt (value_any b (33 + x * 18) (lineN T t) (O x) w (h.ob x hx) hln (q.lt16 x hx).2)
  rw [value_is q t x hx (live_of_open j ho).1] at HVA
  clear q h j ho hln
  go_enter Tryz.func98, Tryz.ntmps98
  go_wp2_with fail
  refine HLN.out.mono ?_
  rintro r w1 ⟨rfl, rfl⟩
  go_wp2_with fail
  refine HVA.out.mono ?_
  rintro r w1 ⟨rfl, rfl⟩
  go_wp2_with fail
  go_ret
  exact ⟨rfl, rfl⟩

end Go.Proofs.YtfdalbmopaemgaaGreatDoor
