import Derived.Test.YtfdalbmopaemgabGreatDoorZV5
import Derived.Test.YtfdalbmopaemgabGreatDoorK8
namespace Go.Proofs.YtfdalbmopaemgabGreatDoor
open Go.RowKit

theorem xor_not (b : Nat) (hb : b < 65536) : 65535 ^^^ b = 65535 - b := by
  apply Nat.eq_of_testBit_eq
  intro c
  rw [not_bit b c hb, Nat.testBit_xor, show (65535 : Nat) = 2 ^ 16 - 1 from rfl, Nat.testBit_two_pow_sub_one]
  by_cases hc : c < 16
  · rw [decide_eq_true hc]; simp
  · have : b.testBit c = false := Nat.testBit_lt_two_pow (Nat.lt_of_lt_of_le hb (show 2 ^ 16 ≤ 2 ^ c from Nat.pow_le_pow_right (by omega) (by omega)))
    rw [decide_eq_false hc, this]; rfl

theorem not16 (b : Nat) (hb : b < 65536) : bits BinOp.xor IntKind.u16 IntKind.u16.max (b : Int) = ((65535 - b : Nat) : Int) := by
  rw [← xor_not b hb, ← u16_xor_nat 65535 b (by decide) hb]
  rfl

theorem ObPost.go {w w' w'' : World} {b o : Nat} {y : Ob} {r : Ending} (h : OnlyC w w' b o (o + 18)) (h' : ObPost w' b o y r w'') : ObPost w b o y r w'' := ⟨h'.1, h'.2.1, h.trans h'.2.2⟩

set_option maxRecDepth 100000 in
set_option maxHeartbeats 2000000 in
theorem handUp_any (b o t p : Nat) (x : Ob) (w : World) (h : ObAt w b o x) (hf : ∀ o, w.frozen? ⟨b, o, none⟩ = false) (ht0 : t ≠ 0) (ht : t ≤ 15) (hp : p ≤ 15) (hr : x.rd < 65536) (hw : x.wr < 65536) :
    Calls Tryz.prog 99 #[.pointer (some ⟨b, o, none⟩), .int .u8 (t : Int), .int .u8 (p : Int)] w (ObPost w b o (handO x t p)) := by
  have HH := hidIt h
  have g0 := h.rd
  have g1 := h.wr
  have g2 := h.own t ht
  have h16 : (t : Int) < 16 := by omega
  have HO := hidIt (orBit x.rd p hr)
  have eb := andBit x.rd t hr ht0 ht
  have ec := andBit x.wr t hw ht0 ht
  have HN : Hid (65535 - bitN t < 65536) := by show _ < _; omega
  have hbl := bitN_lt t
  have HX := hidIt (not16 (bitN t) hbl)
  have HR1 := hidIt (or16 hr (bitN_lt p))
  have HW1 := hidIt (or16 hw (bitN_lt p))
  clear h
  cases hrb : x.rd.testBit t with
  | true =>
    rw [hrb] at eb
    have h1 := (HH.out.setRd (x.rd ||| bitN p)).drew
    have c1 : OnlyC w (w.setCell ⟨b, o, none⟩ (.int .u16 ((x.rd ||| bitN p : Nat) : Int))).drew b o (o + 18) := ((OnlyC.refl _ _ _ _).set o (by omega) (by omega) _).drew
    have HH1 := hidIt h1
    have HC1 := hidIt c1
    clear h1 c1
    cases hwb : x.wr.testBit t with
    | true =>
      rw [hwb] at ec
      have HE : Hid (handO x t p = keepO ⟨x.rd ||| bitN p, x.wr ||| bitN p, upd x.own p (x.own t)⟩ (65535 - bitN t)) := by show _ = _; unfold handO keepO; rw [hrb, hwb]; rfl
      clear hrb hwb
      go_enter Tryz.func99, Tryz.ntmps99
      go_wp2_with fail
      refine (bit_any t _ (by omega)).mono ?_
      rintro r w4 ⟨rfl, rfl⟩
      go_wp2_with fail
      go_region_with (go_at_call 115; refine (bit_any p _ (by omega)).mono ?_; rintro r w5 ⟨rfl, rfl⟩)
      all_goals (rw [HO.out]; go_wp2_with fail)
      all_goals (refine (write_any b o p (x.own t) _ _ HH1.out (fun o => (HC1.out.fz o).trans (hf o)) hp hw).mono ?_; rintro r w6 hk6; have HK6 := hidIt (ObPost.go HC1.out hk6); clear hk6; obtain rfl := HK6.out.1; go_wp2_with fail)
      all_goals (rw [HX.out]; refine (keepOnly_any b o (65535 - bitN t) _ _ HK6.out.2.1 (fun o => (HK6.out.2.2.fz o).trans (hf o)) HN.out HR1.out HW1.out).mono ?_; rintro r w7 hk; have HK := hidIt (hk.go HK6.out.2.2); clear hk; obtain rfl := HK.out.1; go_wp2_with fail; go_end0; rw [HE.out]; exact HK.out)
    | false =>
      rw [hwb] at ec
      have HE : Hid (handO x t p = keepO ⟨x.rd ||| bitN p, x.wr, x.own⟩ (65535 - bitN t)) := by show _ = _; unfold handO keepO; rw [hrb, hwb]; rfl
      clear hrb hwb
      go_enter Tryz.func99, Tryz.ntmps99
      go_wp2_with fail
      refine (bit_any t _ (by omega)).mono ?_
      rintro r w4 ⟨rfl, rfl⟩
      go_wp2_with fail
      go_region_with (go_at_call 115; refine (bit_any p _ (by omega)).mono ?_; rintro r w5 ⟨rfl, rfl⟩)
      all_goals (rw [HO.out]; go_wp2_with fail)
      all_goals (rw [HX.out]; refine (keepOnly_any b o (65535 - bitN t) _ _ HH1.out (fun o => (HC1.out.fz o).trans (hf o)) HN.out HR1.out hw).mono ?_; rintro r w7 hk; have HK := hidIt (hk.go HC1.out); clear hk; obtain rfl := HK.out.1; go_wp2_with fail; go_end0; rw [HE.out]; exact HK.out)
  | false =>
    rw [hrb] at eb
    cases hwb : x.wr.testBit t with
    | true =>
      rw [hwb] at ec
      have HE : Hid (handO x t p = keepO ⟨x.rd, x.wr ||| bitN p, upd x.own p (x.own t)⟩ (65535 - bitN t)) := by show _ = _; unfold handO keepO; rw [hrb, hwb]; rfl
      clear hrb hwb
      go_enter Tryz.func99, Tryz.ntmps99
      go_wp2_with fail
      refine (bit_any t _ (by omega)).mono ?_
      rintro r w4 ⟨rfl, rfl⟩
      go_wp2_with fail
      all_goals (go_wp2_with fail)
      all_goals (refine (write_any b o p (x.own t) _ _ HH.out hf hp hw).mono ?_; rintro r w6 hk6; have HK6 := hidIt (ObPost.go (OnlyC.refl _ _ _ _) hk6); clear hk6; obtain rfl := HK6.out.1; go_wp2_with fail)
      all_goals (rw [HX.out]; refine (keepOnly_any b o (65535 - bitN t) _ _ HK6.out.2.1 (fun o => (HK6.out.2.2.fz o).trans (hf o)) HN.out hr HW1.out).mono ?_; rintro r w7 hk; have HK := hidIt (hk.go HK6.out.2.2); clear hk; obtain rfl := HK.out.1; go_wp2_with fail; go_end0; rw [HE.out]; exact HK.out)
    | false =>
      rw [hwb] at ec
      have HE : Hid (handO x t p = keepO ⟨x.rd, x.wr, x.own⟩ (65535 - bitN t)) := by show _ = _; unfold handO keepO; rw [hrb, hwb]; rfl
      clear hrb hwb
      go_enter Tryz.func99, Tryz.ntmps99
      go_wp2_with fail
      refine (bit_any t _ (by omega)).mono ?_
      rintro r w4 ⟨rfl, rfl⟩
      go_wp2_with fail
      all_goals (go_wp2_with fail)
      all_goals (rw [HX.out]; refine (keepOnly_any b o (65535 - bitN t) _ _ HH.out hf HN.out hr hw).mono ?_; rintro r w7 hk; have HK := hidIt hk; clear hk; obtain rfl := HK.out.1; go_wp2_with fail; go_end0; rw [HE.out]; exact HK.out)

end Go.Proofs.YtfdalbmopaemgabGreatDoor

namespace Go.Proofs.YtfdalbmopaemgabGreatDoor
open Go.RowKit

theorem jj_par255 {es : List Ev} {T : Tr} (j : JJ es T) : ∀ i, i ≤ 15 → 0 ≤ T.par i ∧ T.par i ≤ 255 := fun i hi => by
  have h15 := j.n15
  by_cases h : 1 ≤ i ∧ i ≤ T.n
  · have := j.low i h.1 h.2
    rw [j.par i hi]
    omega
  · have hb : begunN (i : Int) es = none := j.none_ i (by omega)
    rw [j.par i hi]
    unfold parentL
    rw [hb]
    simp

/-- Only the block b, and new ones. -/
structure FrB (w w' : World) (b : Nat) : Prop where
  below : Below 0 w w'
  rest : ∀ k, k < w.heap.size → k ≠ b → w'.heap[k]? = w.heap[k]?

theorem FrB.refl (w : World) (b : Nat) : FrB w w b := ⟨Below.refl _ _, fun _ _ _ => rfl⟩
theorem FrB.trans {w w' w'' : World} {b : Nat} (h : FrB w w' b) (h' : FrB w' w'' b) : FrB w w'' b :=
  ⟨h.below.trans h'.below, fun k hk hb => (h'.rest k (Nat.lt_of_lt_of_le hk h.below.size) hb).trans (h.rest k hk hb)⟩
theorem OnlyB.fr {w w' : World} {b : Nat} (h : OnlyB w w' b) : FrB w w' b := ⟨h.below.mono (Nat.zero_le _), fun k _ hb => h.rest k hb⟩
theorem FrB.drewN {w w' : World} {b : Nat} (h : FrB w w' b) (n : Nat) : FrB w (w'.drewN n) b := ⟨below_drewN h.below n, h.rest⟩
theorem FrB.drew {w w' : World} {b : Nat} (h : FrB w w' b) : FrB w w'.drew b := h.drewN 1
theorem FrB.new {w w' : World} (b : Nat) (h : Below w.heap.size w w') : FrB w w' b := ⟨h.mono (Nat.zero_le _), fun k hk _ => h.block k hk⟩

theorem isFull_any (b : Nat) (T : Tr) (O : Nat → Ob) (es : List Ev) (w : World) (h : StAt w b T O es) :
    Calls Tryz.prog 88 #[.pointer (some ⟨b, 0, none⟩)] w fun r w' => r = .returned (.bool (decide (60 ≤ es.length))) ∧ w' = w := by
  have g := h.n
  clear h
  by_cases h60 : 60 ≤ es.length
  · have e1 : (60 : Int) ≤ (es.length : Int) := by omega
    go_enter Tryz.func88, Tryz.ntmps88
    go_wp2_with fail
    go_ret
    exact ⟨ret_bool (by first | rfl | exact (decide_eq_true h60).symm), rfl⟩
  · have e1 : ¬ (60 : Int) ≤ (es.length : Int) := by omega
    go_enter Tryz.func88, Tryz.ntmps88
    go_wp2_with fail
    go_ret
    exact ⟨ret_bool (by first | rfl | exact (decide_eq_true h60).symm), rfl⟩

def DownPost (w : World) (b : Nat) (T : Tr) (O : Nat → Ob) (es : List Ev) (r : Ending) (w' : World) : Prop := r = .returned (.tuple #[]) ∧ StAt w' b T O es ∧ FrB w w' b

set_option maxRecDepth 100000 in
set_option maxHeartbeats 2000000 in
theorem writeDown_any (b : Nat) (T : Tr) (O : Nat → Ob) (es : List Ev) (e : Ev) (w : World) (h : StAt w b T O es) (hl : es.length < 60) :
    Calls Tryz.prog 90 #[.pointer (some ⟨b, 0, none⟩), evV e] w (DownPost w b T O (es ++ [e])) := by
  have hlt := h.tr.lt
  have g := h.n
  have f := h.tr.fz
  obtain ⟨e0, e1, e2, e3, e4⟩ := h.ev es.length hl
  have hl' : (es.length : Int) < 60 := by omega
  have h1 := h.addEv e hl
  have HO := hidIt (addW_only w b es.length e hl)
  have hsz : (addW w b es.length e).heap.size = w.heap.size := HO.out.size
  have hlt1 : b < (addW w b es.length e).heap.size := by omega
  have HR : Hid (∀ c, StAt ((addW w b es.length e).alloc c) b T O (es ++ [e])) := fun c => h1.of_heap (((Below.refl _ _).alloc (Nat.le_refl _) c).block b hlt1) (by simp)
  have HF : Hid (∀ c, FrB w ((addW w b es.length e).alloc c) b) := fun c => HO.out.toB.fr.trans (FrB.new b ((Below.refl _ _).alloc (Nat.le_refl _) c))
  clear h h1 hsz hlt1
  go_enter Tryz.func90, Tryz.ntmps90
  go_wp2_with fail
  go_region
  go_wp2_with fail
  go_end0
  exact ⟨rfl, (HR.out _).drew, (HF.out _).drew⟩

/-! ### Why not, and what it is -/
def whyL (es : List Ev) (k t x : Int) : Int :=
  if openL es t = false then 4 else if 4 ≤ x then 6 else if strangerL es t (othersL es k x) = true then 9 else if 60 ≤ es.length then 10 else 0

theorem accessR_fault (es : List Ev) (k t x v : Int) (h : whyL es k t x ≠ 0) : accessR es k t x v = (es, 0, whyL es k t x) := by
  unfold whyL at h ⊢
  unfold accessR
  by_cases h1 : openL es t = false
  · rw [if_pos h1, if_pos h1]
  · rw [if_neg h1] at h ⊢
    rw [if_neg h1]
    by_cases h2 : 4 ≤ x
    · rw [if_pos h2, if_pos h2]
    · rw [if_neg h2] at h ⊢
      rw [if_neg h2]
      by_cases h3 : strangerL es t (othersL es k x) = true
      · rw [if_pos h3, if_pos h3]
      · rw [if_neg h3] at h ⊢
        rw [if_neg h3]
        by_cases h4 : 60 ≤ es.length
        · rw [if_pos h4, if_pos h4]
        · rw [if_neg h4] at h
          exact absurd rfl h

theorem accessR_fine (es : List Ev) (k t x v : Int) (h : whyL es k t x = 0) : accessR es k t x v = (es ++ [accEv es k t x v], accN es k t x v, 0) ∧ openL es t = true ∧ x < 4 ∧ strangerL es t (othersL es k x) = false ∧ es.length < 60 := by
  unfold whyL at h
  unfold accessR
  by_cases h1 : openL es t = false
  · rw [if_pos h1] at h; exact absurd h (by decide)
  · rw [if_neg h1] at h ⊢
    by_cases h2 : 4 ≤ x
    · rw [if_pos h2] at h; exact absurd h (by decide)
    · rw [if_neg h2] at h ⊢
      by_cases h3 : strangerL es t (othersL es k x) = true
      · rw [if_pos h3] at h; exact absurd h (by decide)
      · rw [if_neg h3] at h ⊢
        by_cases h4 : 60 ≤ es.length
        · rw [if_pos h4] at h; exact absurd h (by decide)
        · rw [if_neg h4]
          exact ⟨rfl, by simpa using h1, by omega, by simpa using h3, by omega⟩

theorem QInv.lt16 {es : List Ev} {T : Tr} {W : Nat → List Nat} {O : Nat → Ob} (q : QInv es T W O) (x : Nat) (hx : x < 4) : (O x).rd < 65536 ∧ (O x).wr < 65536 := by
  have := holdersL_lt (low15 q.r.s.jj) (x : Int)
  rw [q.rd x hx, q.wr x hx]
  exact this

theorem QInv.out {es : List Ev} {T : Tr} {W : Nat → List Nat} {O : Nat → Ob} (q : QInv es T W O) (t x : Nat) (wr : Bool) (k : Int) (hk : k = 2 ↔ wr = false) (hx : x < 4) (ht : openL es (t : Int) = true) : outB (if wr then (O x).wr ||| (O x).rd else (O x).wr) (lineN T t) = strangerL es (t : Int) (othersL es k (x : Int)) := by
  have j := q.r.s.jj
  have htn := live_le j (live_of_open j ht).1
  have b0 := bits0 q.r (x : Int)
  unfold othersL
  rw [q.rd x hx, q.wr x hx]
  cases wr with
  | true =>
    rw [if_pos rfl, if_neg (fun e => by have := hk.1 e; cases this)]
    exact out_is j t _ htn (by rw [Nat.testBit_or, b0.1, b0.2]; rfl)
  | false =>
    rw [if_neg (by decide), if_pos (hk.2 rfl)]
    exact out_is j t _ htn b0.2

theorem open15 {es : List Ev} {T : Tr} (j : JJ es T) {t : Nat} (h : openL es (t : Int) = true) : 1 ≤ t ∧ t ≤ 15 := by
  have := j.open_range h
  have := j.n15
  omega

set_option maxRecDepth 100000 in
set_option maxHeartbeats 2000000 in
theorem accessFault_any (b t x : Nat) (wr : Bool) (k : Int) (hk : k = 2 ↔ wr = false) (T : Tr) (W : Nat → List Nat) (O : Nat → Ob) (es : List Ev) (w : World) (q : QInv es T W O) (h : StAt w b T O es) (ht : t ≤ 255) (hx : x ≤ 255) :
    Calls Tryz.prog 92 #[.pointer (some ⟨b, 0, none⟩), .int .u8 (t : Int), .int .u8 (x : Int), .bool wr] w fun r w' => r = .returned (.int .i64 (whyL es k (t : Int) (x : Int))) ∧ w' = w := by
  have j := q.r.s.jj
  have HC := hidIt (isOpen_any b t T w h.tr ht)
  have hio := isO_open j t
  rw [hio] at HC
  have HFU := hidIt (isFull_any b T O es w h)
  cases ho : openL es (t : Int) with
  | false =>
    rw [ho] at HC
    have HV : Hid (whyL es k (t : Int) (x : Int) = 4) := by show _ = _; unfold whyL; rw [if_pos ho]
    clear q h j hio ho
    go_enter Tryz.func92, Tryz.ntmps92
    go_wp2_with fail
    refine HC.out.mono ?_
    rintro r w1 ⟨rfl, rfl⟩
    go_wp2_with fail
    go_ret
    exact ⟨by rw [HV.out]; rfl, rfl⟩
  | true =>
    rw [ho] at HC
    by_cases hx4 : 4 ≤ x
    · have e4 : (4 : Int) ≤ (x : Int) := by omega
      have HV : Hid (whyL es k (t : Int) (x : Int) = 6) := by show _ = _; unfold whyL; rw [if_neg (by rw [ho]; decide), if_pos e4]
      clear q h j hio ho
      go_enter Tryz.func92, Tryz.ntmps92
      go_wp2_with fail
      refine HC.out.mono ?_
      rintro r w1 ⟨rfl, rfl⟩
      go_wp2_with fail
      go_ret
      exact ⟨by rw [HV.out]; rfl, rfl⟩
    · have e4 : ¬ (4 : Int) ≤ (x : Int) := by omega
      have e5 : (x : Int) < 4 := by omega
      have ht15 := open15 j ho
      have HLN := hidIt (line_any b t T w h.tr ht15.2 (jj_par255 j))
      have hlt := q.lt16 x (by omega)
      have hln : lineN T t < 65536 := lineD_lt T.par 15 t 0 (by decide)
      have HKO := hidIt (keepsOut_any b (33 + x * 18) (lineN T t) (O x) wr w (h.ob x (by omega)) hln hlt.1 hlt.2)
      rw [q.out t x wr k hk (by omega) ho] at HKO
      have HV : Hid (whyL es k (t : Int) (x : Int) = if strangerL es (t : Int) (othersL es k (x : Int)) = true then 9 else if 60 ≤ es.length then 10 else 0) := by show _ = _; unfold whyL; rw [if_neg (by rw [ho]; decide), if_neg e4]
      clear q h j hio ho hlt hln
      generalize strangerL es (t : Int) (othersL es k (x : Int)) = st at HKO HV
      cases st with
      | true =>
        rw [if_pos rfl] at HV
        go_enter Tryz.func92, Tryz.ntmps92
        go_wp2_with fail
        refine HC.out.mono ?_
        rintro r w1 ⟨rfl, rfl⟩
        go_wp2_with fail
        refine HLN.out.mono ?_
        rintro r w1 ⟨rfl, rfl⟩
        go_wp2_with fail
        refine HKO.out.mono ?_
        rintro r w1 ⟨rfl, rfl⟩
        go_wp2_with fail
        go_ret
        exact ⟨by rw [HV.out]; rfl, rfl⟩
      | false =>
        rw [if_neg (by decide)] at HV
        by_cases h60 : 60 ≤ es.length
        · rw [if_pos h60] at HV
          rw [decide_eq_true h60] at HFU
          go_enter Tryz.func92, Tryz.ntmps92
          go_wp2_with fail
          refine HC.out.mono ?_
          rintro r w1 ⟨rfl, rfl⟩
          go_wp2_with fail
          refine HLN.out.mono ?_
          rintro r w1 ⟨rfl, rfl⟩
          go_wp2_with fail
          refine HKO.out.mono ?_
          rintro r w1 ⟨rfl, rfl⟩
          go_wp2_with fail
          refine HFU.out.mono ?_
          rintro r w1 ⟨rfl, rfl⟩
          go_wp2_with fail
          go_ret
          exact ⟨by rw [HV.out]; rfl, rfl⟩
        · rw [if_neg h60] at HV
          rw [decide_eq_false h60] at HFU
          go_enter Tryz.func92, Tryz.ntmps92
          go_wp2_with fail
          refine HC.out.mono ?_
          rintro r w1 ⟨rfl, rfl⟩
          go_wp2_with fail
          refine HLN.out.mono ?_
          rintro r w1 ⟨rfl, rfl⟩
          go_wp2_with fail
          refine HKO.out.mono ?_
          rintro r w1 ⟨rfl, rfl⟩
          go_wp2_with fail
          refine HFU.out.mono ?_
          rintro r w1 ⟨rfl, rfl⟩
          go_wp2_with fail
          go_ret
          exact ⟨by rw [HV.out]; rfl, rfl⟩

set_option maxRecDepth 100000 in
set_option maxHeartbeats 2000000 in
theorem valueFor_any (b t x : Nat) (T : Tr) (W : Nat → List Nat) (O : Nat → Ob) (es : List Ev) (w : World) (q : QInv es T W O) (h : StAt w b T O es) (ho : openL es (t : Int) = true) (hx : x < 4) :
    Calls Tryz.prog 93 #[.pointer (some ⟨b, 0, none⟩), .int .u8 (t : Int), .int .u8 (x : Int)] w fun r w' => r = .returned (.int .i32 (isL es (t : Int) (x : Int))) ∧ w' = w := by
  have j := q.r.s.jj
  have ht15 := open15 j ho
  have e5 : (x : Int) < 4 := by omega
  have hln : lineN T t < 65536 := lineD_lt T.par 15 t 0 (by decide)
  have HLN := hidIt (line_any b t T w h.tr ht15.2 (jj_par255 j))
  have HVA := hidIt (ovalue_any b (33 + x * 18) (lineN T t) (O x) w (h.ob x hx) hln (q.lt16 x hx).2)
  rw [value_is q t x hx (live_of_open j ho).1] at HVA
  clear q h j ho hln
  go_enter Tryz.func93, Tryz.ntmps93
  go_wp2_with fail
  refine HLN.out.mono ?_
  rintro r w1 ⟨rfl, rfl⟩
  go_wp2_with fail
  refine HVA.out.mono ?_
  rintro r w1 ⟨rfl, rfl⟩
  go_wp2_with fail
  go_ret
  exact ⟨rfl, rfl⟩

end Go.Proofs.YtfdalbmopaemgabGreatDoor

namespace Go.Proofs.YtfdalbmopaemgabGreatDoor
open Go.RowKit

/-- A store in the block b that has written down es. -/
def StC (w : World) (b : Nat) (es : List Ev) : Prop := ∃ T W O, QInv es T W O ∧ StAt w b T O es ∧ es.length ≤ 60

def StP (w : World) (b : Nat) (es' : List Ev) (w' : World) : Prop := StC w' b es' ∧ FrB w w' b

theorem StC.lt {w : World} {b : Nat} {es : List Ev} (h : StC w b es) : b < w.heap.size := by
  obtain ⟨T, W, O, q, h, _⟩ := h
  exact h.tr.lt

theorem StC.of_heap {w w' : World} {b : Nat} {es : List Ev} (h : StC w b es) (hh : w'.heap[b]? = w.heap[b]?) (hz : w.heap.size ≤ w'.heap.size) : StC w' b es := by
  obtain ⟨T, W, O, q, h, hl⟩ := h
  exact ⟨T, W, O, q, h.of_heap hh hz, hl⟩

theorem StC.drewN {w : World} {b : Nat} {es : List Ev} (h : StC w b es) (n : Nat) : StC (w.drewN n) b es := h.of_heap rfl (Nat.le_refl _)

theorem RInv.access_fine {es : List Ev} {T : Tr} {W : Nat → List Nat} (r : RInv es T W) (k : Int) (t x : Nat) (v : Int) (hk : k = 2 ∨ k = 3 ∨ k = 4) (h : accessR es k (t : Int) (x : Int) v = (es ++ [accEv es k (t : Int) (x : Int) v], accN es k (t : Int) (x : Int) v, 0)) : RInv (es ++ [accEv es k (t : Int) (x : Int) v]) T (upd W t (W t ++ [es.length])) := by
  rcases r.access_or k t x v hk with h1 | ⟨_, _, h3⟩
  · rw [h] at h1
    have := congrArg List.length h1
    simp at this
  · exact h3

theorem QInv.strangers {es : List Ev} {T : Tr} {W : Nat → List Nat} {O : Nat → Ob} (q : QInv es T W O) (k : Int) (t x : Nat) (hk : k ≠ 2) (ho : openL es (t : Int) = true) (hst : strangerL es (t : Int) (othersL es k (x : Int)) = false) : ∀ c, c ≠ 0 → Live T c → (holdersL es (x : Int)).2.testBit c = true → c ∈ pth T.par t := fun c hc hcl hb => by
  have j := q.r.s.jj
  have htn := live_le j (live_of_open j ho).1
  have hcr := live15 hcl
  have := stranger_none hst c (by omega) hcr (by unfold othersL; rw [if_neg hk, Nat.testBit_or, hb]; rfl)
  rw [within_pth j c t htn] at this
  simpa using this

theorem tup2 {k k' : IntKind} {a b c d : Int} (h : a = b) (h' : c = d) : Ending.returned (.tuple #[.int k a, .int k' c]) = .returned (.tuple #[.int k b, .int k' d]) := by rw [h, h']

set_option maxRecDepth 100000 in
set_option maxHeartbeats 2000000 in
theorem sread_any (b t x : Nat) (es : List Ev) (w : World) (h : StC w b es) (ht : t ≤ 255) (hx : x ≤ 255) :
    Calls Tryz.prog 62 #[.pointer (some ⟨b, 0, none⟩), .int .u8 (t : Int), .int .u8 (x : Int)] w fun r w' => r = .returned (.tuple #[.int .i32 (accessR es 2 (t : Int) (x : Int) 0).2.1, .int .i64 (accessR es 2 (t : Int) (x : Int) 0).2.2]) ∧ StP w b (accessR es 2 (t : Int) (x : Int) 0).1 w' := by
  have HS := hidIt h
  obtain ⟨T, W, O, q, h, hlen⟩ := h
  have HA := hidIt (accessFault_any b t x false 2 (by simp) T W O es w q h ht hx)
  by_cases hf : whyL es 2 (t : Int) (x : Int) = 0
  · rw [hf] at HA
    obtain ⟨hR, ho, hx4, hst, hl⟩ := accessR_fine es 2 (t : Int) (x : Int) 0 hf
    have hr := q.r.access_fine 2 t x 0 (Or.inl rfl) hR
    have hev : accEv es 2 (t : Int) (x : Int) 0 = ⟨2, (t : Int), (x : Int), 0, isL es (t : Int) (x : Int)⟩ := by unfold accEv; rw [if_pos rfl, if_neg (by decide)]
    have hx4' : x < 4 := by omega
    have ht15 := open15 q.r.s.jj ho
    have HV := hidIt (valueFor_any b t x T W O es w q h ho hx4')
    have HH := hidIt (holdRead_any b (33 + x * 18) t (O x) w (h.ob x hx4') h.tr.fz ht15.2 (q.lt16 x hx4').1)
    have HQ := hidIt (q.read (accEv es 2 (t : Int) (x : Int) 0) t x hx4' rfl rfl ho hr)
    rw [hev] at HQ
    have HST := hidIt h
    have HR := hidIt hR
    rw [hev] at HR
    have hn : Hid (accN es 2 (t : Int) (x : Int) 0 = isL es (t : Int) (x : Int)) := by show _ = _; unfold accN; rw [if_pos rfl]
    clear q h hf ho hst hr hev hR
    go_enter Tryz.func62, Tryz.ntmps62
    go_wp2_with fail
    refine HA.out.mono ?_
    rintro r w1 ⟨rfl, rfl⟩
    go_wp2_with fail
    refine HV.out.mono ?_
    rintro r w1 ⟨rfl, rfl⟩
    go_wp2_with fail
    refine HH.out.mono ?_
    rintro r w2 ⟨rfl, hob, hon⟩
    have HW := hidIt (writeDown_any b T (upd O x ⟨(O x).rd ||| bitN t, (O x).wr, (O x).own⟩) es ⟨2, (t : Int), (x : Int), 0, isL es (t : Int) (x : Int)⟩ w2 (HST.out.setOb x hx4' _ hob hon) hl)
    have HON := hidIt hon
    clear hob hon
    go_wp2_with fail
    refine HW.out.mono ?_
    rintro r w3 ⟨rfl, hs3, hf3⟩
    have HR3 := hidIt (And.intro hs3 hf3)
    clear hs3 hf3
    go_wp2_with fail
    go_ret2
    exact ⟨by rw [HR.out, hn.out]; rfl, by rw [HR.out]; exact ⟨⟨T, _, _, HQ.out, HR3.out.1, by simp; omega⟩, HON.out.toB.fr.trans HR3.out.2⟩⟩
  · have hR := hidIt (accessR_fault es 2 (t : Int) (x : Int) 0 hf)
    have hf' : (whyL es 2 (t : Int) (x : Int) != 0) = true := by simpa using hf
    generalize whyL es 2 (t : Int) (x : Int) = z at HA hR hf'
    clear q h hf
    go_enter Tryz.func62, Tryz.ntmps62
    go_wp2_with fail
    refine HA.out.mono ?_
    rintro r w1 ⟨rfl, rfl⟩
    go_wp2_with fail
    go_ret2
    exact ⟨by rw [hR.out]; rfl, by rw [hR.out]; exact ⟨HS.out, FrB.refl _ _⟩⟩

set_option maxRecDepth 100000 in
set_option maxHeartbeats 2000000 in
theorem swrite_any (b t x : Nat) (v : Int) (es : List Ev) (w : World) (h : StC w b es) (ht : t ≤ 255) (hx : x ≤ 255) :
    Calls Tryz.prog 64 #[.pointer (some ⟨b, 0, none⟩), .int .u8 (t : Int), .int .u8 (x : Int), .int .i32 v] w fun r w' => r = .returned (.int .i64 (accessR es 3 (t : Int) (x : Int) v).2.2) ∧ StP w b (accessR es 3 (t : Int) (x : Int) v).1 w' := by
  have HS := hidIt h
  obtain ⟨T, W, O, q, h, hlen⟩ := h
  have HA := hidIt (accessFault_any b t x true 3 (by simp) T W O es w q h ht hx)
  by_cases hf : whyL es 3 (t : Int) (x : Int) = 0
  · rw [hf] at HA
    obtain ⟨hR, ho, hx4, hst, hl⟩ := accessR_fine es 3 (t : Int) (x : Int) v hf
    have hr := q.r.access_fine 3 t x v (Or.inr (Or.inl rfl)) hR
    have hev : accEv es 3 (t : Int) (x : Int) v = ⟨3, (t : Int), (x : Int), v, 0⟩ := by unfold accEv; rw [if_neg (by decide), if_pos rfl]
    have hx4' : x < 4 := by omega
    have ht15 := open15 q.r.s.jj ho
    have HH := hidIt (write_any b (33 + x * 18) t v (O x) w (h.ob x hx4') h.tr.fz ht15.2 (q.lt16 x hx4').2)
    have HQ := hidIt (q.write (accEv es 3 (t : Int) (x : Int) v) t x hx4' (Or.inl rfl) rfl ho (q.strangers 3 t x (by decide) ho hst) hr)
    rw [hev] at HQ
    have hb : becL ⟨3, (t : Int), (x : Int), v, 0⟩ = v := by unfold becL; rw [if_pos rfl]
    rw [hb] at HQ
    have HST := hidIt h
    have HR := hidIt hR
    rw [hev] at HR
    clear q h hf ho hst hr hev hR hb
    go_enter Tryz.func64, Tryz.ntmps64
    go_wp2_with fail
    refine HA.out.mono ?_
    rintro r w1 ⟨rfl, rfl⟩
    go_wp2_with fail
    refine HH.out.mono ?_
    rintro r w2 ⟨rfl, hob, hon⟩
    have HW := hidIt (writeDown_any b T (upd O x ⟨(O x).rd, (O x).wr ||| bitN t, upd (O x).own t v⟩) es ⟨3, (t : Int), (x : Int), v, 0⟩ w2 (HST.out.setOb x hx4' _ hob hon) hl)
    have HON := hidIt hon
    clear hob hon
    go_wp2_with fail
    refine HW.out.mono ?_
    rintro r w3 ⟨rfl, hs3, hf3⟩
    have HR3 := hidIt (And.intro hs3 hf3)
    clear hs3 hf3
    go_wp2_with fail
    go_ret
    exact ⟨by rw [HR.out]; rfl, by rw [HR.out]; exact ⟨⟨T, _, _, HQ.out, HR3.out.1, by simp; omega⟩, HON.out.toB.fr.trans HR3.out.2⟩⟩
  · have hR := hidIt (accessR_fault es 3 (t : Int) (x : Int) v hf)
    have hf' : (whyL es 3 (t : Int) (x : Int) != 0) = true := by simpa using hf
    generalize whyL es 3 (t : Int) (x : Int) = z at HA hR hf'
    clear q h hf
    go_enter Tryz.func64, Tryz.ntmps64
    go_wp2_with fail
    refine HA.out.mono ?_
    rintro r w1 ⟨rfl, rfl⟩
    go_wp2_with fail
    go_ret
    exact ⟨by rw [hR.out]; rfl, by rw [hR.out]; exact ⟨HS.out, FrB.refl _ _⟩⟩

set_option maxRecDepth 100000 in
set_option maxHeartbeats 2000000 in
theorem sadd_any (b t x : Nat) (v : Int) (es : List Ev) (w : World) (h : StC w b es) (ht : t ≤ 255) (hx : x ≤ 255) :
    Calls Tryz.prog 65 #[.pointer (some ⟨b, 0, none⟩), .int .u8 (t : Int), .int .u8 (x : Int), .int .i32 v] w fun r w' => r = .returned (.tuple #[.int .i32 (accessR es 4 (t : Int) (x : Int) v).2.1, .int .i64 (accessR es 4 (t : Int) (x : Int) v).2.2]) ∧ StP w b (accessR es 4 (t : Int) (x : Int) v).1 w' := by
  have HS := hidIt h
  obtain ⟨T, W, O, q, h, hlen⟩ := h
  have HA := hidIt (accessFault_any b t x true 4 (by simp) T W O es w q h ht hx)
  by_cases hf : whyL es 4 (t : Int) (x : Int) = 0
  · rw [hf] at HA
    obtain ⟨hR, ho, hx4, hst, hl⟩ := accessR_fine es 4 (t : Int) (x : Int) v hf
    have hr := q.r.access_fine 4 t x v (Or.inr (Or.inr rfl)) hR
    have hev : accEv es 4 (t : Int) (x : Int) v = ⟨4, (t : Int), (x : Int), v, isL es (t : Int) (x : Int)⟩ := by unfold accEv; rw [if_neg (by decide), if_neg (by decide)]
    have hx4' : x < 4 := by omega
    have ht15 := open15 q.r.s.jj ho
    have HV := hidIt (valueFor_any b t x T W O es w q h ho hx4')
    have HH := hidIt (write_any b (33 + x * 18) t (wrap32 (isL es (t : Int) (x : Int) + v)) (O x) w (h.ob x hx4') h.tr.fz ht15.2 (q.lt16 x hx4').2)
    have HQ := hidIt (q.write (accEv es 4 (t : Int) (x : Int) v) t x hx4' (Or.inr rfl) rfl ho (q.strangers 4 t x (by decide) ho hst) hr)
    rw [hev] at HQ
    have hb : becL ⟨4, (t : Int), (x : Int), v, isL es (t : Int) (x : Int)⟩ = wrap32 (isL es (t : Int) (x : Int) + v) := by unfold becL; rw [if_neg (show ¬ (4 : Int) = 3 by decide), if_pos rfl]
    rw [hb] at HQ
    have HST := hidIt h
    have HR := hidIt hR
    rw [hev] at HR
    have hn : Hid (accN es 4 (t : Int) (x : Int) v = wrap32 (isL es (t : Int) (x : Int) + v)) := by show _ = _; unfold accN; rw [if_neg (by decide), if_neg (by decide)]
    clear q h hf ho hst hr hev hR hb
    generalize isL es (t : Int) (x : Int) = seen at HV HH HQ HR hn
    go_enter Tryz.func65, Tryz.ntmps65
    go_wp2_with fail
    refine HA.out.mono ?_
    rintro r w1 ⟨rfl, rfl⟩
    go_wp2_with fail
    refine HV.out.mono ?_
    rintro r w1 ⟨rfl, rfl⟩
    go_wp2_with fail
    refine HH.out.mono ?_
    rintro r w2 ⟨rfl, hob, hon⟩
    have HW := hidIt (writeDown_any b T (upd O x ⟨(O x).rd, (O x).wr ||| bitN t, upd (O x).own t (wrap32 (seen + v))⟩) es ⟨4, (t : Int), (x : Int), v, seen⟩ w2 (HST.out.setOb x hx4' _ hob hon) hl)
    have HON := hidIt hon
    clear hob hon
    go_wp2_with fail
    refine HW.out.mono ?_
    rintro r w3 ⟨rfl, hs3, hf3⟩
    have HR3 := hidIt (And.intro hs3 hf3)
    clear hs3 hf3
    go_wp2_with fail
    go_ret2
    exact ⟨by rw [HR.out, hn.out]; rfl, by rw [HR.out]; exact ⟨⟨T, _, _, HQ.out, HR3.out.1, by simp; omega⟩, HON.out.toB.fr.trans HR3.out.2⟩⟩
  · have hR := hidIt (accessR_fault es 4 (t : Int) (x : Int) v hf)
    have hf' : (whyL es 4 (t : Int) (x : Int) != 0) = true := by simpa using hf
    generalize whyL es 4 (t : Int) (x : Int) = z at HA hR hf'
    clear q h hf
    go_enter Tryz.func65, Tryz.ntmps65
    go_wp2_with fail
    refine HA.out.mono ?_
    rintro r w1 ⟨rfl, rfl⟩
    go_wp2_with fail
    go_ret2
    exact ⟨by rw [hR.out]; rfl, by rw [hR.out]; exact ⟨HS.out, FrB.refl _ _⟩⟩

end Go.Proofs.YtfdalbmopaemgabGreatDoor

namespace Go.Proofs.YtfdalbmopaemgabGreatDoor
open Go.RowKit

/-! ### Begin, Commit, Abort -/
set_option maxRecDepth 100000 in
set_option maxHeartbeats 2000000 in
theorem sbegin_any (b p : Nat) (es : List Ev) (w : World) (h : StC w b es) (hp : p ≤ 255) :
    Calls Tryz.prog 58 #[.pointer (some ⟨b, 0, none⟩), .int .u8 (p : Int)] w fun r w' => r = .returned (.tuple #[.int .u8 (beginR es (p : Int)).2.1, .int .i64 (beginR es (p : Int)).2.2]) ∧ StP w b (beginR es (p : Int)).1 w' := by
  have HS := hidIt h
  obtain ⟨T, W, O, q, h, hlen⟩ := h
  have j := q.r.s.jj
  have HM := hidIt (may_any b p T w h.tr hp)
  have hmo : mayO T.op (p : Int) = ((p : Int) == 0 || openL es (p : Int)) := by rw [mayO_nat, isO_open j]
  rw [hmo] at HM
  have HFU := hidIt (isFull_any b T O es w h)
  have HBG := hidIt (begun_any b T w h.tr)
  have hn := j.n
  cases hm : ((p : Int) == 0 || openL es (p : Int)) with
  | false =>
    rw [hm] at HM
    have HV : Hid (beginR es (p : Int) = (es, 0, 5)) := by
      show _ = _
      unfold beginR
      rw [Bool.or_eq_false_iff] at hm
      rw [if_pos ⟨by simpa using hm.1, hm.2⟩]
    clear q h j hmo hm hn
    go_enter Tryz.func58, Tryz.ntmps58
    go_wp2_with fail
    refine HM.out.mono ?_
    rintro r w1 ⟨rfl, rfl⟩
    go_wp2_with fail
    go_ret2
    exact ⟨by rw [HV.out]; rfl, by rw [HV.out]; exact ⟨HS.out, FrB.refl _ _⟩⟩
  | true =>
    rw [hm] at HM
    have hm' : ¬ ((p : Int) ≠ 0 ∧ openL es (p : Int) = false) := fun q => by rw [q.2] at hm; simp at hm; exact q.1 (by omega)
    by_cases h15 : 15 ≤ T.n
    · have e15 : (15 : Int) ≤ (T.n : Int) := by omega
      have HV : Hid (beginR es (p : Int) = (es, 0, 10)) := by show _ = _; unfold beginR; rw [if_neg hm', if_pos (by omega)]
      clear q h j hmo hm hn hm'
      go_enter Tryz.func58, Tryz.ntmps58
      go_wp2_with fail
      refine HM.out.mono ?_
      rintro r w1 ⟨rfl, rfl⟩
      go_wp2_with fail
      refine HBG.out.mono ?_
      rintro r w1 ⟨rfl, rfl⟩
      go_wp2_with fail
      go_ret2
      exact ⟨by rw [HV.out]; rfl, by rw [HV.out]; exact ⟨HS.out, FrB.refl _ _⟩⟩
    · have e15 : ¬ (15 : Int) ≤ (T.n : Int) := by omega
      by_cases h60 : 60 ≤ es.length
      · have HV : Hid (beginR es (p : Int) = (es, 0, 10)) := by show _ = _; unfold beginR; rw [if_neg hm', if_neg (by omega), if_pos h60]
        rw [decide_eq_true h60] at HFU
        clear q h j hmo hm hn hm'
        go_enter Tryz.func58, Tryz.ntmps58
        go_wp2_with fail
        refine HM.out.mono ?_
        rintro r w1 ⟨rfl, rfl⟩
        go_wp2_with fail
        refine HBG.out.mono ?_
        rintro r w1 ⟨rfl, rfl⟩
        go_wp2_with fail
        refine HFU.out.mono ?_
        rintro r w1 ⟨rfl, rfl⟩
        go_wp2_with fail
        go_ret2
        exact ⟨by rw [HV.out]; rfl, by rw [HV.out]; exact ⟨HS.out, FrB.refl _ _⟩⟩
      · have HV : Hid (beginR es (p : Int) = (es ++ [⟨1, ((T.n + 1 : Nat) : Int), (p : Int), 0, 0⟩], ((T.n + 1 : Nat) : Int), 0)) := by
          show _ = _
          unfold beginR
          rw [if_neg hm', if_neg (by omega), if_neg h60, show ((countL es : Int) + 1) = ((T.n + 1 : Nat) : Int) by omega]
        rw [decide_eq_false h60] at HFU
        have hr : RInv (es ++ [⟨1, ((T.n + 1 : Nat) : Int), (p : Int), 0, 0⟩]) (beginT T (p : Int)) W := by
          rcases q.r.begin_or p with h1 | ⟨_, _, _, h3⟩
          · rw [HV.out] at h1
            have := congrArg List.length h1
            simp at this
          · exact h3
        have HQ := hidIt (q.begin_ _ (p : Int) rfl (by omega) hr)
        have HB := hidIt (begin_any b p T w h.tr hp (by omega) (by rw [hmo, hm]))
        have HST := hidIt h
        clear q h j hmo hm hn hm' hr
        go_enter Tryz.func58, Tryz.ntmps58
        go_wp2_with fail
        refine HM.out.mono ?_
        rintro r w1 ⟨rfl, rfl⟩
        go_wp2_with fail
        refine HBG.out.mono ?_
        rintro r w1 ⟨rfl, rfl⟩
        go_wp2_with fail
        refine HFU.out.mono ?_
        rintro r w1 ⟨rfl, rfl⟩
        go_wp2_with fail
        refine HB.out.mono ?_
        rintro r w2 ⟨rfl, htr, hon⟩
        have HBG2 := hidIt (begun_any b _ w2 htr)
        have HW := hidIt (writeDown_any b (beginT T (p : Int)) O es ⟨1, ((T.n + 1 : Nat) : Int), (p : Int), 0, 0⟩ w2 (HST.out.setTr htr hon) (by omega))
        have HON := hidIt hon
        clear htr hon
        go_wp2_with fail
        refine HBG2.out.mono ?_
        rintro r w4 ⟨rfl, rfl⟩
        go_wp2_with fail
        refine HW.out.mono ?_
        rintro r w3 ⟨rfl, hs3, hf3⟩
        have HR3 := hidIt (And.intro hs3 hf3)
        clear hs3 hf3
        go_wp2_with fail
        go_ret2
        exact ⟨by rw [HV.out]; rfl, by rw [HV.out]; exact ⟨⟨_, _, _, HQ.out, HR3.out.1, by simp; omega⟩, HON.out.toB.fr.trans HR3.out.2⟩⟩

end Go.Proofs.YtfdalbmopaemgabGreatDoor

namespace Go.Proofs.YtfdalbmopaemgabGreatDoor
open Go.RowKit

def upTo (f g : Nat → Ob) (k : Nat) : Nat → Ob := fun x => if x < k then f x else g x

theorem upTo_succ (f g : Nat → Ob) (k : Nat) : upd (upTo f g k) k (f k) = upTo f g (k + 1) := by
  funext x
  unfold upd upTo
  by_cases h : x = k
  · subst h; rw [if_pos rfl, if_pos (by omega)]
  · rw [if_neg h]
    by_cases h2 : x < k
    · rw [if_pos h2, if_pos (by omega)]
    · rw [if_neg h2, if_neg (by omega)]

theorem upTo_self (f g : Nat → Ob) (k : Nat) : upTo f g k k = g k := by unfold upTo; rw [if_neg (by omega)]

def CoLoop (w : World) (b : Nat) (T : Tr) (f g : Nat → Ob) (es : List Ev) (k : Nat) (wr : World) : Prop := StAt wr b T (upTo f g k) es ∧ OnlyB w wr b

theorem StAt.congr {w : World} {b : Nat} {T : Tr} {O O' : Nat → Ob} {es : List Ev} (h : StAt w b T O es) (hh : ∀ x, x < 4 → O' x = O x) : StAt w b T O' es :=
  ⟨h.tr, fun x hx => by rw [hh x hx]; exact h.ob x hx, h.ev, h.n⟩

set_option maxRecDepth 100000 in
set_option maxHeartbeats 4000000 in
theorem scommit_any (b t : Nat) (es : List Ev) (w : World) (h : StC w b es) (ht : t ≤ 255) :
    Calls Tryz.prog 66 #[.pointer (some ⟨b, 0, none⟩), .int .u8 (t : Int)] w fun r w' => r = .returned (.int .i64 (endR es 5 (t : Int)).2) ∧ StP w b (endR es 5 (t : Int)).1 w' := by
  have HS := hidIt h
  obtain ⟨T, W, O, q, h, hlen⟩ := h
  have j := q.r.s.jj
  have HC := hidIt (isOpen_any b t T w h.tr ht)
  have hio := isO_open j t
  rw [hio] at HC
  have HFU := hidIt (isFull_any b T O es w h)
  have HD := hidIt (child_any b (t : Int) T w h.tr)
  have hce := child_eq j (t : Int)
  rw [hce] at HD
  cases ho : openL es (t : Int) with
  | false =>
    rw [ho] at HC
    have HV : Hid (endR es 5 (t : Int) = (es, 4)) := by show _ = _; unfold endR; rw [if_pos ho]
    clear q h j hio ho hce
    go_enter Tryz.func66, Tryz.ntmps66
    go_wp2_with fail
    refine HC.out.mono ?_
    rintro r w1 ⟨rfl, rfl⟩
    go_wp2_with fail
    go_ret
    exact ⟨by rw [HV.out]; rfl, by rw [HV.out]; exact ⟨HS.out, FrB.refl _ _⟩⟩
  | true =>
    rw [ho] at HC
    cases hch : childL es (t : Int) with
    | true =>
      rw [hch] at HD
      have HV : Hid (endR es 5 (t : Int) = (es, 8)) := by show _ = _; unfold endR; rw [if_neg (by rw [ho]; decide), if_pos ⟨rfl, hch⟩]
      clear q h j hio ho hce hch
      go_enter Tryz.func66, Tryz.ntmps66
      go_wp2_with fail
      refine HC.out.mono ?_
      rintro r w1 ⟨rfl, rfl⟩
      go_wp2_with fail
      refine HD.out.mono ?_
      rintro r w1 ⟨rfl, rfl⟩
      go_wp2_with fail
      go_ret
      exact ⟨by rw [HV.out]; rfl, by rw [HV.out]; exact ⟨HS.out, FrB.refl _ _⟩⟩
    | false =>
      rw [hch] at HD
      by_cases h60 : 60 ≤ es.length
      · rw [decide_eq_true h60] at HFU
        have HV : Hid (endR es 5 (t : Int) = (es, 10)) := by show _ = _; unfold endR; rw [if_neg (by rw [ho]; decide), if_neg (by rw [hch]; simp), if_pos h60]
        clear q h j hio ho hce hch
        go_enter Tryz.func66, Tryz.ntmps66
        go_wp2_with fail
        refine HC.out.mono ?_
        rintro r w1 ⟨rfl, rfl⟩
        go_wp2_with fail
        refine HD.out.mono ?_
        rintro r w1 ⟨rfl, rfl⟩
        go_wp2_with fail
        refine HFU.out.mono ?_
        rintro r w1 ⟨rfl, rfl⟩
        go_wp2_with fail
        go_ret
        exact ⟨by rw [HV.out]; rfl, by rw [HV.out]; exact ⟨HS.out, FrB.refl _ _⟩⟩
      · rw [decide_eq_false h60] at HFU
        have HV : Hid (endR es 5 (t : Int) = (es ++ [⟨5, (t : Int), 0, 0, 0⟩], 0)) := by show _ = _; unfold endR; rw [if_neg (by rw [ho]; decide), if_neg (by rw [hch]; simp), if_neg h60]
        have ht15 := open15 j ho
        obtain ⟨p, hp, hr⟩ : ∃ p : Nat, T.par t = (p : Int) ∧ RInv (es ++ [⟨5, (t : Int), ((0 : Nat) : Int), 0, 0⟩]) (commitT T t) (upd W p (W p ++ W t)) := by
          rcases q.r.end_or 5 t (Or.inl rfl) with h1 | ⟨_, _, h3, _⟩
          · rw [HV.out] at h1
            have := congrArg List.length h1
            simp at this
          · exact (h3 rfl).2
        have hpl := live_le j (live_of_open j ho).1
        have hplt := jj_par j t ht15.1 hpl
        rw [hp, Int.toNat_natCast] at hplt
        have HQ := hidIt (q.commit ⟨5, (t : Int), 0, 0, 0⟩ t p rfl ho hch hp hr)
        have HP := hidIt (parent_any b t T w h.tr ht15.2)
        rw [hp] at HP
        have HL : Hid (∀ x, x < 4 → (O x).rd < 65536 ∧ (O x).wr < 65536) := fun x hx => q.lt16 x hx
        have HA0 : Hid (CoLoop w b T (fun x => handO (O x) t p) O es 0 w) := ⟨h.congr (fun x _ => by unfold upTo; rw [if_neg (by omega)]), OnlyB.refl _ _⟩
        have hoT : T.op t = true := by rw [j.op t ht15.2]; exact ho
        have hct : childT T (t : Int) = false := by rw [hce, hch]
        have HOT := hidIt hoT
        have HCT := hidIt hct
        clear q h j hio ho hce hch hr hp hpl hoT hct
        go_enter Tryz.func66, Tryz.ntmps66
        go_wp2_with fail
        refine HC.out.mono ?_
        rintro r w1 ⟨rfl, rfl⟩
        go_wp2_with fail
        refine HD.out.mono ?_
        rintro r w1 ⟨rfl, rfl⟩
        go_wp2_with fail
        refine HFU.out.mono ?_
        rintro r w1 ⟨rfl, rfl⟩
        go_wp2_with fail
        refine HP.out.mono ?_
        rintro r w1 ⟨rfl, rfl⟩
        go_wp2_with fail
        go_loopw [25] (fun i wr => ∃ k : Nat, k ≤ 4 ∧ i = .int .i64 k ∧ CoLoop w1 b T (fun x => handO (O x) t p) O es k wr) (fun i _ => 4 - (intOf i).toNat)
        case atStart => exact ⟨0, by omega, rfl, HA0.out⟩
        case round =>
          obtain ⟨k, hk, rfl, hst, hon⟩ := hrel
          by_cases hlt : k < 4
          · have hlt' : (k : Int) < 4 := by omega
            have hk0 : (0 : Int) ≤ (k : Int) := by omega
            have hob := hst.ob k hlt
            rw [upTo_self] at hob
            have HH := hidIt (handUp_any b (33 + k * 18) t p (O k) wr hob hst.tr.fz (by omega) ht15.2 (by omega) (HL.out k hlt).1 (HL.out k hlt).2)
            have HST := hidIt hst
            have HON := hidIt hon
            clear hst hon hob
            go_wp2_with fail
            refine HH.out.mono ?_
            rintro r w2 ⟨rfl, hob, hoc⟩
            have hn := HST.out.setOb k hlt _ hob hoc
            rw [upTo_succ (fun x => handO (O x) t p) O k] at hn
            have HN : Hid (CoLoop w1 b T (fun x => handO (O x) t p) O es (k + 1) w2) := ⟨hn, HON.out.trans hoc.toB⟩
            clear hn hob hoc
            go_wp2_with fail
            go_roundw
            case rel => exact ⟨k + 1, by omega, by go_num, HN.out⟩
            case measure => simp [intOf]; omega
          · have hge : ¬ (k : Int) < 4 := by omega
            have hk4 : k = 4 := by omega
            subst hk4
            have hst' : StAt wr b T (fun x => handO (O x) t p) es := hst.congr (fun x hx => by unfold upTo; rw [if_pos hx])
            have HCM := hidIt (commit_any b t T wr hst'.tr ht15.2 HOT.out HCT.out)
            have HST := hidIt hst'
            have HON := hidIt hon
            clear hst hst' hon
            go_wp2_with fail
            refine HCM.out.mono ?_
            rintro r w2 ⟨rfl, htr, hc⟩
            have HW := hidIt (writeDown_any b (commitT T t) (fun x => handO (O x) t p) es ⟨5, (t : Int), 0, 0, 0⟩ w2 (HST.out.setTr htr hc) (by omega))
            have HOC := hidIt hc
            clear htr hc
            go_wp2_with fail
            refine HW.out.mono ?_
            rintro r w3 ⟨rfl, hs3, hf3⟩
            have HR3 := hidIt (And.intro hs3 hf3)
            clear hs3 hf3
            go_wp2_with fail
            go_ret
            exact ⟨by rw [HV.out]; rfl, by rw [HV.out]; exact ⟨⟨_, _, _, HQ.out, HR3.out.1, by simp; omega⟩, (HON.out.fr.trans HOC.out.toB.fr).trans HR3.out.2⟩⟩

set_option maxRecDepth 100000 in
set_option maxHeartbeats 4000000 in
theorem sabort_any (b t : Nat) (es : List Ev) (w : World) (h : StC w b es) (ht : t ≤ 255) :
    Calls Tryz.prog 68 #[.pointer (some ⟨b, 0, none⟩), .int .u8 (t : Int)] w fun r w' => r = .returned (.int .i64 (endR es 6 (t : Int)).2) ∧ StP w b (endR es 6 (t : Int)).1 w' := by
  have HS := hidIt h
  obtain ⟨T, W, O, q, h, hlen⟩ := h
  have j := q.r.s.jj
  have HC := hidIt (isOpen_any b t T w h.tr ht)
  have hio := isO_open j t
  rw [hio] at HC
  have HFU := hidIt (isFull_any b T O es w h)
  cases ho : openL es (t : Int) with
  | false =>
    rw [ho] at HC
    have HV : Hid (endR es 6 (t : Int) = (es, 4)) := by show _ = _; unfold endR; rw [if_pos ho]
    clear q h j hio ho
    go_enter Tryz.func68, Tryz.ntmps68
    go_wp2_with fail
    refine HC.out.mono ?_
    rintro r w1 ⟨rfl, rfl⟩
    go_wp2_with fail
    go_ret
    exact ⟨by rw [HV.out]; rfl, by rw [HV.out]; exact ⟨HS.out, FrB.refl _ _⟩⟩
  | true =>
    rw [ho] at HC
    by_cases h60 : 60 ≤ es.length
    · rw [decide_eq_true h60] at HFU
      have HV : Hid (endR es 6 (t : Int) = (es, 10)) := by show _ = _; unfold endR; rw [if_neg (by rw [ho]; decide), if_neg (by simp), if_pos h60]
      clear q h j hio ho
      go_enter Tryz.func68, Tryz.ntmps68
      go_wp2_with fail
      refine HC.out.mono ?_
      rintro r w1 ⟨rfl, rfl⟩
      go_wp2_with fail
      refine HFU.out.mono ?_
      rintro r w1 ⟨rfl, rfl⟩
      go_wp2_with fail
      go_ret
      exact ⟨by rw [HV.out]; rfl, by rw [HV.out]; exact ⟨HS.out, FrB.refl _ _⟩⟩
    · rw [decide_eq_false h60] at HFU
      have HV : Hid (endR es 6 (t : Int) = (es ++ [⟨6, (t : Int), 0, 0, 0⟩], 0)) := by show _ = _; unfold endR; rw [if_neg (by rw [ho]; decide), if_neg (by simp), if_neg h60]
      have ht15 := open15 j ho
      have hr : RInv (es ++ [⟨6, (t : Int), ((0 : Nat) : Int), 0, 0⟩]) (abortT T t) W := by
        rcases q.r.end_or 6 t (Or.inr rfl) with h1 | ⟨_, _, _, h4⟩
        · rw [HV.out] at h1
          have := congrArg List.length h1
          simp at this
        · exact h4 rfl
      have HQ := hidIt (q.abort ⟨6, (t : Int), 0, 0, 0⟩ t rfl ho hr)
      have hoT : T.op t = true := by rw [j.op t ht15.2]; exact ho
      have HAB := hidIt (abort_any b t T w h.tr ht15.2 hoT (jj_par255 j))
      have HL : Hid (∀ x, x < 4 → (O x).rd < 65536 ∧ (O x).wr < 65536) := fun x hx => q.lt16 x hx
      have HST0 := hidIt h
      have HML : Hid (openD (abortT T t).op 15 0 < 65536) := openD_lt _ 15 0 (by decide)
      generalize hm : openD (abortT T t).op 15 0 = m at HQ HML
      have HM := hidIt hm
      clear q h j hio ho hr hoT hm
      go_enter Tryz.func68, Tryz.ntmps68
      go_wp2_with fail
      refine HC.out.mono ?_
      rintro r w1 ⟨rfl, rfl⟩
      go_wp2_with fail
      refine HFU.out.mono ?_
      rintro r w1 ⟨rfl, rfl⟩
      go_wp2_with fail
      refine HAB.out.mono ?_
      rintro r w2 ⟨rfl, htr, hc⟩
      have HOP := hidIt (open_any b _ w2 htr)
      rw [HM.out] at HOP
      have hs2 := HST0.out.setTr htr hc
      have HA0 : Hid (CoLoop w1 b (abortT T t) (fun x => keepO (O x) m) O es 0 w2) := ⟨hs2.congr (fun x _ => by unfold upTo; rw [if_neg (by omega)]), hc.toB⟩
      clear htr hc hs2
      go_wp2_with fail
      refine HOP.out.mono ?_
      rintro r w4 ⟨rfl, rfl⟩
      go_wp2_with fail
      go_loopw [24] (fun i wr => ∃ k : Nat, k ≤ 4 ∧ i = .int .i64 k ∧ CoLoop w1 b (abortT T t) (fun x => keepO (O x) m) O es k wr) (fun i _ => 4 - (intOf i).toNat)
      case atStart => exact ⟨0, by omega, rfl, HA0.out⟩
      case round =>
        obtain ⟨k, hk, rfl, hst, hon⟩ := hrel
        by_cases hlt : k < 4
        · have hlt' : (k : Int) < 4 := by omega
          have hk0 : (0 : Int) ≤ (k : Int) := by omega
          have hob := hst.ob k hlt
          rw [upTo_self] at hob
          have HH := hidIt (keepOnly_any b (33 + k * 18) m (O k) wr hob hst.tr.fz HML.out (HL.out k hlt).1 (HL.out k hlt).2)
          have HST := hidIt hst
          have HON := hidIt hon
          clear hst hon hob
          go_wp2_with fail
          refine HH.out.mono ?_
          rintro r w2 ⟨rfl, hob, hoc⟩
          have hn := HST.out.setOb k hlt _ hob hoc
          rw [upTo_succ (fun x => keepO (O x) m) O k] at hn
          have HN : Hid (CoLoop w1 b (abortT T t) (fun x => keepO (O x) m) O es (k + 1) w2) := ⟨hn, HON.out.trans hoc.toB⟩
          clear hn hob hoc
          go_wp2_with fail
          go_roundw
          case rel => exact ⟨k + 1, by omega, by go_num, HN.out⟩
          case measure => simp [intOf]; omega
        · have hge : ¬ (k : Int) < 4 := by omega
          have hk4 : k = 4 := by omega
          subst hk4
          have hst' : StAt wr b (abortT T t) (fun x => keepO (O x) m) es := hst.congr (fun x hx => by unfold upTo; rw [if_pos hx])
          have HW := hidIt (writeDown_any b (abortT T t) (fun x => keepO (O x) m) es ⟨6, (t : Int), 0, 0, 0⟩ wr hst' (by omega))
          have HON := hidIt hon
          clear hst hst' hon
          go_wp2_with fail
          refine HW.out.mono ?_
          rintro r w3 ⟨rfl, hs3, hf3⟩
          have HR3 := hidIt (And.intro hs3 hf3)
          clear hs3 hf3
          go_wp2_with fail
          go_ret
          exact ⟨by rw [HV.out]; rfl, by rw [HV.out]; exact ⟨⟨_, _, _, HQ.out, HR3.out.1, by simp; omega⟩, HON.out.fr.trans HR3.out.2⟩⟩

end Go.Proofs.YtfdalbmopaemgabGreatDoor
