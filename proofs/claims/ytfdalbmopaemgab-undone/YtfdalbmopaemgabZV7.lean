import Derived.Test.YtfdalbmopaemgabZV6
import Derived.Test.YtfdalbmopaemgabZK8
namespace Go.Proofs.Ytfdalbmopaemgab
open Go.RowKit

theorem jj_par255 {es : List Ev} {T : Tr} (j : JJ es T) : ∀ i, i ≤ 15 → 0 ≤ T.par i ∧ T.par i ≤ 255 := fun i hi => by
  have h15 := j.n15
  by_cases h : 1 ≤ i ∧ i ≤ T.n
  · have := j.low i h.1 h.2
    rw [j.par i hi]
    omega
  · have hb : begunN (i : Int) es = none := j.none_ i (by omega)
    rw [j.par i hi]
    unfold parentL
    rw [hb]
    simp

/-- Only the block b, and new ones. -/
structure FrB (w w' : World) (b : Nat) : Prop where
  below : Below 0 w w'
  rest : ∀ k, k < w.heap.size → k ≠ b → w'.heap[k]? = w.heap[k]?

theorem FrB.refl (w : World) (b : Nat) : FrB w w b := ⟨Below.refl _ _, fun _ _ _ => rfl⟩
theorem FrB.trans {w w' w'' : World} {b : Nat} (h : FrB w w' b) (h' : FrB w' w'' b) : FrB w w'' b :=
  ⟨h.below.trans h'.below, fun k hk hb => (h'.rest k (Nat.lt_of_lt_of_le hk h.below.size) hb).trans (h.rest k hk hb)⟩
theorem OnlyB.fr {w w' : World} {b : Nat} (h : OnlyB w w' b) : FrB w w' b := ⟨h.below.mono (Nat.zero_le _), fun k _ hb => h.rest k hb⟩
theorem FrB.drewN {w w' : World} {b : Nat} (h : FrB w w' b) (n : Nat) : FrB w (w'.drewN n) b := ⟨below_drewN h.below n, h.rest⟩
theorem FrB.drew {w w' : World} {b : Nat} (h : FrB w w' b) : FrB w w'.drew b := h.drewN 1
theorem FrB.new {w w' : World} (b : Nat) (h : Below w.heap.size w w') : FrB w w' b := ⟨h.mono (Nat.zero_le _), fun k hk _ => h.block k hk⟩

theorem isFull_any (b : Nat) (T : Tr) (O : Nat → Ob) (es : List Ev) (w : World) (h : StAt w b T O es) :
    Calls Try.prog 42 #[.pointer (some ⟨b, 0, none⟩)] w fun r w' => r = .returned (.bool (decide (60 ≤ es.length))) ∧ w' = w := by
  have g := h.n
  clear h
  by_cases h60 : 60 ≤ es.length
  · have e1 : (60 : Int) ≤ (es.length : Int) := by omega
    go_enter Try.func42, Try.ntmps42
    go_wp2_with fail
    go_ret
    exact ⟨ret_bool (by first | rfl | exact (decide_eq_true h60).symm), rfl⟩
  · have e1 : ¬ (60 : Int) ≤ (es.length : Int) := by omega
    go_enter Try.func42, Try.ntmps42
    go_wp2_with fail
    go_ret
    exact ⟨ret_bool (by first | rfl | exact (decide_eq_true h60).symm), rfl⟩

def DownPost (w : World) (b : Nat) (T : Tr) (O : Nat → Ob) (es : List Ev) (r : Ending) (w' : World) : Prop := r = .returned (.tuple #[]) ∧ StAt w' b T O es ∧ FrB w w' b

set_option maxRecDepth 100000 in
set_option maxHeartbeats 2000000 in
theorem writeDown_any (b : Nat) (T : Tr) (O : Nat → Ob) (es : List Ev) (e : Ev) (w : World) (h : StAt w b T O es) (hl : es.length < 60) :
    Calls Try.prog 38 #[.pointer (some ⟨b, 0, none⟩), evV e] w (DownPost w b T O (es ++ [e])) := by
  have hlt := h.tr.lt
  have g := h.n
  have f := h.tr.fz
  obtain ⟨e0, e1, e2, e3, e4⟩ := h.ev es.length hl
  have hl' : (es.length : Int) < 60 := by omega
  have h1 := h.addEv e hl
  have HO := hidIt (addW_only w b es.length e hl)
  have hsz : (addW w b es.length e).heap.size = w.heap.size := HO.out.size
  have hlt1 : b < (addW w b es.length e).heap.size := by omega
  have HR : Hid (∀ c, StAt ((addW w b es.length e).alloc c) b T O (es ++ [e])) := fun c => h1.of_heap (((Below.refl _ _).alloc (Nat.le_refl _) c).block b hlt1) (by simp)
  have HF : Hid (∀ c, FrB w ((addW w b es.length e).alloc c) b) := fun c => HO.out.toB.fr.trans (FrB.new b ((Below.refl _ _).alloc (Nat.le_refl _) c))
  clear h h1 hsz hlt1
  go_enter Try.func38, Try.ntmps38
  go_wp2_with fail
  go_region
  go_wp2_with fail
  go_end0
  exact ⟨rfl, (HR.out _).drew, (HF.out _).drew⟩

/-! ### Why not, and what it is -/
def whyL (es : List Ev) (k t x : Int) : Int :=
  if openL es t = false then 4 else if 4 ≤ x then 6 else if strangerL es t (othersL es k x) = true then 9 else if 60 ≤ es.length then 10 else 0

theorem accessR_fault (es : List Ev) (k t x v : Int) (h : whyL es k t x ≠ 0) : accessR es k t x v = (es, 0, whyL es k t x) := by
  unfold whyL at h ⊢
  unfold accessR
  by_cases h1 : openL es t = false
  · rw [if_pos h1, if_pos h1]
  · rw [if_neg h1] at h ⊢
    rw [if_neg h1]
    by_cases h2 : 4 ≤ x
    · rw [if_pos h2, if_pos h2]
    · rw [if_neg h2] at h ⊢
      rw [if_neg h2]
      by_cases h3 : strangerL es t (othersL es k x) = true
      · rw [if_pos h3, if_pos h3]
      · rw [if_neg h3] at h ⊢
        rw [if_neg h3]
        by_cases h4 : 60 ≤ es.length
        · rw [if_pos h4, if_pos h4]
        · rw [if_neg h4] at h
          exact absurd rfl h

theorem accessR_fine (es : List Ev) (k t x v : Int) (h : whyL es k t x = 0) : accessR es k t x v = (es ++ [accEv es k t x v], accN es k t x v, 0) ∧ openL es t = true ∧ x < 4 ∧ strangerL es t (othersL es k x) = false ∧ es.length < 60 := by
  unfold whyL at h
  unfold accessR
  by_cases h1 : openL es t = false
  · rw [if_pos h1] at h; exact absurd h (by decide)
  · rw [if_neg h1] at h ⊢
    by_cases h2 : 4 ≤ x
    · rw [if_pos h2] at h; exact absurd h (by decide)
    · rw [if_neg h2] at h ⊢
      by_cases h3 : strangerL es t (othersL es k x) = true
      · rw [if_pos h3] at h; exact absurd h (by decide)
      · rw [if_neg h3] at h ⊢
        by_cases h4 : 60 ≤ es.length
        · rw [if_pos h4] at h; exact absurd h (by decide)
        · rw [if_neg h4]
          exact ⟨rfl, by simpa using h1, by omega, by simpa using h3, by omega⟩

theorem QInv.lt16 {es : List Ev} {T : Tr} {W : Nat → List Nat} {O : Nat → Ob} (q : QInv es T W O) (x : Nat) (hx : x < 4) : (O x).rd < 65536 ∧ (O x).wr < 65536 := by
  have := holdersL_lt (low15 q.r.s.jj) (x : Int)
  rw [q.rd x hx, q.wr x hx]
  exact this

theorem QInv.out {es : List Ev} {T : Tr} {W : Nat → List Nat} {O : Nat → Ob} (q : QInv es T W O) (t x : Nat) (wr : Bool) (k : Int) (hk : k = 2 ↔ wr = false) (hx : x < 4) (ht : openL es (t : Int) = true) : outB (if wr then (O x).wr ||| (O x).rd else (O x).wr) (lineN T t) = strangerL es (t : Int) (othersL es k (x : Int)) := by
  have j := q.r.s.jj
  have htn := live_le j (live_of_open j ht).1
  have b0 := bits0 q.r (x : Int)
  unfold othersL
  rw [q.rd x hx, q.wr x hx]
  cases wr with
  | true =>
    rw [if_pos rfl, if_neg (fun e => by have := hk.1 e; cases this)]
    exact out_is j t _ htn (by rw [Nat.testBit_or, b0.1, b0.2]; rfl)
  | false =>
    rw [if_neg (by decide), if_pos (hk.2 rfl)]
    exact out_is j t _ htn b0.2

theorem open15 {es : List Ev} {T : Tr} (j : JJ es T) {t : Nat} (h : openL es (t : Int) = true) : 1 ≤ t ∧ t ≤ 15 := by
  have := j.open_range h
  have := j.n15
  omega

set_option maxRecDepth 100000 in
set_option maxHeartbeats 2000000 in
theorem accessFault_any (b t x : Nat) (wr : Bool) (k : Int) (hk : k = 2 ↔ wr = false) (T : Tr) (W : Nat → List Nat) (O : Nat → Ob) (es : List Ev) (w : World) (q : QInv es T W O) (h : StAt w b T O es) (ht : t ≤ 255) (hx : x ≤ 255) :
    Calls Try.prog 35 #[.pointer (some ⟨b, 0, none⟩), .int .u8 (t : Int), .int .u8 (x : Int), .bool wr] w fun r w' => r = .returned (.int .i64 (whyL es k (t : Int) (x : Int))) ∧ w' = w := by
  have j := q.r.s.jj
  have HC := hidIt (isOpen_any b t T w h.tr ht)
  have hio := isO_open j t
  rw [hio] at HC
  have HFU := hidIt (isFull_any b T O es w h)
  cases ho : openL es (t : Int) with
  | false =>
    rw [ho] at HC
    have HV : Hid (whyL es k (t : Int) (x : Int) = 4) := by show _ = _; unfold whyL; rw [if_pos ho]
    clear q h j hio ho
    go_enter Try.func35, Try.ntmps35
    go_wp2_with fail
    refine HC.out.mono ?_
    rintro r w1 ⟨rfl, rfl⟩
    go_wp2_with fail
    go_ret
    exact ⟨by rw [HV.out]; rfl, rfl⟩
  | true =>
    rw [ho] at HC
    by_cases hx4 : 4 ≤ x
    · have e4 : (4 : Int) ≤ (x : Int) := by omega
      have HV : Hid (whyL es k (t : Int) (x : Int) = 6) := by show _ = _; unfold whyL; rw [if_neg (by rw [ho]; decide), if_pos e4]
      clear q h j hio ho
      go_enter Try.func35, Try.ntmps35
      go_wp2_with fail
      refine HC.out.mono ?_
      rintro r w1 ⟨rfl, rfl⟩
      go_wp2_with fail
      go_ret
      exact ⟨by rw [HV.out]; rfl, rfl⟩
    · have e4 : ¬ (4 : Int) ≤ (x : Int) := by omega
      have e5 : (x : Int) < 4 := by omega
      have ht15 := open15 j ho
      have HLN := hidIt (line_any b t T w h.tr ht15.2 (jj_par255 j))
      have hlt := q.lt16 x (by omega)
      have hln : lineN T t < 65536 := lineD_lt T.par 15 t 0 (by decide)
      have HKO := hidIt (keepsOut_any b (33 + x * 18) (lineN T t) (O x) wr w (h.ob x (by omega)) hln hlt.1 hlt.2)
      rw [q.out t x wr k hk (by omega) ho] at HKO
      have HV : Hid (whyL es k (t : Int) (x : Int) = if strangerL es (t : Int) (othersL es k (x : Int)) = true then 9 else if 60 ≤ es.length then 10 else 0) := by show _ = _; unfold whyL; rw [if_neg (by rw [ho]; decide), if_neg e4]
      clear q h j hio ho hlt hln
      generalize strangerL es (t : Int) (othersL es k (x : Int)) = st at HKO HV
      cases st with
      | true =>
        rw [if_pos rfl] at HV
        go_enter Try.func35, Try.ntmps35
        go_wp2_with fail
        refine HC.out.mono ?_
        rintro r w1 ⟨rfl, rfl⟩
        go_wp2_with fail
        refine HLN.out.mono ?_
        rintro r w1 ⟨rfl, rfl⟩
        go_wp2_with fail
        refine HKO.out.mono ?_
        rintro r w1 ⟨rfl, rfl⟩
        go_wp2_with fail
        go_ret
        exact ⟨by rw [HV.out]; rfl, rfl⟩
      | false =>
        rw [if_neg (by decide)] at HV
        by_cases h60 : 60 ≤ es.length
        · rw [if_pos h60] at HV
          rw [decide_eq_true h60] at HFU
          go_enter Try.func35, Try.ntmps35
          go_wp2_with fail
          refine HC.out.mono ?_
          rintro r w1 ⟨rfl, rfl⟩
          go_wp2_with fail
          refine HLN.out.mono ?_
          rintro r w1 ⟨rfl, rfl⟩
          go_wp2_with fail
          refine HKO.out.mono ?_
          rintro r w1 ⟨rfl, rfl⟩
          go_wp2_with fail
          refine HFU.out.mono ?_
          rintro r w1 ⟨rfl, rfl⟩
          go_wp2_with fail
          go_ret
          exact ⟨by rw [HV.out]; rfl, rfl⟩
        · rw [if_neg h60] at HV
          rw [decide_eq_false h60] at HFU
          go_enter Try.func35, Try.ntmps35
          go_wp2_with fail
          refine HC.out.mono ?_
          rintro r w1 ⟨rfl, rfl⟩
          go_wp2_with fail
          refine HLN.out.mono ?_
          rintro r w1 ⟨rfl, rfl⟩
          go_wp2_with fail
          refine HKO.out.mono ?_
          rintro r w1 ⟨rfl, rfl⟩
          go_wp2_with fail
          refine HFU.out.mono ?_
          rintro r w1 ⟨rfl, rfl⟩
          go_wp2_with fail
          go_ret
          exact ⟨by rw [HV.out]; rfl, rfl⟩

set_option maxRecDepth 100000 in
set_option maxHeartbeats 2000000 in
theorem valueFor_any (b t x : Nat) (T : Tr) (W : Nat → List Nat) (O : Nat → Ob) (es : List Ev) (w : World) (q : QInv es T W O) (h : StAt w b T O es) (ho : openL es (t : Int) = true) (hx : x < 4) :
    Calls Try.prog 36 #[.pointer (some ⟨b, 0, none⟩), .int .u8 (t : Int), .int .u8 (x : Int)] w fun r w' => r = .returned (.int .i32 (isL es (t : Int) (x : Int))) ∧ w' = w := by
  have j := q.r.s.jj
  have ht15 := open15 j ho
  have e5 : (x : Int) < 4 := by omega
  have hln : lineN T t < 65536 := lineD_lt T.par 15 t 0 (by decide)
  have HLN := hidIt (line_any b t T w h.tr ht15.2 (jj_par255 j))
  have HVA := hidIt (value_any b (33 + x * 18) (lineN T t) (O x) w (h.ob x hx) hln (q.lt16 x hx).2)
  rw [value_is q t x hx (live_of_open j ho).1] at HVA
  clear q h j ho hln
  go_enter Try.func36, Try.ntmps36
  go_wp2_with fail
  refine HLN.out.mono ?_
  rintro r w1 ⟨rfl, rfl⟩
  go_wp2_with fail
  refine HVA.out.mono ?_
  rintro r w1 ⟨rfl, rfl⟩
  go_wp2_with fail
  go_ret
  exact ⟨rfl, rfl⟩

end Go.Proofs.Ytfdalbmopaemgab
