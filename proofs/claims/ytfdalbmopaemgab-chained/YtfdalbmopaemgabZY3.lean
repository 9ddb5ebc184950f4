import Derived.Test.YtfdalbmopaemgabZY1
namespace Go.Proofs.Ytfdalbmopaemgab
open Go.RowKit

/-! ### Transactions in one another, and one beside them -/
/-- 1 lies in 0; 2 lies in 0; each further one in the one before it. -/
def chPar (T : Tr) : Prop := T.par 1 = ((0 : Nat) : Int) ∧ T.par 2 = ((0 : Nat) : Int) ∧ ∀ c, 3 ≤ c → c ≤ T.n → T.par c = ((c - 1 : Nat) : Int)

/-- Behind the Begin of 1 and of k more. -/
structure Ch1 (es : List Ev) (k : Nat) : Prop where
  q : ∃ T W O, QInv es T W O ∧ T.n = k + 1 ∧ T.par 1 = ((0 : Nat) : Int) ∧ (2 ≤ k + 1 → T.par 2 = ((0 : Nat) : Int)) ∧ (∀ c, 3 ≤ c → c ≤ k + 1 → T.par c = ((c - 1 : Nat) : Int)) ∧ (∀ c, 1 ≤ c → c ≤ 15 → (T.op c = true ↔ c ≤ k + 1)) ∧ (∀ y, y < 4 → (O y).rd = 0 ∧ (O y).wr = 0)
  len : es.length = k + 1

def upN (k : Nat) : Nat := if k = 0 then 0 else k + 1

theorem begin_open {es : List Ev} {T : Tr} {W : Nat → List Nat} {O : Nat → Ob} (q : QInv es T W O) (p : Nat) (hp : Live T p) (hn : T.n < 15) (hl : es.length < 60) :
    beginR es (p : Int) = (es ++ [⟨1, ((T.n + 1 : Nat) : Int), (p : Int), 0, 0⟩], ((T.n + 1 : Nat) : Int), 0) ∧ QInv (es ++ [⟨1, ((T.n + 1 : Nat) : Int), (p : Int), 0, 0⟩]) (beginT T (p : Int)) W O := by
  have j := q.r.s.jj
  have hj := j.n
  have hb : beginR es (p : Int) = (es ++ [⟨1, ((T.n + 1 : Nat) : Int), (p : Int), 0, 0⟩], ((T.n + 1 : Nat) : Int), 0) := by
    unfold beginR
    have h1 : ¬ ((p : Int) ≠ 0 ∧ openL es (p : Int) = false) := fun h => by
      rcases hp with h0 | h0
      · exact h.1 (by omega)
      · rw [← j.op p h0.2.1, h0.2.2] at h; exact absurd h.2 (by decide)
    rw [if_neg h1, if_neg (by omega), if_neg (by omega), show ((countL es : Int) + 1) = ((T.n + 1 : Nat) : Int) by omega]
  refine ⟨hb, ?_⟩
  have hr : RInv (es ++ [⟨1, ((T.n + 1 : Nat) : Int), (p : Int), 0, 0⟩]) (beginT T (p : Int)) W := by
    rcases q.r.begin_or p with h1 | ⟨_, _, _, h3⟩
    · rw [hb] at h1
      have := congrArg List.length h1
      simp at this
    · exact h3
  exact q.begin_ _ (p : Int) rfl hn hr

theorem Ch1.start : beginR [] ((0 : Nat) : Int) = ([⟨1, ((1 : Nat) : Int), ((0 : Nat) : Int), 0, 0⟩], ((1 : Nat) : Int), 0) ∧ Ch1 [⟨1, ((1 : Nat) : Int), ((0 : Nat) : Int), 0, 0⟩] 0 := by
  obtain ⟨h1, h2⟩ := begin_open QInv.start 0 (Or.inl rfl) (by decide) (by decide)
  refine ⟨h1, ⟨⟨_, _, _, h2, rfl, rfl, fun h => by omega, fun c h3 h4 => by omega, fun c h3 h4 => ?_, fun y _ => ⟨rfl, rfl⟩⟩, rfl⟩⟩
  show upd tr0.op (0 + 1) true c = true ↔ _
  unfold upd
  by_cases e : c = 0 + 1
  · rw [if_pos e]; exact ⟨fun _ => by omega, fun _ => rfl⟩
  · rw [if_neg e]; exact ⟨fun h => (by cases h), fun h => (by omega)⟩

theorem Ch1.next {es : List Ev} {k : Nat} (h : Ch1 es k) (hk : k < 14) : beginR es (upN k : Int) = (es ++ [⟨1, ((k + 2 : Nat) : Int), (upN k : Int), 0, 0⟩], ((k + 2 : Nat) : Int), 0) ∧ Ch1 (es ++ [⟨1, ((k + 2 : Nat) : Int), (upN k : Int), 0, 0⟩]) (k + 1) := by
  obtain ⟨T, W, O, q, hn, h1, h2, h3, hop, hO⟩ := h.q
  have hl := h.len
  have hlive : Live T (upN k) := by
    unfold upN
    by_cases e : k = 0
    · rw [if_pos e]; exact Or.inl rfl
    · rw [if_neg e]; exact Or.inr ⟨by omega, by omega, (hop (k + 1) (by omega) (by omega)).2 (Nat.le_refl _)⟩
  obtain ⟨hb, q'⟩ := begin_open q (upN k) hlive (by omega) (by omega)
  rw [hn] at hb q'
  refine ⟨hb, ⟨⟨_, _, _, q', by show T.n + 1 = _; omega, ?_, fun _ => ?_, fun c h4 h5 => ?_, fun c h4 h5 => ?_, hO⟩, by simp; omega⟩⟩
  · show upd T.par (T.n + 1) (upN k : Int) 1 = _
    unfold upd; rw [if_neg (by omega)]; exact h1
  · show upd T.par (T.n + 1) (upN k : Int) 2 = _
    unfold upd
    by_cases e : 2 = T.n + 1
    · rw [if_pos e]; unfold upN; rw [if_pos (by omega)]
    · rw [if_neg e]; exact h2 (by omega)
  · show upd T.par (T.n + 1) (upN k : Int) c = _
    unfold upd
    by_cases e : c = T.n + 1
    · rw [if_pos e]; unfold upN; rw [if_neg (by omega)]; congr 1; omega
    · rw [if_neg e]; exact h3 c h4 (by omega)
  · show upd T.op (T.n + 1) true c = true ↔ _
    unfold upd
    by_cases e : c = T.n + 1
    · rw [if_pos e]; exact ⟨fun _ => by omega, fun _ => rfl⟩
    · rw [if_neg e, hop c h4 h5]; omega

/-- The innermost holds x as written; t of them are left. -/
structure Ch2 (es : List Ev) (x : Nat) (v : Int) (n t : Nat) : Prop where
  q : ∃ T W O, QInv es T W O ∧ T.n = n + 1 ∧ T.par 1 = ((0 : Nat) : Int) ∧ T.par 2 = ((0 : Nat) : Int) ∧ (∀ c, 3 ≤ c → c ≤ n + 1 → T.par c = ((c - 1 : Nat) : Int)) ∧ (∀ c, 1 ≤ c → c ≤ 15 → (T.op c = true ↔ c ≤ t)) ∧ (O x).wr = (if t = 1 then 0 else bitN t) ∧ ((O x).rd = 0 ∨ (O x).rd = bitN t) ∧ (t = 1 → (O x).rd = 0) ∧ (O x).own (if t = 1 then 0 else t) = v
  len : es.length + 2 * t = 3 * n + 4

theorem pth_low {es : List Ev} {T : Tr} (j : JJ es T) (h1 : T.par 1 = ((0 : Nat) : Int)) (hn : 1 ≤ T.n) : pth T.par 1 = [0, 1] := by
  rw [pth_step (jj_par j) 1 (by omega) hn, h1]
  simp [pth_zero]

theorem access_fine' {es : List Ev} {k t x v : Int} (h1 : openL es t = true) (h2 : x < 4) (h3 : strangerL es t (othersL es k x) = false) (h4 : es.length < 60) : accessR es k t x v = (es ++ [accEv es k t x v], accN es k t x v, 0) := by
  unfold accessR
  rw [if_neg (by rw [h1]; decide), if_neg (by omega), h3, if_neg (by decide), if_neg (by omega)]

theorem Ch1.write {es : List Ev} {n : Nat} (h : Ch1 es n) (hn1 : 1 ≤ n) (hn : n ≤ 14) (x : Nat) (hx : x < 4) (v : Int) : (accessR es 3 ((n + 1 : Nat) : Int) (x : Int) v).2.2 = 0 ∧ Ch2 (accessR es 3 ((n + 1 : Nat) : Int) (x : Int) v).1 x v n (n + 1) := by
  obtain ⟨T, W, O, q, hTn, h1, h2, h3, hop, hO⟩ := h.q
  have hl := h.len
  have j := q.r.s.jj
  have hot : T.op (n + 1) = true := (hop (n + 1) (by omega) (by omega)).2 (Nat.le_refl _)
  have hopen : openL es ((n + 1 : Nat) : Int) = true := by rw [← j.op (n + 1) (by omega)]; exact hot
  have hoth : othersL es 3 (x : Int) = 0 := by
    unfold othersL
    rw [if_neg (by decide), ← q.rd x hx, ← q.wr x hx, (hO x hx).1, (hO x hx).2]
    rfl
  have hacc := access_fine' (v := v) hopen (show (x : Int) < 4 by omega) (k := 3) (by rw [hoth]; exact stranger_zero _ _) (by omega)
  have hr := q.r.access_fine 3 (n + 1) x v (Or.inr (Or.inl rfl)) hacc
  have q2 := q.write (accEv es 3 ((n + 1 : Nat) : Int) (x : Int) v) (n + 1) x hx (Or.inl rfl) rfl hopen (fun c hc hcl hb => by
    rw [← q.wr x hx, (hO x hx).2, Nat.zero_testBit] at hb
    cases hb) hr
  rw [hacc]
  refine ⟨rfl, ⟨⟨T, _, _, q2, hTn, h1, h2 (by omega), h3, hop, ?_, ?_, fun e => by omega, ?_⟩, by simp; omega⟩⟩
  · unfold upd; rw [if_pos rfl, if_neg (by omega)]; simp only; rw [(hO x hx).2, Nat.zero_or]
  · unfold upd; rw [if_pos rfl]; exact Or.inl (hO x hx).1
  · unfold upd
    rw [if_pos rfl, if_neg (by omega)]
    simp [becL, accEv]

theorem valD_bit (own : Nat → Int) (t : Nat) (h1 : 1 ≤ t) (h15 : t ≤ 15) : ∀ n, t ≤ n → valD (bitN t) own n = own t
  | 0, h => by omega
  | n + 1, h => by
    rw [valD]
    by_cases e : n + 1 = t
    · rw [if_pos (by rw [bitN_bit]; omega), e]
    · rw [if_neg (by rw [bitN_bit]; omega)]
      exact valD_bit own t h1 h15 n (by omega)

theorem hand_is (t p : Nat) (h1 : 1 ≤ t) (h15 : t ≤ 15) (hp : p ≠ t) (hp15 : p ≤ 15) : (if (bitN t).testBit t then bitN t ||| bitN p else bitN t) &&& (65535 - bitN t) = bitN p := by
  apply Nat.eq_of_testBit_eq
  intro c
  rw [Bool.eq_iff_iff, hand_bit _ _ _ _ (by omega) h15, bitN_bit, bitN_bit, bitN_bit]
  omega

theorem stranger_self {es : List Ev} {T : Tr} (j : JJ es T) (t : Nat) (ht : t ≤ T.n) : strangerL es (t : Int) (bitN t) = false := by
  unfold strangerL
  rw [List.any_eq_false]
  intro i hi
  rw [List.mem_range] at hi
  by_cases e : i + 1 = t
  · rw [e, within_pth j t t ht, decide_eq_true (pth_self (jj_par j) t ht)]
    simp
  · have : (bitN t).testBit (i + 1) = false := by rw [← Bool.not_eq_true, bitN_bit]; omega
    rw [this]
    simp

/-- One beside them waits; each of them reads, and hands up. -/
theorem Ch2.round {es : List Ev} {x : Nat} {v : Int} {n t : Nat} (h : Ch2 es x v n t) (hn : n ≤ 14) (hx : x < 4) (ht2 : 2 ≤ t) (htn : t ≤ n + 1) :
    accessR es 2 ((1 : Nat) : Int) (x : Int) 0 = (es, 0, 9) ∧ (accessR es 2 (t : Int) (x : Int) 0).2 = (v, 0) ∧ (endR (accessR es 2 (t : Int) (x : Int) 0).1 5 (t : Int)).2 = 0 ∧ Ch2 (endR (accessR es 2 (t : Int) (x : Int) 0).1 5 (t : Int)).1 x v n (t - 1) := by
  obtain ⟨T, W, O, q, hTn, h1, h2, h3, hop, hwr, hrd, _, hown⟩ := h.q
  have hl := h.len
  rw [if_neg (by omega)] at hwr hown
  have j := q.r.s.jj
  have ho1 : openL es ((1 : Nat) : Int) = true := by rw [← j.op 1 (by omega)]; exact (hop 1 (by omega) (by omega)).2 (by omega)
  have hot : openL es (t : Int) = true := by rw [← j.op t (by omega)]; exact (hop t (by omega) (by omega)).2 (Nat.le_refl _)
  have hoth : othersL es 2 (x : Int) = bitN t := by unfold othersL; rw [if_pos rfl, ← q.wr x hx, hwr]
  have ha : accessR es 2 ((1 : Nat) : Int) (x : Int) 0 = (es, 0, 9) := by
    unfold accessR
    have hst : strangerL es ((1 : Nat) : Int) (bitN t) = true := by
      unfold strangerL
      rw [List.any_eq_true]
      refine ⟨t - 1, by rw [List.mem_range]; omega, ?_⟩
      rw [show t - 1 + 1 = t by omega, (bitN_bit t t).2 ⟨rfl, by omega, by omega⟩, within_pth j t 1 (by omega), pth_low j h1 (by omega)]
      simp
      omega
    rw [if_neg (by rw [ho1]; decide), if_neg (by omega), hoth, hst, if_pos rfl]
  have hlive := (live_of_open j hot).1
  have his : isL es (t : Int) (x : Int) = v := by
    rw [← value_is q t x hx hlive, hwr]
    have : bitN t &&& lineN T t = bitN t := by
      apply Nat.eq_of_testBit_eq
      intro c
      rw [Nat.testBit_and, Bool.eq_iff_iff, Bool.and_eq_true, bitN_bit, line_bit j t (by omega)]
      constructor
      · exact fun h => h.1
      · rintro ⟨rfl, h5, h6⟩
        exact ⟨⟨rfl, h5, h6⟩, h5, pth_self (jj_par j) c (by omega)⟩
    rw [this, valD_bit _ t (by omega) (by omega) 15 (by omega)]
    exact hown
  have hacc := access_fine' (v := 0) hot (show (x : Int) < 4 by omega) (k := 2) (by rw [hoth]; exact stranger_self j t (by omega)) (by omega)
  have hr := q.r.access_fine 2 t x 0 (Or.inl rfl) hacc
  have q1 := q.read (accEv es 2 (t : Int) (x : Int) 0) t x hx rfl rfl hot hr
  have hN : accN es 2 (t : Int) (x : Int) 0 = v := by unfold accN; rw [if_pos rfl]; exact his
  rw [hacc]
  refine ⟨ha, by simp only; rw [hN], ?_⟩
  simp only
  have j1 := q1.r.s.jj
  have hot1 : openL (es ++ [accEv es 2 (t : Int) (x : Int) 0]) (t : Int) = true := by rw [← j1.op t (by omega)]; exact (hop t (by omega) (by omega)).2 (Nat.le_refl _)
  have hch : childL (es ++ [accEv es 2 (t : Int) (x : Int) 0]) (t : Int) = false := by
    rw [← child_eq j1]
    unfold childT
    rw [List.any_eq_false]
    intro c hc
    rw [List.mem_range] at hc
    by_cases e : c + 1 ≤ t
    · have hpc : T.par (c + 1) ≠ (t : Int) := by
        by_cases e1 : c + 1 = 1
        · rw [e1, h1]; omega
        · by_cases e2 : c + 1 = 2
          · rw [e2, h2]; omega
          · rw [h3 (c + 1) (by omega) (by omega)]; omega
      simp [hpc]
    · have : T.op (c + 1) = false := by rw [← Bool.not_eq_true, hop (c + 1) (by omega) (by omega)]; exact e
      rw [this]
      simp
  have h5 : endR (es ++ [accEv es 2 (t : Int) (x : Int) 0]) 5 (t : Int) = ((es ++ [accEv es 2 (t : Int) (x : Int) 0]) ++ [⟨5, (t : Int), 0, 0, 0⟩], 0) := by
    unfold endR
    rw [if_neg (by rw [hot1]; decide), if_neg (by rw [hch]; simp), if_neg (by simp; omega)]
  rw [h5]
  refine ⟨rfl, ?_⟩
  simp only
  obtain ⟨p, hp, hr2⟩ : ∃ p : Nat, T.par t = (p : Int) ∧ RInv ((es ++ [accEv es 2 (t : Int) (x : Int) 0]) ++ [⟨5, (t : Int), ((0 : Nat) : Int), 0, 0⟩]) (commitT T t) (upd (upd W t (W t ++ [es.length])) p (upd W t (W t ++ [es.length]) p ++ upd W t (W t ++ [es.length]) t)) := by
    rcases q1.r.end_or 5 t (Or.inl rfl) with h6 | ⟨_, _, h6, _⟩
    · rw [h5] at h6
      have := congrArg List.length h6
      simp at this
    · exact (h6 rfl).2
  have hpp : p = if t = 2 then 0 else t - 1 := by
    by_cases e : t = 2
    · rw [if_pos e]; rw [e, h2] at hp; omega
    · rw [if_neg e]; rw [h3 t (by omega) htn] at hp; omega
  have q2 := q1.commit ⟨5, (t : Int), 0, 0, 0⟩ t p rfl hot1 hch hp hr2
  have hO1 : (upd O x ⟨(O x).rd ||| bitN t, (O x).wr, (O x).own⟩) x = ⟨bitN t, bitN t, (O x).own⟩ := by
    unfold upd
    rw [if_pos rfl, hwr]
    rcases hrd with h7 | h7
    · rw [h7, Nat.zero_or]
    · rw [h7, Nat.or_self]
  have hpne : p ≠ t := by rw [hpp]; split <;> omega
  have hp15 : p ≤ 15 := by rw [hpp]; split <;> omega
  have hb0 : bitN 0 = 0 := by unfold bitN; rw [if_pos (Or.inl rfl)]
  have hO2 : handO ((upd O x ⟨(O x).rd ||| bitN t, (O x).wr, (O x).own⟩) x) t p = ⟨bitN p, bitN p, upd (O x).own p ((O x).own t)⟩ := by
    rw [hO1]
    unfold handO
    simp only
    rw [hand_is t p (by omega) (by omega) hpne hp15, if_pos ((bitN_bit t t).2 ⟨rfl, by omega, by omega⟩)]
  refine ⟨⟨_, _, _, q2, hTn, h1, h2, h3, fun c h6 h7 => ?_, ?_, ?_, fun e => ?_, ?_⟩, by simp; omega⟩
  · show upd T.op t false c = true ↔ _
    unfold upd
    by_cases e : c = t
    · rw [if_pos e]; exact ⟨fun h => (by cases h), fun h => (by omega)⟩
    · rw [if_neg e, hop c h6 h7]; omega
  · rw [hO2]
    simp only
    by_cases e : t = 2
    · rw [hpp, if_pos e, if_pos (by omega), hb0]
    · rw [hpp, if_neg e, if_neg (by omega)]
  · rw [hO2]
    simp only
    by_cases e : t = 2
    · left; rw [hpp, if_pos e, hb0]
    · right; rw [hpp, if_neg e]
  · rw [hO2]
    simp only
    rw [hpp, if_pos (by omega), hb0]
  · rw [hO2]
    simp only
    have : (if t - 1 = 1 then 0 else t - 1) = p := by
      rw [hpp]
      by_cases e : t = 2
      · rw [if_pos e, if_pos (by omega)]
      · rw [if_neg e, if_neg (by omega)]
    rw [this]
    unfold upd
    rw [if_pos rfl]
    exact hown

/-- All have ended but the one beside them. -/
theorem Ch2.last {es : List Ev} {x : Nat} {v : Int} {n : Nat} (h : Ch2 es x v n 1) (hn : n ≤ 14) (hx : x < 4) :
    (accessR es 2 ((1 : Nat) : Int) (x : Int) 0).2 = (v, 0) ∧ isL (accessR es 2 ((1 : Nat) : Int) (x : Int) 0).1 0 (x : Int) = v := by
  obtain ⟨T, W, O, q, hTn, h1, h2, h3, hop, hwr, hrd, hrd1, hown⟩ := h.q
  have hl := h.len
  rw [if_pos rfl] at hwr hown
  have hrd0 := hrd1 rfl
  have j := q.r.s.jj
  have ho1 : openL es ((1 : Nat) : Int) = true := by rw [← j.op 1 (by omega)]; exact (hop 1 (by omega) (by omega)).2 (by omega)
  have hoth : othersL es 2 (x : Int) = 0 := by unfold othersL; rw [if_pos rfl, ← q.wr x hx, hwr]
  have his : isL es ((1 : Nat) : Int) (x : Int) = v := by
    rw [← value_is q 1 x hx (live_of_open j ho1).1, hwr, Nat.zero_and, valD_zero]
    exact hown
  have hacc := access_fine' (v := 0) ho1 (show (x : Int) < 4 by omega) (k := 2) (by rw [hoth]; exact stranger_zero _ _) (by omega)
  have hr := q.r.access_fine 2 1 x 0 (Or.inl rfl) hacc
  have q1 := q.read (accEv es 2 ((1 : Nat) : Int) (x : Int) 0) 1 x hx rfl rfl ho1 hr
  have hN : accN es 2 ((1 : Nat) : Int) (x : Int) 0 = v := by unfold accN; rw [if_pos rfl]; exact his
  rw [hacc]
  refine ⟨by simp only; rw [hN], ?_⟩
  simp only
  have := q1.own x hx 0 (Or.inl rfl)
  have e3 : isL (es ++ [accEv es 2 ((1 : Nat) : Int) (x : Int) 0]) 0 (x : Int) = (upd O x ⟨(O x).rd ||| bitN 1, (O x).wr, (O x).own⟩ x).own 0 := this.symm
  rw [e3]
  unfold upd
  rw [if_pos rfl]
  exact hown

end Go.Proofs.Ytfdalbmopaemgab
