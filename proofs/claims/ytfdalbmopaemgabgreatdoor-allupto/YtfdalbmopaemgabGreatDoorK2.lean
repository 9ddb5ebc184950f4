import Derived.Test.YtfdalbmopaemgabGreatDoorK1
namespace Go.Proofs.YtfdalbmopaemgabGreatDoor
open Go.RowKit

/-! ### What each event does -/
def beginT (T : Tr) (a : Int) : Tr := ⟨T.n + 1, upd T.par (T.n + 1) a, upd T.op (T.n + 1) true⟩
def commitT (T : Tr) (t : Nat) : Tr := ⟨T.n, T.par, upd T.op t false⟩

def mayO (o : Nat → Bool) (p : Int) : Bool := p == 0 || (decide (p ≤ 15) && o p.toNat)

def abG (par : Nat → Int) : Nat → (Nat → Bool) → (Nat → Bool)
  | 0, o => o
  | i + 1, o => if abG par i o (i + 1) && !mayO (abG par i o) (par (i + 1)) then upd (abG par i o) (i + 1) false else abG par i o

def abortT (T : Tr) (t : Nat) : Tr := ⟨T.n, T.par, abG T.par 15 (upd T.op t false)⟩

theorem isX_k {h : List Ev} {c : Int} {e : Ev} (hk : e.k ≠ 6) : isX h c e = false := by unfold isX; simp [hk]
theorem isC_k {c : Int} {e : Ev} (hk : e.k ≠ 5) : isC c e = false := by unfold isC; simp [hk]

/-- Read, Write, Add. -/
theorem JJ.plain {h : List Ev} {T : Tr} (j : JJ h T) (e : Ev) (h1 : e.k ≠ 1) (h5 : e.k ≠ 5) (h6 : e.k ≠ 6) : JJ (h ++ [e]) T :=
  j.quiet e T.op h1 (fun c hc => by rw [isC_k h5] at hc; cases hc) (fun c hc => by rw [j.op c hc, isC_k h5, isX_k h6]; simp) (fun c _ _ _ _ => ⟨isC_k h5, isX_k h6⟩)

theorem child_false {h : List Ev} {T : Tr} (j : JJ h T) {t c : Int} (hch : childL h t = false) (ho : openL h c = true) : parentL h c ≠ t := by
  intro e
  have hr := j.open_range ho
  have hn := j.n15
  unfold childL at hch
  rw [List.any_eq_false] at hch
  obtain ⟨i, rfl⟩ : ∃ i : Nat, c = ((i + 1 : Nat) : Int) := ⟨(c - 1).toNat, by omega⟩
  refine hch i (by simp; omega) ?_
  rw [ho, e]
  simp

theorem JJ.commit {h : List Ev} {T : Tr} (j : JJ h T) (e : Ev) (t : Nat) (hk : e.k = 5) (ht : e.t = (t : Int)) (ho : openL h (t : Int) = true) (hch : childL h (t : Int) = false) : JJ (h ++ [e]) (commitT T t) := by
  have hr := j.open_range ho
  have hC : ∀ c, isC c e = decide ((t : Int) = c) := fun c => by unfold isC; rw [hk, ht]; simp [BEq.beq]
  refine j.quiet e _ (by omega) (fun c hc => ?_) (fun c hc => ?_) (fun c h1 h2 h3 h4 => ⟨?_, isX_k (by omega)⟩)
  · rw [hC] at hc
    have := of_decide_eq_true hc
    omega
  · rw [isX_k (by omega), hC]
    unfold upd
    by_cases e' : c = t
    · rw [if_pos e', e']; simp
    · rw [if_neg e', j.op c hc, decide_eq_false (by omega)]; simp
  · rw [hC]
    have := child_false j hch h1
    exact decide_eq_false (fun e => this e.symm)

theorem ab_main {h : List Ev} {T : Tr} (j : JJ h T) (t : Nat) (ho : openL h (t : Int) = true) : ∀ m, m ≤ 15 → ∀ c, c ≤ 15 → abG T.par m (upd T.op t false) c = if c ≤ m then (openL h (c : Int) && !withinG h (t : Int) 16 (c : Int)) else upd T.op t false c
  | 0, _, c, hc => by
    by_cases h0 : c ≤ 0
    · rw [if_pos h0]
      have hc0 : c = 0 := by omega
      subst hc0
      have hop := j.op 0 (by omega)
      have hz : openL h ((0 : Nat) : Int) = false := open_none (j.none_ _ (by omega))
      rw [hz] at hop ⊢
      show upd T.op t false 0 = _
      unfold upd
      rw [hop]
      simp
    · rw [if_neg h0]; rfl
  | m + 1, hm, c, hc => by
    have ih := fun c hc => ab_main j t ho m (by omega) c hc
    have hr := j.open_range ho
    have hself : abG T.par m (upd T.op t false) (m + 1) = upd T.op t false (m + 1) := by rw [ih (m + 1) hm, if_neg (by omega)]
    have hnew : abG T.par (m + 1) (upd T.op t false) (m + 1) = (openL h ((m + 1 : Nat) : Int) && !withinG h (t : Int) 16 ((m + 1 : Nat) : Int)) := by
      rw [abG, hself]
      by_cases e : m + 1 = t
      · have h1 : upd T.op t false (m + 1) = false := by unfold upd; rw [if_pos e]
        rw [h1, Bool.false_and, if_neg (by simp), hself, h1]
        have : withinG h (t : Int) 16 ((m + 1 : Nat) : Int) = true := by rw [withinG, if_pos (by omega)]
        rw [this]
        simp
      · have h1 : upd T.op t false (m + 1) = openL h ((m + 1 : Nat) : Int) := by unfold upd; rw [if_neg e, j.op _ hm]
        rw [h1]
        cases hop : openL h ((m + 1 : Nat) : Int) with
        | false =>
          rw [Bool.false_and, if_neg (by simp), hself, h1, hop]
          simp
        | true =>
          have hor := j.open_range hop
          have hl := j.low (m + 1) (by omega) (by omega)
          have hst := within_step j (t : Int) (m + 1) (by omega) (by omega)
          rw [if_neg (by omega)] at hst
          rw [Bool.true_and, j.par (m + 1) hm, Bool.true_and, hst]
          obtain ⟨p, hp⟩ : ∃ p : Nat, parentL h ((m + 1 : Nat) : Int) = (p : Int) := ⟨(parentL h ((m + 1 : Nat) : Int)).toNat, by omega⟩
          rw [hp] at hl ⊢
          by_cases hp0 : p = 0
          · subst hp0
            have hz : withinG h (t : Int) 16 ((0 : Nat) : Int) = false := by
              have := within_zero h (t : Int) 16
              rw [show (((0 : Nat) : Int)) = 0 from rfl, this]
              simp
              omega
            rw [hz]
            have hmy : mayO (abG T.par m (upd T.op t false)) ((0 : Nat) : Int) = true := by simp [mayO]
            rw [hmy, if_neg (by simp), hself, h1, hop]
            rfl
          · have hup : openL h (p : Int) = true := by
              rcases j.up _ hop with h2 | h2
              · rw [hp] at h2; omega
              · rw [hp] at h2; exact h2
            have hmy : mayO (abG T.par m (upd T.op t false)) (p : Int) = !withinG h (t : Int) 16 (p : Int) := by
              unfold mayO
              rw [decide_eq_true (by omega), Bool.true_and, Int.toNat_natCast, ih p (by omega), if_pos (by omega), hup, Bool.true_and]
              have : ((p : Int) == 0) = false := by simp; omega
              rw [this, Bool.false_or]
            rw [hmy]
            cases hw : withinG h (t : Int) 16 (p : Int) with
            | false => simp only [Bool.not_false, Bool.not_true]; rw [if_neg (by simp), hself, h1, hop]
            | true => simp [upd]
    by_cases e : c = m + 1
    · subst e
      rw [hnew, if_pos (Nat.le_refl _)]
    · have hsame : abG T.par (m + 1) (upd T.op t false) c = abG T.par m (upd T.op t false) c := by
        rw [abG]
        split
        · unfold upd; rw [if_neg e]
        · rfl
      rw [hsame, ih c hc]
      by_cases hcm : c ≤ m
      · rw [if_pos hcm, if_pos (by omega)]
      · rw [if_neg hcm, if_neg (by omega)]

theorem JJ.abort {h : List Ev} {T : Tr} (j : JJ h T) (e : Ev) (t : Nat) (hk : e.k = 6) (ht : e.t = (t : Int)) (ho : openL h (t : Int) = true) : JJ (h ++ [e]) (abortT T t) := by
  have hr := j.open_range ho
  have hX : ∀ c, isX h c e = withinG h (t : Int) 16 c := fun c => by
    unfold isX
    rw [hk, ht]
    have : ((t : Int) != 0) = true := by simp; omega
    rw [this]
    simp
  refine j.quiet e _ (by omega) (fun c hc => by rw [isC_k (by omega)] at hc; cases hc) (fun c hc => ?_) (fun c h1 h2 h3 h4 => ⟨isC_k (by omega), ?_⟩)
  · rw [isC_k (by omega), hX, ab_main j t ho 15 (by omega) c hc, if_pos hc]
    simp
  · have hor := j.open_range h1
    obtain ⟨c', rfl⟩ : ∃ c' : Nat, c = (c' : Int) := ⟨c.toNat, by omega⟩
    rw [hX] at h3 ⊢
    have hst := within_step j (t : Int) c' (by omega) (by omega)
    rw [h3] at hst
    by_cases e' : (c' : Int) = (t : Int)
    · rw [if_pos e'] at hst; cases hst
    · rw [if_neg e'] at hst; exact hst.symm

theorem JJ.begin {h : List Ev} {T : Tr} (j : JJ h T) (e : Ev) (hk : e.k = 1) (h15 : T.n < 15) (ht : e.t = (T.n : Int) + 1) (ha0 : 0 ≤ e.a) (ha : e.a = 0 ∨ openL h e.a = true) : JJ (h ++ [e]) (beginT T e.a) := by
  have hB : ∀ t, isB t e = decide ((T.n : Int) + 1 = t) := fun t => by unfold isB; rw [hk, ht]; simp [BEq.beq]
  have hnew : begunN ((T.n : Int) + 1) h = none := j.none_ _ (by omega)
  have hp : ∀ c, c ≠ (T.n : Int) + 1 → parentL (h ++ [e]) c = parentL h c := fun c hc => parentL_snoc_old e (Or.inr (by rw [hB]; exact decide_eq_false (fun e => hc e.symm)))
  have hpn : parentL (h ++ [e]) ((T.n : Int) + 1) = e.a := parentL_snoc_new e hnew (by rw [hB]; simp)
  have han : e.a ≤ (T.n : Int) := by
    rcases ha with h0 | h0
    · omega
    · exact (j.open_range h0).2
  have hw : ∀ a f c, 0 ≤ c → c ≤ (T.n : Int) → withinG (h ++ [e]) a f c = withinG h a f c := fun a f c h0 h1 =>
    within_same a (fun c => 0 ≤ c ∧ c ≤ (T.n : Int)) (fun c hc hz => by
      refine ⟨hp c (by omega), ?_⟩
      obtain ⟨c', rfl⟩ : ∃ c' : Nat, c = (c' : Int) := ⟨c.toNat, by omega⟩
      have := j.low c' (by omega) (by omega)
      omega) f c ⟨h0, h1⟩
  have hop : ∀ c, c ≠ (T.n : Int) + 1 → openL (h ++ [e]) c = openL h c := fun c hc => by
    cases hb : begunN c h with
    | none => rw [open_none hb, open_none (begunN_snoc_none e hb (by rw [hB]; exact decide_eq_false (fun e => hc e.symm)))]
    | some b =>
      have hrange : 1 ≤ c ∧ c ≤ (T.n : Int) := by
        by_cases hx : c < 1 ∨ (T.n : Int) < c
        · rw [j.none_ c hx] at hb; cases hb
        · omega
      rw [open_snoc e hb fun a => hw a 16 c (by omega) (by omega), isC_k (by omega), isX_k (by omega)]
      simp
  have hopn : openL (h ++ [e]) ((T.n : Int) + 1) = true := by
    unfold openL
    rw [begunN_snoc_new e hnew (by rw [hB]; simp)]
    simp only
    rw [List.any_append, List.drop_left]
    have hnc : h.any (isC ((T.n : Int) + 1)) = false := by
      cases hq : h.any (isC ((T.n : Int) + 1)) with
      | false => rfl
      | true => have := j.com _ hq; omega
    rw [hnc]
    simp only [List.any_cons, List.any_nil, isC_k (show e.k ≠ 5 by omega), isX_k (show e.k ≠ 6 by omega)]
    rfl
  have hcast : ((T.n + 1 : Nat) : Int) = (T.n : Int) + 1 := by omega
  refine ⟨?_, by show T.n + 1 ≤ 15; omega, ?_, ?_, ?_, ?_, ?_, ?_, ?_⟩
  · show T.n + 1 = _
    rw [countL_snoc, j.n, hk]
    rfl
  · intro c h1 h2 h3
    have h2' : c ≤ T.n + 1 := h2
    by_cases hc : c = T.n + 1
    · subst hc
      rw [hcast, begunN_snoc_new e hnew (by rw [hB]; simp)] at h3
      cases h3
    · cases hb : begunN (c : Int) h with
      | none => exact j.got c h1 (by omega) hb
      | some b => rw [begunN_snoc_some e hb] at h3; cases h3
  · intro c hc
    have hc' : c < 1 ∨ (T.n : Int) + 1 < c := by
      have : ((beginT T e.a).n : Int) = (T.n : Int) + 1 := hcast
      rw [this] at hc
      exact hc
    exact begunN_snoc_none e (j.none_ c (by omega)) (by rw [hB]; exact decide_eq_false (by omega))
  · intro c hc
    show upd T.par (T.n + 1) e.a c = _
    unfold upd
    by_cases hcn : c = T.n + 1
    · rw [if_pos hcn, hcn, hcast, hpn]
    · rw [if_neg hcn, hp _ (by omega)]
      exact j.par c hc
  · intro c h1 h2
    have h2' : c ≤ T.n + 1 := h2
    by_cases hcn : c = T.n + 1
    · rw [hcn, hcast, hpn]
      omega
    · rw [hp _ (by omega)]
      exact j.low c h1 (by omega)
  · intro c hc
    show upd T.op (T.n + 1) true c = _
    unfold upd
    by_cases hcn : c = T.n + 1
    · rw [if_pos hcn, hcn, hcast, hopn]
    · rw [if_neg hcn, hop _ (by omega)]
      exact j.op c hc
  · intro c hc
    have : ((beginT T e.a).n : Int) = (T.n : Int) + 1 := hcast
    rw [this]
    rw [List.any_append] at hc
    cases hq : h.any (isC c) with
    | true => have := j.com c hq; omega
    | false =>
      rw [hq] at hc
      simp [isC_k (show e.k ≠ 5 by omega)] at hc
  · intro c hc
    by_cases hcn : c = (T.n : Int) + 1
    · rw [hcn, hpn]
      rcases ha with h0 | h0
      · exact Or.inl h0
      · exact Or.inr (by rw [hop _ (by have := (j.open_range h0).2; omega)]; exact h0)
    · rw [hop c hcn] at hc
      rw [hp c hcn]
      rcases j.up c hc with h0 | h0
      · exact Or.inl h0
      · exact Or.inr (by rw [hop _ (by have := (j.open_range h0).2; omega)]; exact h0)

end Go.Proofs.YtfdalbmopaemgabGreatDoor
