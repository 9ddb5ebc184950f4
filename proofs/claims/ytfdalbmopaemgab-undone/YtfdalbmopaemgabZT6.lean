import Derived.Test.YtfdalbmopaemgabZT5
namespace Go.Proofs.Ytfdalbmopaemgab
open Go.RowKit

/-! ### The bits say who holds -/
theorem bitK_iff {es : List Ev} (hlow : Low15 es) (x : Int) (c : Nat) (hc : c ≠ 0) : ∀ k, k ≤ es.length →
    ((holdK es x k).1.testBit c = true ↔ ∃ (q : Nat) (e : Ev), q < k ∧ es[q]? = some e ∧ onObj e.k = true ∧ e.k = 2 ∧ e.a = x ∧ (holderG es 16 e.t).1 = (c : Int)) ∧
    ((holdK es x k).2.testBit c = true ↔ ∃ (q : Nat) (e : Ev), q < k ∧ es[q]? = some e ∧ onObj e.k = true ∧ e.k ≠ 2 ∧ e.a = x ∧ (holderG es 16 e.t).1 = (c : Int))
  | 0, _ => by
    unfold holdK
    simp
  | k + 1, hk => by
    have hc' : (c : Int) ≠ 0 := by omega
    obtain ⟨i1, i2⟩ := bitK_iff hlow x c hc k (by omega)
    have he := List.getElem?_eq_getElem (show k < es.length by omega)
    rw [holdK_succ es x k (by omega)]
    generalize es[k] = e at he
    generalize holdK es x k = p at i1 i2
    have hl := holder_low hlow 16 e.t
    have old : ∀ (P : Ev → Prop), (∃ (q : Nat) (e' : Ev), q < k + 1 ∧ es[q]? = some e' ∧ P e') ↔ ((∃ (q : Nat) (e' : Ev), q < k ∧ es[q]? = some e' ∧ P e') ∨ P e) := fun P => by
      constructor
      · rintro ⟨q, e', h1, h2, h3⟩
        by_cases hq : q < k
        · exact Or.inl ⟨q, e', hq, h2, h3⟩
        · have : q = k := by omega
          subst this
          rw [he] at h2
          cases h2
          exact Or.inr h3
      · rintro (⟨q, e', h1, h2, h3⟩ | h)
        · exact ⟨q, e', by omega, h2, h3⟩
        · exact ⟨k, e, by omega, he, h⟩
    rw [old (fun e' => onObj e'.k = true ∧ e'.k = 2 ∧ e'.a = x ∧ (holderG es 16 e'.t).1 = (c : Int)), old (fun e' => onObj e'.k = true ∧ e'.k ≠ 2 ∧ e'.a = x ∧ (holderG es 16 e'.t).1 = (c : Int)), ← i1, ← i2]
    unfold hstep
    by_cases h : onObj e.k = true ∧ e.a = x ∧ (holderG es 16 e.t).1 ≠ 0
    · rw [if_pos h]
      have hb : (2 ^ (holderG es 16 e.t).1.toNat : Nat).testBit c = true ↔ (holderG es 16 e.t).1 = (c : Int) := by
        rw [Nat.testBit_two_pow]
        simp
        omega
      by_cases h2 : e.k = 2
      · rw [if_pos h2]
        simp only [Nat.testBit_or, Bool.or_eq_true, hb]
        exact ⟨⟨fun q => q.imp id (fun q => ⟨h.1, h2, h.2.1, q⟩), fun q => q.imp id (fun q => q.2.2.2)⟩, ⟨Or.inl, fun q => q.elim id (fun q => absurd h2 q.2.1)⟩⟩
      · rw [if_neg h2]
        simp only [Nat.testBit_or, Bool.or_eq_true, hb]
        exact ⟨⟨Or.inl, fun q => q.elim id (fun q => absurd q.2.1 h2)⟩, ⟨fun q => q.imp id (fun q => ⟨h.1, h2, h.2.1, q⟩), fun q => q.imp id (fun q => q.2.2.2)⟩⟩
    · rw [if_neg h]
      exact ⟨⟨Or.inl, fun q => q.elim id (fun q => absurd ⟨q.1, q.2.2.1, by rw [q.2.2.2]; exact hc'⟩ h)⟩, ⟨Or.inl, fun q => q.elim id (fun q => absurd ⟨q.1, q.2.2.1, by rw [q.2.2.2]; exact hc'⟩ h)⟩⟩

theorem bit0 {es : List Ev} (hlow : Low15 es) (x : Int) : ∀ k, k ≤ es.length → (holdK es x k).1.testBit 0 = false ∧ (holdK es x k).2.testBit 0 = false
  | 0, _ => by unfold holdK; simp
  | k + 1, hk => by
    obtain ⟨i1, i2⟩ := bit0 hlow x k (by omega)
    rw [holdK_succ es x k (by omega)]
    generalize es[k] = e
    have hl := holder_low hlow 16 e.t
    unfold hstep
    split
    · rename_i h
      have hb : (2 ^ (holderG es 16 e.t).1.toNat : Nat).testBit 0 = false := by
        rw [Nat.testBit_two_pow]
        simp
        omega
      split
      · exact ⟨by rw [Nat.testBit_or, i1, hb]; rfl, i2⟩
      · exact ⟨i1, by rw [Nat.testBit_or, i2, hb]; rfl⟩
    · exact ⟨i1, i2⟩

theorem holdersL_K (es : List Ev) (x : Int) : holdersL es x = holdK es x es.length := by unfold holdersL holdK; rw [List.take_length]

/-- Whoever holds an object has an event of it. -/
theorem held_iff {es : List Ev} {T : Tr} {W : Nat → List Nat} (r : RInv es T W) (x : Int) (c : Nat) (hc : c ≠ 0) :
    ((holdersL es x).1.testBit c = true ↔ Live T c ∧ ∃ q ∈ W c, ∃ e : Ev, es[q]? = some e ∧ e.k = 2 ∧ e.a = x) ∧ ((holdersL es x).2.testBit c = true ↔ Live T c ∧ ∃ q ∈ W c, ∃ e : Ev, es[q]? = some e ∧ e.k ≠ 2 ∧ e.a = x) := by
  have j := r.s.jj
  have hc' : (c : Int) ≠ 0 := by omega
  obtain ⟨b1, b2⟩ := bitK_iff (low15 j) x c hc es.length (Nat.le_refl _)
  rw [holdersL_K, b1, b2]
  have key : ∀ (q : Nat) (e : Ev), es[q]? = some e → onObj e.k = true → ((holderG es 16 e.t).1 = (c : Int) ↔ Live T c ∧ q ∈ W c) := fun q e he hob => by
    obtain ⟨t, ht, h1, h2⟩ := r.h.rg q e he hob
    rw [ht]
    show (hold es t).1 = _ ↔ _
    rcases hold_live j t h2 with ⟨a, ha, hla⟩ | ha
    · constructor
      · intro h
        rw [ha] at h
        have : a = c := Int.ofNat_inj.1 h
        subst this
        exact ⟨hla, (r.h.hw q e he hob t ht a hla).2 ha⟩
      · rintro ⟨hl, hq⟩
        rw [(r.h.hw q e he hob t ht c hl).1 hq]
    · constructor
      · intro h
        rw [ha] at h
        exact absurd h.symm hc'
      · rintro ⟨hl, hq⟩
        rw [(r.h.hw q e he hob t ht c hl).1 hq]
  constructor
  · constructor
    · rintro ⟨q, e, h1, h2, h3, h4, h5, h6⟩
      obtain ⟨k1, k2⟩ := (key q e h2 h3).1 h6
      exact ⟨k1, q, k2, e, h2, h4, h5⟩
    · rintro ⟨hl, q, hq, e, h2, h4, h5⟩
      obtain ⟨h1, e', h2', h3, _⟩ := r.s.gi.pl c q hq
      rw [h2] at h2'
      cases h2'
      exact ⟨q, e, h1, h2, h3, h4, h5, (key q e h2 h3).2 ⟨hl, hq⟩⟩
  · constructor
    · rintro ⟨q, e, h1, h2, h3, h4, h5, h6⟩
      obtain ⟨k1, k2⟩ := (key q e h2 h3).1 h6
      exact ⟨k1, q, k2, e, h2, h4, h5⟩
    · rintro ⟨hl, q, hq, e, h2, h4, h5⟩
      obtain ⟨h1, e', h2', h3, _⟩ := r.s.gi.pl c q hq
      rw [h2] at h2'
      cases h2'
      exact ⟨q, e, h1, h2, h3, h4, h5, (key q e h2 h3).2 ⟨hl, hq⟩⟩

/-- Apart, of events alone. -/
theorem RInv.apart {es : List Ev} {T : Tr} {W : Nat → List Nat} (r : RInv es T W) (x : Nat) (u t : Nat) (hu : u ≠ 0) (ht : t ≠ 0) (hwu : (holdersL es (x : Int)).2.testBit u = true) (hht : (holdersL es (x : Int)).1.testBit t = true ∨ (holdersL es (x : Int)).2.testBit t = true) :
    Live T u ∧ Live T t ∧ (u ∈ pth T.par t ∨ t ∈ pth T.par u) := by
  obtain ⟨hlu, q, hq, e, he, hk, hx⟩ := (held_iff r (x : Int) u hu).2.1 hwu
  have : Live T t ∧ ∃ q' ∈ W t, ∃ e' : Ev, es[q']? = some e' ∧ e'.a = (x : Int) := by
    rcases hht with h | h
    · obtain ⟨h1, q', h2, e', h3, _, h5⟩ := (held_iff r (x : Int) t ht).1.1 h
      exact ⟨h1, q', h2, e', h3, h5⟩
    · obtain ⟨h1, q', h2, e', h3, _, h5⟩ := (held_iff r (x : Int) t ht).2.1 h
      exact ⟨h1, q', h2, e', h3, h5⟩
  obtain ⟨hlt, q', hq', e', he', hx'⟩ := this
  exact ⟨hlu, hlt, r.s.ap u t hu ht hlu hlt q hq q' hq' x ⟨e, he, by omega, hk⟩ ⟨e', he', by omega⟩⟩

/-! ### Where the same lies in the same, the same is held, and objects are the same -/
theorem lastW_more {es : List Ev} {L : List Nat} {x : Nat} (rest : List Ev) (h : ∀ p ∈ L, p < es.length) : ∀ m, lastW (es ++ rest) L x (es.length + m) = lastW es L x es.length
  | 0 => lastW_ext rest es.length (Nat.le_refl _)
  | m + 1 => by
    rw [show es.length + (m + 1) = (es.length + m) + 1 by omega, lastW]
    cases (es ++ rest)[es.length + m]? with
    | none => exact lastW_more rest h m
    | some e =>
      simp only
      rw [if_neg (fun q => by have := h _ q.2.2; omega)]
      exact lastW_more rest h m

theorem same_trace {es0 rest : List Ev} {T0 T : Tr} {W0 W : Nat → List Nat} (r0 : RInv es0 T0 W0) (r : RInv (es0 ++ rest) T W) (hl : ∀ a, Live T a ↔ Live T0 a) (hw : ∀ a, Live T0 a → W a = W0 a) :
    (∀ x : Int, holdersL (es0 ++ rest) x = holdersL es0 x) ∧ ∀ x : Nat, isL (es0 ++ rest) 0 (x : Int) = isL es0 0 (x : Int) := by
  have hget : ∀ c, ∀ q ∈ W0 c, (es0 ++ rest)[q]? = es0[q]? := fun c q hq => List.getElem?_append_left (r0.s.gi.pl c q hq).lt
  constructor
  · intro x
    have hbits : ∀ c, (holdersL (es0 ++ rest) x).1.testBit c = (holdersL es0 x).1.testBit c ∧ (holdersL (es0 ++ rest) x).2.testBit c = (holdersL es0 x).2.testBit c := by
      intro c
      by_cases hc : c = 0
      · subst hc
        have b1 := bit0 (low15 r.s.jj) x _ (Nat.le_refl _)
        have b2 := bit0 (low15 r0.s.jj) x _ (Nat.le_refl _)
        rw [holdersL_K, holdersL_K, b1.1, b1.2, b2.1, b2.2]
        exact ⟨rfl, rfl⟩
      · obtain ⟨i1, i2⟩ := held_iff r x c hc
        obtain ⟨k1, k2⟩ := held_iff r0 x c hc
        constructor
        · rw [Bool.eq_iff_iff, i1, k1, hl c]
          refine and_congr_right fun hlc => ?_
          rw [hw c hlc]
          exact ⟨fun ⟨q, hq, e, he, h⟩ => ⟨q, hq, e, by rw [← hget c q hq]; exact he, h⟩, fun ⟨q, hq, e, he, h⟩ => ⟨q, hq, e, by rw [hget c q hq]; exact he, h⟩⟩
        · rw [Bool.eq_iff_iff, i2, k2, hl c]
          refine and_congr_right fun hlc => ?_
          rw [hw c hlc]
          exact ⟨fun ⟨q, hq, e, he, h⟩ => ⟨q, hq, e, by rw [← hget c q hq]; exact he, h⟩, fun ⟨q, hq, e, he, h⟩ => ⟨q, hq, e, by rw [hget c q hq]; exact he, h⟩⟩
    exact Prod.ext (Nat.eq_of_testBit_eq fun c => (hbits c).1) (Nat.eq_of_testBit_eq fun c => (hbits c).2)
  · intro x
    have h1 := is_last r.s.jj r.h r.na (u := 0) (Or.inl rfl) x
    have h2 := is_last r0.s.jj r0.h r0.na (u := 0) (Or.inl rfl) x
    rw [onWay_zero] at h1 h2
    rw [hw 0 (Or.inl rfl), List.length_append, lastW_more rest (fun p hp => (r0.s.gi.pl 0 p hp).lt)] at h1
    exact h1.trans h2.symm

/-! ### What is done in a transaction c, ahead of its abort -/
structure UInv (es0 : List Ev) (T0 : Tr) (W0 : Nat → List Nat) (c : Nat) (es : List Ev) (T : Tr) (W : Nat → List Nat) : Prop where
  r : RInv es T W
  pre : ∃ rest, es = es0 ++ rest
  oldl : ∀ a, Live T0 a → Live T a
  oldw : ∀ a, Live T0 a → W a = W0 a
  olow : ∀ a, Live T0 a → a < c
  sub : ∀ u, Live T u → Live T0 u ∨ c ∈ pth T.par u
  cl : Live T c

theorem UInv.below {es0 es : List Ev} {T0 T : Tr} {W0 W : Nat → List Nat} {c : Nat} (u : UInv es0 T0 W0 c es T W) {t : Nat} (ht : t ≤ T.n) (hc : c ∈ pth T.par t) : ¬ Live T0 t := fun h => by
  have := pth_le (jj_par u.r.s.jj) t ht c hc
  have := u.olow t h
  omega

theorem UInv.access {es0 es : List Ev} {T0 T : Tr} {W0 W : Nat → List Nat} {c : Nat} (u : UInv es0 T0 W0 c es T W) (k : Int) (t x : Nat) (v : Int) (hk : k = 2 ∨ k = 3 ∨ k = 4) (ht : t ≤ T.n) (hc : c ∈ pth T.par t) : ∃ T' W', UInv es0 T0 W0 c (accessR es k (t : Int) (x : Int) v).1 T' W' := by
  rcases u.r.access_or k t x v hk with h | ⟨_, h, hr⟩
  · rw [h]; exact ⟨T, W, u⟩
  · rw [h]
    obtain ⟨rest, hp⟩ := u.pre
    refine ⟨_, _, hr, ⟨rest ++ [accEv es k (t : Int) (x : Int) v], by rw [← List.append_assoc, ← hp]⟩, u.oldl, fun a ha => ?_, u.olow, u.sub, u.cl⟩
    have : a ≠ t := fun e => u.below ht hc (by rw [← e]; exact ha)
    unfold upd
    rw [if_neg this]
    exact u.oldw a ha

theorem UInv.begin_ {es0 es : List Ev} {T0 T : Tr} {W0 W : Nat → List Nat} {c : Nat} (u : UInv es0 T0 W0 c es T W) (up : Nat) (ht : up ≤ T.n) (hc : c ∈ pth T.par up) : ∃ T' W', UInv es0 T0 W0 c (beginR es (up : Int)).1 T' W' := by
  rcases u.r.begin_or up with h | ⟨hlu, hn, h, hr⟩
  · rw [h]; exact ⟨T, W, u⟩
  · rw [h]
    have j := u.r.s.jj
    have hpo := jj_par j
    have hpo' := jj_par hr.s.jj
    obtain ⟨rest, hp⟩ := u.pre
    have hpth : ∀ a, a ≤ T.n → pth (beginT T (up : Int)).par a = pth T.par a := fun a ha => pth_same hpo (fun d _ h2 => by simp only [beginT, upd]; rw [if_neg (by omega)]) a ha
    have hlv : ∀ a, Live T a → Live (beginT T (up : Int)) a := fun a ha => by
      have hle := live_le j ha
      rcases ha with h | ⟨h1, h2, h3⟩
      · exact Or.inl h
      · exact Or.inr ⟨h1, h2, by simp only [beginT, upd]; rw [if_neg (by omega)]; exact h3⟩
    refine ⟨_, _, hr, ⟨rest ++ [⟨1, ((T.n + 1 : Nat) : Int), (up : Int), 0, 0⟩], by rw [← List.append_assoc, ← hp]⟩, fun a ha => hlv a (u.oldl a ha), u.oldw, u.olow, fun w hw => ?_, hlv c u.cl⟩
    by_cases e : w = T.n + 1
    · right
      subst e
      have hp1 : ((beginT T (up : Int)).par (T.n + 1)).toNat = up := by simp [beginT, upd]
      rw [pth_step hpo' (T.n + 1) (by omega) (Nat.le_refl _), hp1, List.mem_append, hpth up ht]
      exact Or.inl hc
    · have hw' : Live T w := by
        rcases hw with h | ⟨h1, h2, h3⟩
        · exact Or.inl h
        · simp only [beginT, upd] at h3
          rw [if_neg e] at h3
          exact Or.inr ⟨h1, h2, h3⟩
      rw [hpth w (live_le j hw')]
      exact u.sub w hw'

/-- Who lives behind an abort: all but those whose way leads over t. -/
theorem live_abort {es : List Ev} {T : Tr} (j : JJ es T) (t : Nat) (ho : openL es (t : Int) = true) (a : Nat) : Live (abortT T t) a ↔ Live T a ∧ t ∉ pth T.par a := by
  have h15 := j.n15
  obtain ⟨hlt, ht0⟩ := live_of_open j ho
  by_cases h0 : a = 0
  · subst h0
    refine ⟨fun _ => ⟨Or.inl rfl, by rw [pth_zero]; simp; omega⟩, fun _ => Or.inl rfl⟩
  · have hop : ∀ b, b ≤ 15 → (abortT T t).op b = (openL es (b : Int) && !withinG es (t : Int) 16 (b : Int)) := fun b hb => by
      simp only [abortT]
      rw [ab_main j t ho 15 (by omega) b hb, if_pos hb]
    constructor
    · rintro (h | ⟨h1, h2, h3⟩)
      · exact absurd h h0
      · rw [hop a h2] at h3
        have ha : openL es (a : Int) = true ∧ withinG es (t : Int) 16 (a : Int) = false := by
          revert h3
          cases openL es (a : Int) <;> cases withinG es (t : Int) 16 (a : Int) <;> simp
        have hla := (live_of_open j ha.1).1
        refine ⟨hla, ?_⟩
        have := ha.2
        rw [within_pth j t a (live_le j hla)] at this
        simpa using this
    · rintro ⟨hl, hn⟩
      have hla := live_le j hl
      have := open_of_live j hl h0
      refine Or.inr ⟨by omega, by omega, ?_⟩
      rw [hop a (by omega), this, within_pth j t a hla, decide_eq_false hn]
      rfl

theorem UInv.end_ {es0 es : List Ev} {T0 T : Tr} {W0 W : Nat → List Nat} {c : Nat} (u : UInv es0 T0 W0 c es T W) (k : Int) (t : Nat) (hk : k = 5 ∨ k = 6) (ht : t ≤ T.n) (hc : c ∈ pth T.par t) (htc : t ≠ c) : ∃ T' W', UInv es0 T0 W0 c (endR es k (t : Int)).1 T' W' := by
  have j := u.r.s.jj
  have hpo := jj_par j
  rcases u.r.end_or k t hk with h | ⟨ho, h, h5, h6⟩
  · rw [h]; exact ⟨T, W, u⟩
  · rw [h]
    obtain ⟨rest, hp⟩ := u.pre
    have hpre : ∀ e : Ev, ∃ rest', es ++ [e] = es0 ++ rest' := fun e => ⟨rest ++ [e], by rw [← List.append_assoc, ← hp]⟩
    obtain ⟨hlt, ht0⟩ := live_of_open j ho
    have hct : c < t := Nat.lt_of_le_of_ne (pth_le hpo t ht c hc) (Ne.symm htc)
    rcases hk with rfl | rfl
    · obtain ⟨_, p, hpp, hr⟩ := h5 rfl
      have hcp : c ∈ pth T.par p := by
        rw [pth_step hpo t (by omega) ht, hpp, List.mem_append, List.mem_singleton] at hc
        rcases hc with hc | hc
        · simpa using hc
        · omega
      have hpn : p ≤ T.n := by
        have := hpo t (by omega) ht
        rw [hpp] at this
        simp at this
        omega
      have hlv : ∀ a, Live (commitT T t) a ↔ Live T a ∧ a ≠ t := fun a => by
        constructor
        · rintro (h | ⟨h1, h2, h3⟩)
          · exact ⟨Or.inl h, by omega⟩
          · simp only [commitT, upd] at h3
            by_cases e : a = t
            · rw [if_pos e] at h3; cases h3
            · rw [if_neg e] at h3; exact ⟨Or.inr ⟨h1, h2, h3⟩, e⟩
        · rintro ⟨h | ⟨h1, h2, h3⟩, e⟩
          · exact Or.inl h
          · exact Or.inr ⟨h1, h2, by simp only [commitT, upd]; rw [if_neg e]; exact h3⟩
      refine ⟨_, _, hr, hpre _, fun a ha => (hlv a).2 ⟨u.oldl a ha, fun e => u.below ht hc (by rw [← e]; exact ha)⟩, fun a ha => ?_, u.olow, fun w hw => u.sub w ((hlv w).1 hw).1, (hlv c).2 ⟨u.cl, Ne.symm htc⟩⟩
      have : a ≠ p := fun e => u.below hpn hcp (by rw [← e]; exact ha)
      unfold upd
      rw [if_neg this]
      exact u.oldw a ha
    · have hr := h6 rfl
      have hno : ∀ a, a ≤ T.n → a < t → t ∉ pth T.par a := fun a ha hat q => by
        have := pth_le hpo a ha t q
        omega
      refine ⟨_, _, hr, hpre _, fun a ha => (live_abort j t ho a).2 ⟨u.oldl a ha, ?_⟩, u.oldw, u.olow, fun w hw => u.sub w ((live_abort j t ho w).1 hw).1, (live_abort j t ho c).2 ⟨u.cl, hno c (live_le j u.cl) hct⟩⟩
      have h1 := u.olow a ha
      exact hno a (live_le j (u.oldl a ha)) (by omega)

/-- The transaction is begun. -/
theorem UInv.start {es : List Ev} {T : Tr} {W : Nat → List Nat} (p : Nat) (hr0 : RInv es T W) (hr : RInv (es ++ [⟨1, ((T.n + 1 : Nat) : Int), (p : Int), 0, 0⟩]) (beginT T (p : Int)) W) (hn : T.n < 15) : UInv es T W (T.n + 1) (es ++ [⟨1, ((T.n + 1 : Nat) : Int), (p : Int), 0, 0⟩]) (beginT T (p : Int)) W := by
  have j := hr0.s.jj
  have hlv : ∀ a, Live T a → Live (beginT T (p : Int)) a := fun a ha => by
    have hle := live_le j ha
    rcases ha with h | ⟨h1, h2, h3⟩
    · exact Or.inl h
    · exact Or.inr ⟨h1, h2, by simp only [beginT, upd]; rw [if_neg (by omega)]; exact h3⟩
  refine ⟨hr, ⟨_, rfl⟩, hlv, fun _ _ => rfl, fun a ha => by have := live_le j ha; omega, fun w hw => ?_, Or.inr ⟨by omega, by omega, by simp [beginT, upd]⟩⟩
  by_cases e : w = T.n + 1
  · right
    subst e
    exact pth_self (jj_par hr.s.jj) _ (Nat.le_refl _)
  · left
    rcases hw with h | ⟨h1, h2, h3⟩
    · exact Or.inl h
    · simp only [beginT, upd] at h3
      rw [if_neg e] at h3
      exact Or.inr ⟨h1, h2, h3⟩

/-- Undone, of events alone: behind the abort all is as ahead of the begin. -/
theorem UInv.undone {es0 es : List Ev} {T0 T : Tr} {W0 W : Nat → List Nat} {c : Nat} (r0 : RInv es0 T0 W0) (u : UInv es0 T0 W0 c es T W) (hl : es.length < 60) :
    (endR es 6 (c : Int)).2 = 0 ∧ (∀ x : Int, holdersL (endR es 6 (c : Int)).1 x = holdersL es0 x) ∧ ∀ x : Nat, isL (endR es 6 (c : Int)).1 0 (x : Int) = isL es0 0 (x : Int) := by
  have j := u.r.s.jj
  have hpo := jj_par j
  have hc0 : c ≠ 0 := fun e => by have := u.olow 0 (Or.inl rfl); omega
  have ho := open_of_live j u.cl hc0
  have hend : endR es 6 (c : Int) = (es ++ [⟨6, (c : Int), 0, 0, 0⟩], 0) := by
    unfold endR
    rw [if_neg (by rw [ho]; decide), if_neg (fun q => by omega), if_neg (by omega)]
  rcases u.r.end_or 6 c (Or.inr rfl) with h | ⟨_, h, _, h6⟩
  · rw [hend] at h
    have := congrArg List.length h
    simp at this
  · have hr := h6 rfl
    obtain ⟨rest, hp⟩ := u.pre
    have hlive : ∀ a, Live (abortT T c) a ↔ Live T0 a := fun a => by
      rw [live_abort j c ho a]
      constructor
      · rintro ⟨h1, h2⟩
        rcases u.sub a h1 with h3 | h3
        · exact h3
        · exact absurd h3 h2
      · intro h1
        have hla := u.oldl a h1
        refine ⟨hla, fun q => ?_⟩
        have := pth_le hpo a (live_le j hla) c q
        have := u.olow a h1
        omega
    rw [hend]
    refine ⟨rfl, ?_⟩
    have hr' : RInv (es0 ++ (rest ++ [⟨6, (c : Int), 0, 0, 0⟩])) (abortT T c) W := by rw [← List.append_assoc, ← hp]; exact hr
    have := same_trace r0 hr' hlive u.oldw
    rw [← List.append_assoc, ← hp] at this
    exact this

end Go.Proofs.Ytfdalbmopaemgab
