import Derived.Test.YtfdalbmopaemgabZT3
import Derived.Test.YtfdalbmopaemgabZS4
namespace Go.Proofs.Ytfdalbmopaemgab
open Go.RowKit

/-! ### Who holds what a transaction took -/
theorem holder_fuel {es : List Ev} {T : Tr} (j : JJ es T) : ∀ (t : Nat), t ≤ T.n → ∀ f g, t + 1 ≤ f → t + 1 ≤ g → holderG es f (t : Int) = holderG es g (t : Int) := by
  intro t
  induction t using Nat.strongRecOn with
  | _ t ih =>
    intro ht f g hf hg
    obtain ⟨f', rfl⟩ : ∃ f', f = f' + 1 := ⟨f - 1, by omega⟩
    obtain ⟨g', rfl⟩ : ∃ g', g = g' + 1 := ⟨g - 1, by omega⟩
    rw [holderG, holderG]
    by_cases h0 : (t : Int) = 0
    · rw [if_pos h0, if_pos h0]
    · rw [if_neg h0, if_neg h0]
      have hl := j.low t (by omega) ht
      obtain ⟨p, hp⟩ : ∃ p : Nat, parentL es (t : Int) = (p : Int) := ⟨(parentL es (t : Int)).toNat, by omega⟩
      rw [hp, ih p (by omega) (by omega) f' g' (by omega) (by omega)]

def hold (es : List Ev) (t : Nat) : Int × Bool := holderG es 16 (t : Int)

theorem hold_zero (es : List Ev) : hold es 0 = (0, true) := by
  unfold hold
  rw [holderG, if_pos (by rfl)]

theorem hold_step {es : List Ev} {T : Tr} (j : JJ es T) (t : Nat) (h1 : 1 ≤ t) (h2 : t ≤ T.n) : hold es t = if openL es (t : Int) = true then ((t : Int), true) else if es.any (isC (t : Int)) = false then (0, false) else hold es (T.par t).toNat := by
  have h15 := j.n15
  have hl := j.low t h1 h2
  have hp := j.par t (by omega)
  obtain ⟨p, hpp⟩ : ∃ p : Nat, parentL es (t : Int) = (p : Int) := ⟨(parentL es (t : Int)).toNat, by omega⟩
  rw [hpp] at hp hl
  unfold hold
  rw [holderG, if_neg (by omega), hpp, hp, Int.toNat_natCast, holder_fuel j p (by omega) 15 16 (by omega) (by omega)]

/-- Whoever holds lives. -/
theorem hold_live {es : List Ev} {T : Tr} (j : JJ es T) : ∀ t, t ≤ T.n → (∃ a : Nat, hold es t = ((a : Int), true) ∧ Live T a) ∨ hold es t = (0, false) := by
  intro t
  induction t using Nat.strongRecOn with
  | _ t ih =>
    intro ht
    by_cases h0 : t = 0
    · subst h0
      exact Or.inl ⟨0, hold_zero es, Or.inl rfl⟩
    · rw [hold_step j t (by omega) ht]
      by_cases ho : openL es (t : Int) = true
      · rw [if_pos ho]
        exact Or.inl ⟨t, rfl, (live_of_open j ho).1⟩
      · rw [if_neg ho]
        by_cases hc : es.any (isC (t : Int)) = false
        · rw [if_pos hc]; exact Or.inr rfl
        · rw [if_neg hc]
          have := jj_par j t (by omega) ht
          exact ih _ this (by omega)

structure HInv (es : List Ev) (T : Tr) (W : Nat → List Nat) : Prop where
  rg : ∀ (i : Nat) (e : Ev), es[i]? = some e → onObj e.k = true → ∃ t : Nat, e.t = (t : Int) ∧ 1 ≤ t ∧ t ≤ T.n
  hw : ∀ (i : Nat) (e : Ev), es[i]? = some e → onObj e.k = true → ∀ t : Nat, e.t = (t : Int) → ∀ a, Live T a → (i ∈ W a ↔ hold es t = ((a : Int), true))

theorem HInv.start : HInv [] tr0 (fun _ => []) := ⟨fun i e h => (by simp at h), fun i e h => (by simp at h)⟩

theorem any_snoc (es : List Ev) (e : Ev) (t : Int) : (es ++ [e]).any (isC t) = (es.any (isC t) || isC t e) := by
  rw [List.any_append]
  simp

/-- Nothing of the holders turns where opens, commits and parents are as they were. -/
theorem hold_same {es es' : List Ev} {T T' : Tr} (j : JJ es T) (j' : JJ es' T') (hn : T.n ≤ T'.n) (ho : ∀ t : Nat, t ≤ T.n → openL es' (t : Int) = openL es (t : Int)) (hc : ∀ t : Nat, t ≤ T.n → es'.any (isC (t : Int)) = es.any (isC (t : Int))) (hp : ∀ t, 1 ≤ t → t ≤ T.n → T'.par t = T.par t) :
    ∀ t, t ≤ T.n → hold es' t = hold es t := by
  intro t
  induction t using Nat.strongRecOn with
  | _ t ih =>
    intro ht
    by_cases h0 : t = 0
    · subst h0; rw [hold_zero, hold_zero]
    · have hlo := jj_par j t (by omega) ht
      rw [hold_step j t (by omega) ht, hold_step j' t (by omega) (by omega), ho t ht, hc t ht, hp t (by omega) ht, ih _ hlo (by omega)]

/-- Read, Write, Add. -/
theorem HInv.access {es : List Ev} {T : Tr} {W : Nat → List Nat} (j : JJ es T) (g : GI es es.length T W) (h : HInv es T W) (e : Ev) (t : Nat) (ht : e.t = (t : Int)) (hobj : onObj e.k = true) (hto : openL es (t : Int) = true) : HInv (es ++ [e]) T (upd W t (W t ++ [es.length])) := by
  have hr := onObj_iff.1 hobj
  have j' : JJ (es ++ [e]) T := j.plain e (by omega) (by omega) (by omega)
  have h15 := j.n15
  have hsame := hold_same j j' (Nat.le_refl _) (fun c hc => by rw [← j'.op c (by omega), j.op c (by omega)]) (fun c hc => by rw [any_snoc, isC_k (by omega)]; simp) (fun _ _ _ => rfl)
  obtain ⟨hl, ht0⟩ := live_of_open j hto
  have htn := live_le j hl
  have hin : ∀ i, i < es.length → ∀ a, (i ∈ upd W t (W t ++ [es.length]) a ↔ i ∈ W a) := fun i hi a => by
    unfold upd
    by_cases ea : a = t
    · rw [if_pos ea, List.mem_append, List.mem_singleton, ea]
      exact ⟨fun q => q.elim id (fun q => by omega), Or.inl⟩
    · rw [if_neg ea]
  refine ⟨fun i e' he' hk => ?_, fun i e' he' hk t' ht' a ha => ?_⟩
  · by_cases hi : i < es.length
    · rw [List.getElem?_append_left hi] at he'
      exact h.rg i e' he' hk
    · have hie : i = es.length := by
        have := (List.getElem?_eq_some_iff.1 he').1
        simp at this
        omega
      subst hie
      simp at he'
      subst he'
      exact ⟨t, ht, by omega, htn⟩
  · by_cases hi : i < es.length
    · rw [List.getElem?_append_left hi] at he'
      rw [hin i hi a]
      obtain ⟨t'', h1, h2, h3⟩ := h.rg i e' he' hk
      have : t' = t'' := by omega
      subst this
      rw [hsame t' h3]
      exact h.hw i e' he' hk t' ht' a ha
    · have hie : i = es.length := by
        have := (List.getElem?_eq_some_iff.1 he').1
        simp at this
        omega
      subst hie
      simp at he'
      subst he'
      have : t' = t := by omega
      subst this
      rw [hsame t' htn, hold_step j t' (by omega) htn, if_pos hto]
      unfold upd
      by_cases ea : a = t'
      · rw [if_pos ea, ea]
        simp
      · rw [if_neg ea]
        refine ⟨fun q => ?_, fun q => ?_⟩
        · have := (g.pl a _ q).lt; omega
        · exfalso
          have := congrArg Prod.fst q
          simp only at this
          omega

/-- An event that nobody plays, and by which nobody ends: Begin. -/
theorem HInv.begin_ {es : List Ev} {T : Tr} {W : Nat → List Nat} (j : JJ es T) (g : GI es es.length T W) (h : HInv es T W) (e : Ev) (p : Nat) (hk1 : e.k = 1) (j' : JJ (es ++ [e]) (beginT T (p : Int))) : HInv (es ++ [e]) (beginT T (p : Int)) W := by
  have h15 := j.n15
  have h15' := j'.n15
  have hn' : (beginT T (p : Int)).n = T.n + 1 := rfl
  have hop : ∀ c, c ≤ T.n → (beginT T (p : Int)).op c = T.op c := fun c hc => by simp only [beginT, upd]; rw [if_neg (by omega)]
  have hsame := hold_same j j' (by omega) (fun c hc => by rw [← j'.op c (by omega), ← j.op c (by omega), hop c hc]) (fun c hc => by rw [any_snoc, isC_k (by omega)]; simp) (fun c _ hc => by simp only [beginT, upd]; rw [if_neg (by omega)])
  have hold_ : ∀ (i : Nat) (e' : Ev), (es ++ [e])[i]? = some e' → onObj e'.k = true → es[i]? = some e' := fun i e' he' hk => by
    by_cases hi : i < es.length
    · rwa [List.getElem?_append_left hi] at he'
    · have hie : i = es.length := by
        have := (List.getElem?_eq_some_iff.1 he').1
        simp at this
        omega
      subst hie
      simp at he'
      subst he'
      have := onObj_iff.1 hk
      omega
  refine ⟨fun i e' he' hk => ?_, fun i e' he' hk t' ht' a ha => ?_⟩
  · obtain ⟨t, h1, h2, h3⟩ := h.rg i e' (hold_ i e' he' hk) hk
    exact ⟨t, h1, h2, by omega⟩
  · have he := hold_ i e' he' hk
    obtain ⟨t, h1, h2, h3⟩ := h.rg i e' he hk
    have : t' = t := by omega
    subst this
    rw [hsame t' h3]
    by_cases ea : a = T.n + 1
    · subst ea
      rw [g.new _ (by omega)]
      refine ⟨fun q => (by cases q), fun q => ?_⟩
      rcases hold_live j t' h3 with ⟨b, hb, hlb⟩ | hb
      · rw [hb] at q
        have h7 := congrArg Prod.fst q
        simp only at h7
        have := live_le j hlb
        omega
      · rw [hb] at q; cases q
    · refine h.hw i e' he hk t' ht' a ?_
      rcases ha with ha | ⟨ha1, ha2, ha3⟩
      · exact Or.inl ha
      · simp only [beginT, upd] at ha3
        rw [if_neg ea] at ha3
        exact Or.inr ⟨ha1, ha2, ha3⟩

/-- Commit. -/
theorem HInv.commit {es : List Ev} {T : Tr} {W : Nat → List Nat} (j : JJ es T) (h : HInv es T W) (e : Ev) (u p : Nat) (hk : e.k = 5) (hu : e.t = (u : Int)) (huo : openL es (u : Int) = true) (hp : T.par u = (p : Int)) (j' : JJ (es ++ [e]) (commitT T u)) : HInv (es ++ [e]) (commitT T u) (upd W p (W p ++ W u)) := by
  have h15 := j.n15
  obtain ⟨hul, hu0⟩ := live_of_open j huo
  have hun := live_le j hul
  have hpl : Live T p := by have := live_up j hul hu0; rw [hp] at this; simpa using this
  have hpu : p < u := by have := jj_par j u (by omega) hun; rw [hp] at this; simpa using this
  have hC : ∀ c : Nat, isC (c : Int) e = decide (u = c) := fun c => by unfold isC; rw [hk, hu]; simp [BEq.beq]; omega
  -- the holders behind it
  have hev : ∀ t, t ≤ T.n → hold (es ++ [e]) t = if hold es t = ((u : Int), true) then ((p : Int), true) else hold es t := by
    intro t
    induction t using Nat.strongRecOn with
    | _ t ih =>
      intro ht
      by_cases h0 : t = 0
      · subst h0
        rw [hold_zero, hold_zero, if_neg (fun q => by have := congrArg Prod.fst q; simp only at this; omega)]
      · have hlo := jj_par j t (by omega) ht
        have hopn : openL (es ++ [e]) (t : Int) = (commitT T u).op t := (j'.op t (by omega)).symm
        rw [hold_step j' t (by omega) ht, hopn, hold_step j t (by omega) ht, any_snoc, hC]
        by_cases htu : t = u
        · subst htu
          have h1 : (commitT T t).op t = false := by simp [commitT, upd]
          rw [h1, if_neg (by decide), if_neg (by simp), if_pos huo, if_pos rfl]
          show hold (es ++ [e]) (T.par t).toNat = _
          have hpt : (T.par t).toNat = p := by rw [hp]; simp
          rw [hpt, ih p (by omega) (by omega)]
          have hp' : hold es p = ((p : Int), true) := by
            by_cases hz : p = 0
            · subst hz; exact hold_zero es
            · rw [hold_step j p (by omega) (by omega), if_pos (open_of_live j hpl hz)]
          rw [hp', if_neg (fun q => by have := congrArg Prod.fst q; simp only at this; omega)]
        · have h1 : (commitT T u).op t = openL es (t : Int) := by simp only [commitT, upd]; rw [if_neg htu, j.op t (by omega)]
          have h2 : (es.any (isC (t : Int)) || decide (u = t)) = es.any (isC (t : Int)) := by rw [decide_eq_false (by omega)]; simp
          rw [h1, h2]
          by_cases ho : openL es (t : Int) = true
          · rw [if_pos ho, if_pos ho, if_neg (fun q => by have := congrArg Prod.fst q; simp only at this; omega)]
          · rw [if_neg ho, if_neg ho]
            by_cases hc : es.any (isC (t : Int)) = false
            · rw [if_pos hc, if_pos hc, if_neg (fun q => by cases congrArg Prod.snd q)]
            · rw [if_neg hc, if_neg hc]
              show hold (es ++ [e]) (T.par t).toNat = _
              exact ih _ hlo (by omega)
  have hold_ : ∀ (i : Nat) (e' : Ev), (es ++ [e])[i]? = some e' → onObj e'.k = true → es[i]? = some e' := fun i e' he' hk' => by
    by_cases hi : i < es.length
    · rwa [List.getElem?_append_left hi] at he'
    · have hie : i = es.length := by
        have := (List.getElem?_eq_some_iff.1 he').1
        simp at this
        omega
      subst hie
      simp at he'
      subst he'
      have := onObj_iff.1 hk'
      omega
  refine ⟨fun i e' he' hk' => h.rg i e' (hold_ i e' he' hk') hk', fun i e' he' hk' t' ht' a ha => ?_⟩
  have he := hold_ i e' he' hk'
  obtain ⟨t, h1, h2, h3⟩ := h.rg i e' he hk'
  have : t' = t := by omega
  subst this
  rw [hev t' h3]
  have hau : Live T a ∧ a ≠ u := by
    rcases ha with ha | ⟨ha1, ha2, ha3⟩
    · exact ⟨Or.inl ha, by omega⟩
    · simp only [commitT, upd] at ha3
      by_cases e1 : a = u
      · rw [if_pos e1] at ha3; cases ha3
      · rw [if_neg e1] at ha3; exact ⟨Or.inr ⟨ha1, ha2, ha3⟩, e1⟩
  have hia := h.hw i e' he hk' t' ht' a hau.1
  have hiu := h.hw i e' he hk' t' ht' u hul
  unfold upd
  by_cases hap : a = p
  · rw [if_pos hap, List.mem_append, hiu]
    rw [hap] at hia
    rw [hia]
    by_cases hx : hold es t' = ((u : Int), true)
    · rw [if_pos hx, hap]
      exact ⟨fun _ => rfl, fun _ => Or.inr hx⟩
    · rw [if_neg hx, hap]
      exact ⟨fun q => q.elim id (fun q => absurd q hx), Or.inl⟩
  · rw [if_neg hap, hia]
    by_cases hx : hold es t' = ((u : Int), true)
    · rw [if_pos hx, hx]
      refine ⟨fun q => ?_, fun q => ?_⟩
      · have := congrArg Prod.fst q; simp only at this; omega
      · have := congrArg Prod.fst q; simp only at this; omega
    · rw [if_neg hx]

/-- Abort. -/
theorem HInv.abort {es : List Ev} {T : Tr} {W : Nat → List Nat} (j : JJ es T) (h : HInv es T W) (e : Ev) (u : Nat) (hk : e.k = 6) (huo : openL es (u : Int) = true) (j' : JJ (es ++ [e]) (abortT T u)) : HInv (es ++ [e]) (abortT T u) W := by
  have h15 := j.n15
  have hlive : ∀ c, Live (abortT T u) c → Live T c := fun c hc => by
    rcases hc with hc | ⟨h1, h2, h3⟩
    · exact Or.inl hc
    · have hT : stepT T 6 u 0 = abortT T u := by unfold stepT; rw [if_neg (by decide), if_neg (by decide), if_pos rfl]
      rw [← hT] at h3
      rcases live_back j (fun _ => huo) h2 h3 with h4 | h4
      · exact Or.inr ⟨h1, h2, h4⟩
      · omega
  have hev : ∀ t, t ≤ T.n → ∀ a, Live (abortT T u) a → (hold (es ++ [e]) t = ((a : Int), true) ↔ hold es t = ((a : Int), true)) := by
    intro t
    induction t using Nat.strongRecOn with
    | _ t ih =>
      intro ht a ha
      by_cases h0 : t = 0
      · subst h0; rw [hold_zero, hold_zero]
      · have hlo := jj_par j t (by omega) ht
        have hcm : (es ++ [e]).any (isC (t : Int)) = es.any (isC (t : Int)) := by rw [any_snoc, isC_k (by omega)]; simp
        have hpar : ((abortT T u).par t).toNat = (T.par t).toNat := rfl
        rw [hold_step j' t (by omega) ht, hold_step j t (by omega) ht, hcm, hpar]
        by_cases ho : openL es (t : Int) = true
        · rw [if_pos ho]
          by_cases ho' : openL (es ++ [e]) (t : Int) = true
          · rw [if_pos ho']
          · rw [if_neg ho', open_not_com ho, if_pos rfl]
            refine ⟨fun q => (by cases congrArg Prod.snd q), fun q => ?_⟩
            exfalso
            have hta : t = a := by have := congrArg Prod.fst q; simp only at this; omega
            subst hta
            exact ho' (open_of_live j' ha h0)
        · have ho' : ¬ openL (es ++ [e]) (t : Int) = true := fun q => ho (open_of_live j (hlive t (live_of_open j' q).1) h0)
          rw [if_neg ho, if_neg ho']
          by_cases hc : es.any (isC (t : Int)) = false
          · rw [if_pos hc, if_pos hc]
          · rw [if_neg hc, if_neg hc]
            exact ih _ hlo (by omega) a ha
  have hold_ : ∀ (i : Nat) (e' : Ev), (es ++ [e])[i]? = some e' → onObj e'.k = true → es[i]? = some e' := fun i e' he' hk' => by
    by_cases hi : i < es.length
    · rwa [List.getElem?_append_left hi] at he'
    · have hie : i = es.length := by
        have := (List.getElem?_eq_some_iff.1 he').1
        simp at this
        omega
      subst hie
      simp at he'
      subst he'
      have := onObj_iff.1 hk'
      omega
  refine ⟨fun i e' he' hk' => h.rg i e' (hold_ i e' he' hk') hk', fun i e' he' hk' t' ht' a ha => ?_⟩
  have he := hold_ i e' he' hk'
  obtain ⟨t, h1, h2, h3⟩ := h.rg i e' he hk'
  have : t' = t := by omega
  subst this
  rw [hev t' h3 a ha]
  exact h.hw i e' he hk' t' ht' a (hlive a ha)

end Go.Proofs.Ytfdalbmopaemgab
