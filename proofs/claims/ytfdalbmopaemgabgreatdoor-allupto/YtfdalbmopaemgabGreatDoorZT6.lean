import Derived.Test.YtfdalbmopaemgabGreatDoorZT3
import Derived.Test.YtfdalbmopaemgabGreatDoorZS4
import Derived.Test.YtfdalbmopaemgabGreatDoorZS8
namespace Go.Proofs.YtfdalbmopaemgabGreatDoor
open Go.RowKit

/-! ### Who holds what a transaction took -/
theorem holder_fuel {es : List Ev} {T : Tr} (j : JJ es T) : ∀ (t : Nat), t ≤ T.n → ∀ f g, t + 1 ≤ f → t + 1 ≤ g → holderG es f (t : Int) = holderG es g (t : Int) := by
  intro t
  induction t using Nat.strongRecOn with
  | _ t ih =>
    intro ht f g hf hg
    obtain ⟨f', rfl⟩ : ∃ f', f = f' + 1 := ⟨f - 1, by omega⟩
    obtain ⟨g', rfl⟩ : ∃ g', g = g' + 1 := ⟨g - 1, by omega⟩
    rw [holderG, holderG]
    by_cases h0 : (t : Int) = 0
    · rw [if_pos h0, if_pos h0]
    · rw [if_neg h0, if_neg h0]
      have hl := j.low t (by omega) ht
      obtain ⟨p, hp⟩ : ∃ p : Nat, parentL es (t : Int) = (p : Int) := ⟨(parentL es (t : Int)).toNat, by omega⟩
      rw [hp, ih p (by omega) (by omega) f' g' (by omega) (by omega)]

def hold (es : List Ev) (t : Nat) : Int × Bool := holderG es 16 (t : Int)

theorem hold_zero (es : List Ev) : hold es 0 = (0, true) := by
  unfold hold
  rw [holderG, if_pos (by rfl)]

theorem hold_step {es : List Ev} {T : Tr} (j : JJ es T) (t : Nat) (h1 : 1 ≤ t) (h2 : t ≤ T.n) : hold es t = if openL es (t : Int) = true then ((t : Int), true) else if es.any (isC (t : Int)) = false then (0, false) else hold es (T.par t).toNat := by
  have h15 := j.n15
  have hl := j.low t h1 h2
  have hp := j.par t (by omega)
  obtain ⟨p, hpp⟩ : ∃ p : Nat, parentL es (t : Int) = (p : Int) := ⟨(parentL es (t : Int)).toNat, by omega⟩
  rw [hpp] at hp hl
  unfold hold
  rw [holderG, if_neg (by omega), hpp, hp, Int.toNat_natCast, holder_fuel j p (by omega) 15 16 (by omega) (by omega)]

/-- Whoever holds lives. -/
theorem hold_live {es : List Ev} {T : Tr} (j : JJ es T) : ∀ t, t ≤ T.n → (∃ a : Nat, hold es t = ((a : Int), true) ∧ Live T a) ∨ hold es t = (0, false) := by
  intro t
  induction t using Nat.strongRecOn with
  | _ t ih =>
    intro ht
    by_cases h0 : t = 0
    · subst h0
      exact Or.inl ⟨0, hold_zero es, Or.inl rfl⟩
    · rw [hold_step j t (by omega) ht]
      by_cases ho : openL es (t : Int) = true
      · rw [if_pos ho]
        exact Or.inl ⟨t, rfl, (live_of_open j ho).1⟩
      · rw [if_neg ho]
        by_cases hc : es.any (isC (t : Int)) = false
        · rw [if_pos hc]; exact Or.inr rfl
        · rw [if_neg hc]
          have := jj_par j t (by omega) ht
          exact ih _ this (by omega)

structure HInv (es : List Ev) (T : Tr) (W : Nat → List Nat) : Prop where
  rg : ∀ (i : Nat) (e : Ev), es[i]? = some e → onObj e.k = true → ∃ t : Nat, e.t = (t : Int) ∧ 1 ≤ t ∧ t ≤ T.n
  hw : ∀ (i : Nat) (e : Ev), es[i]? = some e → onObj e.k = true → ∀ t : Nat, e.t = (t : Int) → ∀ a, Live T a → (i ∈ W a ↔ hold es t = ((a : Int), true))

theorem HInv.start : HInv [] tr0 (fun _ => []) := ⟨fun i e h => (by simp at h), fun i e h => (by simp at h)⟩

theorem any_snoc (es : List Ev) (e : Ev) (t : Int) : (es ++ [e]).any (isC t) = (es.any (isC t) || isC t e) := by
  rw [List.any_append]
  simp

/-- Nothing of the holders turns where opens, commits and parents are as they were. -/
theorem hold_same {es es' : List Ev} {T T' : Tr} (j : JJ es T) (j' : JJ es' T') (hn : T.n ≤ T'.n) (ho : ∀ t : Nat, t ≤ T.n → openL es' (t : Int) = openL es (t : Int)) (hc : ∀ t : Nat, t ≤ T.n → es'.any (isC (t : Int)) = es.any (isC (t : Int))) (hp : ∀ t, 1 ≤ t → t ≤ T.n → T'.par t = T.par t) :
    ∀ t, t ≤ T.n → hold es' t = hold es t := by
  intro t
  induction t using Nat.strongRecOn with
  | _ t ih =>
    intro ht
    by_cases h0 : t = 0
    · subst h0; rw [hold_zero, hold_zero]
    · have hlo := jj_par j t (by omega) ht
      rw [hold_step j t (by omega) ht, hold_step j' t (by omega) (by omega), ho t ht, hc t ht, hp t (by omega) ht, ih _ hlo (by omega)]

/-- Read, Write, Add. -/
theorem HInv.access {es : List Ev} {T : Tr} {W : Nat → List Nat} (j : JJ es T) (g : GI es es.length T W) (h : HInv es T W) (e : Ev) (t : Nat) (ht : e.t = (t : Int)) (hobj : onObj e.k = true) (hto : openL es (t : Int) = true) : HInv (es ++ [e]) T (upd W t (W t ++ [es.length])) := by
  have hr := onObj_iff.1 hobj
  have j' : JJ (es ++ [e]) T := j.plain e (by omega) (by omega) (by omega)
  have h15 := j.n15
  have hsame := hold_same j j' (Nat.le_refl _) (fun c hc => by rw [← j'.op c (by omega), j.op c (by omega)]) (fun c hc => by rw [any_snoc, isC_k (by omega)]; simp) (fun _ _ _ => rfl)
  obtain ⟨hl, ht0⟩ := live_of_open j hto
  have htn := live_le j hl
  have hin : ∀ i, i < es.length → ∀ a, (i ∈ upd W t (W t ++ [es.length]) a ↔ i ∈ W a) := fun i hi a => by
    unfold upd
    by_cases ea : a = t
    · rw [if_pos ea, List.mem_append, List.mem_singleton, ea]
      exact ⟨fun q => q.elim id (fun q => by omega), Or.inl⟩
    · rw [if_neg ea]
  refine ⟨fun i e' he' hk => ?_, fun i e' he' hk t' ht' a ha => ?_⟩
  · by_cases hi : i < es.length
    · rw [List.getElem?_append_left hi] at he'
      exact h.rg i e' he' hk
    · have hie : i = es.length := by
        have := (List.getElem?_eq_some_iff.1 he').1
        simp at this
        omega
      subst hie
      simp at he'
      subst he'
      exact ⟨t, ht, by omega, htn⟩
  · by_cases hi : i < es.length
    · rw [List.getElem?_append_left hi] at he'
      rw [hin i hi a]
      obtain ⟨t'', h1, h2, h3⟩ := h.rg i e' he' hk
      have : t' = t'' := by omega
      subst this
      rw [hsame t' h3]
      exact h.hw i e' he' hk t' ht' a ha
    · have hie : i = es.length := by
        have := (List.getElem?_eq_some_iff.1 he').1
        simp at this
        omega
      subst hie
      simp at he'
      subst he'
      have : t' = t := by omega
      subst this
      rw [hsame t' htn, hold_step j t' (by omega) htn, if_pos hto]
      unfold upd
      by_cases ea : a = t'
      · rw [if_pos ea, ea]
        simp
      · rw [if_neg ea]
        refine ⟨fun q => ?_, fun q => ?_⟩
        · have := (g.pl a _ q).lt; omega
        · exfalso
          have := congrArg Prod.fst q
          simp only at this
          omega

/-- An event that nobody plays, and by which nobody ends: Begin. -/
theorem HInv.begin_ {es : List Ev} {T : Tr} {W : Nat → List Nat} (j : JJ es T) (g : GI es es.length T W) (h : HInv es T W) (e : Ev) (p : Nat) (hk1 : e.k = 1) (j' : JJ (es ++ [e]) (beginT T (p : Int))) : HInv (es ++ [e]) (beginT T (p : Int)) W := by
  have h15 := j.n15
  have h15' := j'.n15
  have hn' : (beginT T (p : Int)).n = T.n + 1 := rfl
  have hop : ∀ c, c ≤ T.n → (beginT T (p : Int)).op c = T.op c := fun c hc => by simp only [beginT, upd]; rw [if_neg (by omega)]
  have hsame := hold_same j j' (by omega) (fun c hc => by rw [← j'.op c (by omega), ← j.op c (by omega), hop c hc]) (fun c hc => by rw [any_snoc, isC_k (by omega)]; simp) (fun c _ hc => by simp only [beginT, upd]; rw [if_neg (by omega)])
  have hold_ : ∀ (i : Nat) (e' : Ev), (es ++ [e])[i]? = some e' → onObj e'.k = true → es[i]? = some e' := fun i e' he' hk => by
    by_cases hi : i < es.length
    · rwa [List.getElem?_append_left hi] at he'
    · have hie : i = es.length := by
        have := (List.getElem?_eq_some_iff.1 he').1
        simp at this
        omega
      subst hie
      simp at he'
      subst he'
      have := onObj_iff.1 hk
      omega
  refine ⟨fun i e' he' hk => ?_, fun i e' he' hk t' ht' a ha => ?_⟩
  · obtain ⟨t, h1, h2, h3⟩ := h.rg i e' (hold_ i e' he' hk) hk
    exact ⟨t, h1, h2, by omega⟩
  · have he := hold_ i e' he' hk
    obtain ⟨t, h1, h2, h3⟩ := h.rg i e' he hk
    have : t' = t := by omega
    subst this
    rw [hsame t' h3]
    by_cases ea : a = T.n + 1
    · subst ea
      rw [g.new _ (by omega)]
      refine ⟨fun q => (by cases q), fun q => ?_⟩
      rcases hold_live j t' h3 with ⟨b, hb, hlb⟩ | hb
      · rw [hb] at q
        have h7 := congrArg Prod.fst q
        simp only at h7
        have := live_le j hlb
        omega
      · rw [hb] at q; cases q
    · refine h.hw i e' he hk t' ht' a ?_
      rcases ha with ha | ⟨ha1, ha2, ha3⟩
      · exact Or.inl ha
      · simp only [beginT, upd] at ha3
        rw [if_neg ea] at ha3
        exact Or.inr ⟨ha1, ha2, ha3⟩

/-- Commit. -/
theorem HInv.commit {es : List Ev} {T : Tr} {W : Nat → List Nat} (j : JJ es T) (h : HInv es T W) (e : Ev) (u p : Nat) (hk : e.k = 5) (hu : e.t = (u : Int)) (huo : openL es (u : Int) = true) (hp : T.par u = (p : Int)) (j' : JJ (es ++ [e]) (commitT T u)) : HInv (es ++ [e]) (commitT T u) (upd W p (W p ++ W u)) := by
  have h15 := j.n15
  obtain ⟨hul, hu0⟩ := live_of_open j huo
  have hun := live_le j hul
  have hpl : Live T p := by have := live_up j hul hu0; rw [hp] at this; simpa using this
  have hpu : p < u := by have := jj_par j u (by omega) hun; rw [hp] at this; simpa using this
  have hC : ∀ c : Nat, isC (c : Int) e = decide (u = c) := fun c => by unfold isC; rw [hk, hu]; simp [BEq.beq]; omega
  -- the holders behind it
  have hev : ∀ t, t ≤ T.n → hold (es ++ [e]) t = if hold es t = ((u : Int), true) then ((p : Int), true) else hold es t := by
    intro t
    induction t using Nat.strongRecOn with
    | _ t ih =>
      intro ht
      by_cases h0 : t = 0
      · subst h0
        rw [hold_zero, hold_zero, if_neg (fun q => by have := congrArg Prod.fst q; simp only at this; omega)]
      · have hlo := jj_par j t (by omega) ht
        have hopn : openL (es ++ [e]) (t : Int) = (commitT T u).op t := (j'.op t (by omega)).symm
        rw [hold_step j' t (by omega) ht, hopn, hold_step j t (by omega) ht, any_snoc, hC]
        by_cases htu : t = u
        · subst htu
          have h1 : (commitT T t).op t = false := by simp [commitT, upd]
          rw [h1, if_neg (by decide), if_neg (by simp), if_pos huo, if_pos rfl]
          show hold (es ++ [e]) (T.par t).toNat = _
          have hpt : (T.par t).toNat = p := by rw [hp]; simp
          rw [hpt, ih p (by omega) (by omega)]
          have hp' : hold es p = ((p : Int), true) := by
            by_cases hz : p = 0
            · subst hz; exact hold_zero es
            · rw [hold_step j p (by omega) (by omega), if_pos (open_of_live j hpl hz)]
          rw [hp', if_neg (fun q => by have := congrArg Prod.fst q; simp only at this; omega)]
        · have h1 : (commitT T u).op t = openL es (t : Int) := by simp only [commitT, upd]; rw [if_neg htu, j.op t (by omega)]
          have h2 : (es.any (isC (t : Int)) || decide (u = t)) = es.any (isC (t : Int)) := by rw [decide_eq_false (by omega)]; simp
          rw [h1, h2]
          by_cases ho : openL es (t : Int) = true
          · rw [if_pos ho, if_pos ho, if_neg (fun q => by have := congrArg Prod.fst q; simp only at this; omega)]
          · rw [if_neg ho, if_neg ho]
            by_cases hc : es.any (isC (t : Int)) = false
            · rw [if_pos hc, if_pos hc, if_neg (fun q => by cases congrArg Prod.snd q)]
            · rw [if_neg hc, if_neg hc]
              show hold (es ++ [e]) (T.par t).toNat = _
              exact ih _ hlo (by omega)
  have hold_ : ∀ (i : Nat) (e' : Ev), (es ++ [e])[i]? = some e' → onObj e'.k = true → es[i]? = some e' := fun i e' he' hk' => by
    by_cases hi : i < es.length
    · rwa [List.getElem?_append_left hi] at he'
    · have hie : i = es.length := by
        have := (List.getElem?_eq_some_iff.1 he').1
        simp at this
        omega
      subst hie
      simp at he'
      subst he'
      have := onObj_iff.1 hk'
      omega
  refine ⟨fun i e' he' hk' => h.rg i e' (hold_ i e' he' hk') hk', fun i e' he' hk' t' ht' a ha => ?_⟩
  have he := hold_ i e' he' hk'
  obtain ⟨t, h1, h2, h3⟩ := h.rg i e' he hk'
  have : t' = t := by omega
  subst this
  rw [hev t' h3]
  have hau : Live T a ∧ a ≠ u := by
    rcases ha with ha | ⟨ha1, ha2, ha3⟩
    · exact ⟨Or.inl ha, by omega⟩
    · simp only [commitT, upd] at ha3
      by_cases e1 : a = u
      · rw [if_pos e1] at ha3; cases ha3
      · rw [if_neg e1] at ha3; exact ⟨Or.inr ⟨ha1, ha2, ha3⟩, e1⟩
  have hia := h.hw i e' he hk' t' ht' a hau.1
  have hiu := h.hw i e' he hk' t' ht' u hul
  unfold upd
  by_cases hap : a = p
  · rw [if_pos hap, List.mem_append, hiu]
    rw [hap] at hia
    rw [hia]
    by_cases hx : hold es t' = ((u : Int), true)
    · rw [if_pos hx, hap]
      exact ⟨fun _ => rfl, fun _ => Or.inr hx⟩
    · rw [if_neg hx, hap]
      exact ⟨fun q => q.elim id (fun q => absurd q hx), Or.inl⟩
  · rw [if_neg hap, hia]
    by_cases hx : hold es t' = ((u : Int), true)
    · rw [if_pos hx, hx]
      refine ⟨fun q => ?_, fun q => ?_⟩
      · have := congrArg Prod.fst q; simp only at this; omega
      · have := congrArg Prod.fst q; simp only at this; omega
    · rw [if_neg hx]

/-- Abort. -/
theorem HInv.abort {es : List Ev} {T : Tr} {W : Nat → List Nat} (j : JJ es T) (h : HInv es T W) (e : Ev) (u : Nat) (hk : e.k = 6) (huo : openL es (u : Int) = true) (j' : JJ (es ++ [e]) (abortT T u)) : HInv (es ++ [e]) (abortT T u) W := by
  have h15 := j.n15
  have hlive : ∀ c, Live (abortT T u) c → Live T c := fun c hc => by
    rcases hc with hc | ⟨h1, h2, h3⟩
    · exact Or.inl hc
    · have hT : stepT T 6 u 0 = abortT T u := by unfold stepT; rw [if_neg (by decide), if_neg (by decide), if_pos rfl]
      rw [← hT] at h3
      rcases live_back j (fun _ => huo) h2 h3 with h4 | h4
      · exact Or.inr ⟨h1, h2, h4⟩
      · omega
  have hev : ∀ t, t ≤ T.n → ∀ a, Live (abortT T u) a → (hold (es ++ [e]) t = ((a : Int), true) ↔ hold es t = ((a : Int), true)) := by
    intro t
    induction t using Nat.strongRecOn with
    | _ t ih =>
      intro ht a ha
      by_cases h0 : t = 0
      · subst h0; rw [hold_zero, hold_zero]
      · have hlo := jj_par j t (by omega) ht
        have hcm : (es ++ [e]).any (isC (t : Int)) = es.any (isC (t : Int)) := by rw [any_snoc, isC_k (by omega)]; simp
        have hpar : ((abortT T u).par t).toNat = (T.par t).toNat := rfl
        rw [hold_step j' t (by omega) ht, hold_step j t (by omega) ht, hcm, hpar]
        by_cases ho : openL es (t : Int) = true
        · rw [if_pos ho]
          by_cases ho' : openL (es ++ [e]) (t : Int) = true
          · rw [if_pos ho']
          · rw [if_neg ho', open_not_com ho, if_pos rfl]
            refine ⟨fun q => (by cases congrArg Prod.snd q), fun q => ?_⟩
            exfalso
            have hta : t = a := by have := congrArg Prod.fst q; simp only at this; omega
            subst hta
            exact ho' (open_of_live j' ha h0)
        · have ho' : ¬ openL (es ++ [e]) (t : Int) = true := fun q => ho (open_of_live j (hlive t (live_of_open j' q).1) h0)
          rw [if_neg ho, if_neg ho']
          by_cases hc : es.any (isC (t : Int)) = false
          · rw [if_pos hc, if_pos hc]
          · rw [if_neg hc, if_neg hc]
            exact ih _ hlo (by omega) a ha
  have hold_ : ∀ (i : Nat) (e' : Ev), (es ++ [e])[i]? = some e' → onObj e'.k = true → es[i]? = some e' := fun i e' he' hk' => by
    by_cases hi : i < es.length
    · rwa [List.getElem?_append_left hi] at he'
    · have hie : i = es.length := by
        have := (List.getElem?_eq_some_iff.1 he').1
        simp at this
        omega
      subst hie
      simp at he'
      subst he'
      have := onObj_iff.1 hk'
      omega
  refine ⟨fun i e' he' hk' => h.rg i e' (hold_ i e' he' hk') hk', fun i e' he' hk' t' ht' a ha => ?_⟩
  have he := hold_ i e' he' hk'
  obtain ⟨t, h1, h2, h3⟩ := h.rg i e' he hk'
  have : t' = t := by omega
  subst this
  rw [hev t' h3 a ha]
  exact h.hw i e' he hk' t' ht' a (hlive a ha)

end Go.Proofs.YtfdalbmopaemgabGreatDoor

namespace Go.Proofs.YtfdalbmopaemgabGreatDoor
open Go.RowKit

/-! ### The document's words, by what lies in whom -/
theorem within_pth {es : List Ev} {T : Tr} (j : JJ es T) (a : Nat) : ∀ u, u ≤ T.n → withinG es (a : Int) 16 (u : Int) = decide (a ∈ pth T.par u) := by
  have hpo := jj_par j
  have h15 := j.n15
  intro u
  induction u using Nat.strongRecOn with
  | _ u ih =>
    intro hu
    by_cases h0 : u = 0
    · subst h0
      rw [show (((0 : Nat) : Int)) = 0 from rfl, within_zero, pth_zero, Bool.eq_iff_iff]
      simp
      omega
    · have hl := j.low u (by omega) hu
      have hp := j.par u (by omega)
      obtain ⟨p, hpp⟩ : ∃ p : Nat, parentL es (u : Int) = (p : Int) := ⟨(parentL es (u : Int)).toNat, by omega⟩
      rw [hpp] at hl hp
      rw [within_step j (a : Int) u (by omega) hu, pth_step hpo u (by omega) hu, hpp, hp, Int.toNat_natCast, ih p (by omega) (by omega), Bool.eq_iff_iff]
      by_cases e : (u : Int) = (a : Int)
      · rw [if_pos e]
        simp
        omega
      · rw [if_neg e]
        simp
        omega

theorem made_bec {e : Ev} (h : e.k = 3 ∨ e.k = 4) : madeBy e = becL e := by
  unfold madeBy becL
  rcases h with h | h
  · rw [if_pos h, if_pos h]
  · rw [if_neg (by omega), if_neg (by omega), if_pos h]

/-- An event's doing is seen by u where it lies on the way to u. -/
theorem seen_way {es : List Ev} {T : Tr} {W : Nat → List Nat} (j : JJ es T) (h : HInv es T W) {u : Nat} (hu : Live T u) {i : Nat} {e : Ev} (he : es[i]? = some e) (hk : onObj e.k = true) :
    ((holderG es 16 e.t).2 && withinG es (holderG es 16 e.t).1 16 (u : Int)) = decide (i ∈ onWay T.par W u) := by
  obtain ⟨t, ht, h1, h2⟩ := h.rg i e he hk
  have hun := live_le j hu
  rw [ht]
  have hh : holderG es 16 (t : Int) = hold es t := rfl
  rw [hh, Bool.eq_iff_iff]
  rcases hold_live j t h2 with ⟨a, ha, hla⟩ | ha
  · rw [ha]
    simp only [Bool.true_and]
    rw [within_pth j a u hun]
    simp only [decide_eq_true_eq]
    rw [onWay_mem]
    constructor
    · intro q
      exact ⟨a, q, (h.hw i e he hk t ht a hla).2 ha⟩
    · rintro ⟨c, hc, hic⟩
      have hcl := live_path j u hu c hc
      have := (h.hw i e he hk t ht c hcl).1 hic
      rw [ha] at this
      have := congrArg Prod.fst this
      simp only at this
      have : a = c := by omega
      rw [this]
      exact hc
  · rw [ha]
    simp only [Bool.false_and, Bool.false_eq_true, false_iff, decide_eq_true_eq]
    intro q
    obtain ⟨c, hc, hic⟩ := onWay_mem.1 q
    have hcl := live_path j u hu c hc
    have := (h.hw i e he hk t ht c hcl).1 hic
    rw [ha] at this
    cases congrArg Prod.snd this

theorem is_last {es : List Ev} {T : Tr} {W : Nat → List Nat} (j : JJ es T) (h : HInv es T W) (hna : ∀ e ∈ es, 0 ≤ e.a) {u : Nat} (hu : Live T u) (x : Nat) : isL es (u : Int) (x : Int) = lastW es (onWay T.par W u) x es.length := by
  have hall : ∀ k, k ≤ es.length → isG es (u : Int) (x : Int) k = lastW es (onWay T.par W u) x k := by
    intro k
    induction k with
    | zero => intro _; rfl
    | succ k ih =>
      intro hk
      have he := List.getElem?_eq_getElem (show k < es.length by omega)
      have hea := hna _ (List.getElem_mem (show k < es.length by omega))
      rw [isG, lastW, he]
      simp only
      generalize es[k] = e at he hea
      rw [ih (by omega)]
      by_cases h34 : e.k = 3 ∨ e.k = 4
      · have hob : onObj e.k = true := onObj_iff.2 (by omega)
        have hsw := seen_way j h hu he hob
        by_cases hx : e.a.toNat = x
        · have hx' : (e.a == (x : Int)) = true := by simp; omega
          have h34' : (e.k == 3 || e.k == 4) = true := by simpa using h34
          have hit : isHit es (u : Int) (x : Int) e = decide (k ∈ onWay T.par W u) := by unfold isHit; rw [h34', hx', hsw]; rfl
          rw [hit]
          by_cases hm : k ∈ onWay T.par W u
          · rw [if_pos (by simpa using hm), if_pos ⟨h34, hx, hm⟩, made_bec h34]
          · rw [if_neg (by simpa using hm), if_neg (fun q => hm q.2.2)]
        · have hx' : (e.a == (x : Int)) = false := by simp; omega
          have hit : isHit es (u : Int) (x : Int) e = false := by unfold isHit; rw [hx']; simp
          rw [hit, if_neg (by decide), if_neg (fun q => hx q.2.1)]
      · have h34' : (e.k == 3 || e.k == 4) = false := by simp; omega
        have hit : isHit es (u : Int) (x : Int) e = false := by unfold isHit; rw [h34']; rfl
        rw [hit, if_neg (by decide), if_neg (fun q => h34 q.1)]
  exact hall es.length (Nat.le_refl _)

theorem low15 {es : List Ev} {T : Tr} (j : JJ es T) : Low15 es := fun t ht => by
  have := j.open_range ht
  have := j.n15
  omega

/-- The bits of those who hold. -/
theorem bit_up {es : List Ev} {x : Int} {p : Nat × Nat} {e : Ev} {c : Nat} : (p.1.testBit c = true → (hstep es x p e).1.testBit c = true) ∧ (p.2.testBit c = true → (hstep es x p e).2.testBit c = true) := by
  unfold hstep
  split
  · split
    · exact ⟨fun q => by simp [Nat.testBit_or, q], fun q => q⟩
    · exact ⟨fun q => q, fun q => by simp [Nat.testBit_or, q]⟩
  · exact ⟨id, id⟩

theorem bit_at {es : List Ev} {x : Int} {e : Ev} {c : Nat} (q : Nat) (he : es[q]? = some e) (hob : onObj e.k = true) (hx : e.a = x) (hh : (holderG es 16 e.t).1 = (c : Int)) (hc : c ≠ 0) : ∀ k, q < k → k ≤ es.length → (e.k = 2 → (holdK es x k).1.testBit c = true) ∧ (e.k ≠ 2 → (holdK es x k).2.testBit c = true) := by
  intro k
  induction k with
  | zero => intro h; omega
  | succ k ih =>
    intro hq hk
    rw [holdK_succ es x k (by omega)]
    by_cases hqk : q < k
    · obtain ⟨i1, i2⟩ := ih hqk (by omega)
      exact ⟨fun h => bit_up.1 (i1 h), fun h => bit_up.2 (i2 h)⟩
    · have hqe : q = k := by omega
      subst hqe
      rw [List.getElem?_eq_getElem (by omega)] at he
      rw [Option.some.inj he]
      unfold hstep
      rw [if_pos ⟨hob, hx, by omega⟩, hh, Int.toNat_natCast]
      refine ⟨fun h => ?_, fun h => ?_⟩
      · rw [if_pos h]; simp [Nat.testBit_or, Nat.testBit_two_pow_self]
      · rw [if_neg h]; simp [Nat.testBit_or, Nat.testBit_two_pow_self]

theorem held_bit {es : List Ev} {T : Tr} {W : Nat → List Nat} (h : HInv es T W) (hna : ∀ e ∈ es, 0 ≤ e.a) (g : GI es es.length T W) {c x : Nat} (hc : c ≠ 0) (hl : Live T c) {q : Nat} (hq : q ∈ W c) {e : Ev} (he : es[q]? = some e) (hx : e.a.toNat = x) : (e.k = 2 → (holdersL es (x : Int)).1.testBit c = true) ∧ (e.k ≠ 2 → (holdersL es (x : Int)).2.testBit c = true) := by
  obtain ⟨hqlt, e', he', hob, _⟩ := g.pl c q hq
  rw [he] at he'
  cases he'
  obtain ⟨t, ht, h1, h2⟩ := h.rg q e he hob
  have hh := (h.hw q e he hob t ht c hl).1 hq
  have hea := hna e (List.mem_of_getElem? he)
  have := bit_at (es := es) (x := (x : Int)) (c := c) q he hob (by omega) (by rw [ht]; show (hold es t).1 = _; rw [hh]) hc es.length hqlt (Nat.le_refl _)
  unfold holdK at this
  rw [List.take_length] at this
  exact this

theorem stranger_none {es : List Ev} {t : Int} {s : Nat} (h : strangerL es t s = false) (c : Nat) (h1 : 1 ≤ c) (h2 : c ≤ 15) (hb : s.testBit c = true) : withinG es (c : Int) 16 t = true := by
  unfold strangerL at h
  rw [List.any_eq_false] at h
  have := h (c - 1) (by simp; omega)
  rw [show c - 1 + 1 = c by omega, hb] at this
  simpa using this

/-! ### What a store's events are -/
structure RInv (es : List Ev) (T : Tr) (W : Nat → List Nat) : Prop where
  s : SInv es T W
  h : HInv es T W
  na : ∀ e ∈ es, 0 ≤ e.a

theorem RInv.start : RInv [] tr0 (fun _ => []) := ⟨SInv.start, HInv.start, fun e he => by cases he⟩

theorem na_snoc {es : List Ev} (h : ∀ e ∈ es, 0 ≤ e.a) (e : Ev) (he : 0 ≤ e.a) : ∀ e' ∈ es ++ [e], 0 ≤ e'.a := fun e' h' => by
  rw [List.mem_append, List.mem_singleton] at h'
  rcases h' with h' | rfl
  · exact h e' h'
  · exact he

theorem RInv.begin_or {es : List Ev} {T : Tr} {W : Nat → List Nat} (r : RInv es T W) (up : Nat) : (beginR es (up : Int)).1 = es ∨ (Live T up ∧ T.n < 15 ∧ (beginR es (up : Int)).1 = es ++ [⟨1, ((T.n + 1 : Nat) : Int), (up : Int), 0, 0⟩] ∧ RInv (es ++ [⟨1, ((T.n + 1 : Nat) : Int), (up : Int), 0, 0⟩]) (beginT T (up : Int)) W) := by
  have j := r.s.jj
  unfold beginR
  by_cases h5 : (up : Int) ≠ 0 ∧ openL es (up : Int) = false
  · rw [if_pos h5]; exact Or.inl rfl
  · rw [if_neg h5]
    by_cases h15 : 15 ≤ countL es
    · rw [if_pos h15]; exact Or.inl rfl
    · rw [if_neg h15]
      by_cases h60 : 60 ≤ es.length
      · rw [if_pos h60]; exact Or.inl rfl
      · rw [if_neg h60]
        have hn := j.n
        have hup : (up : Int) = 0 ∨ openL es (up : Int) = true := by
          by_cases hz : (up : Int) = 0
          · exact Or.inl hz
          · cases ho : openL es (up : Int) with
            | true => exact Or.inr rfl
            | false => exact absurd ⟨hz, ho⟩ h5
        have hw : wrongL es ⟨1, ((T.n + 1 : Nat) : Int), (up : Int), 0, 0⟩ = 0 :=
          wrong_zero j (by omega) _ rfl (fun _ => ⟨by omega, by simp only; omega, hup⟩) (fun q => absurd rfl q) (fun q _ => by simp only at q; omega) (by simp [emptyL]) (fun q => by simp only at q; omega)
        have hlive : Live T up := by
          rcases hup with h | h
          · exact Or.inl (by omega)
          · exact (live_of_open j h).1
        have hs := r.s.begin_ (T.n + 1) up hw hlive
        have hj' := hs.jj
        rw [show ((countL es : Int) + 1) = ((T.n + 1 : Nat) : Int) by omega]
        exact Or.inr ⟨hlive, by omega, rfl, hs, r.h.begin_ j r.s.gi _ up rfl hj', na_snoc r.na _ (by simp only; omega)⟩

theorem RInv.end_or {es : List Ev} {T : Tr} {W : Nat → List Nat} (r : RInv es T W) (k : Int) (t : Nat) (hk : k = 5 ∨ k = 6) : (endR es k (t : Int)).1 = es ∨ (openL es (t : Int) = true ∧ (endR es k (t : Int)).1 = es ++ [⟨k, (t : Int), ((0 : Nat) : Int), 0, 0⟩] ∧ (k = 5 → childL es (t : Int) = false ∧ ∃ p : Nat, T.par t = (p : Int) ∧ RInv (es ++ [⟨5, (t : Int), ((0 : Nat) : Int), 0, 0⟩]) (commitT T t) (upd W p (W p ++ W t))) ∧ (k = 6 → RInv (es ++ [⟨6, (t : Int), ((0 : Nat) : Int), 0, 0⟩]) (abortT T t) W)) := by
  have j := r.s.jj
  unfold endR
  cases ho : openL es (t : Int) with
  | false => rw [if_pos rfl]; exact Or.inl rfl
  | true =>
    rw [if_neg (by decide)]
    by_cases h8 : k = 5 ∧ childL es (t : Int) = true
    · rw [if_pos h8]; exact Or.inl rfl
    · rw [if_neg h8]
      by_cases h60 : 60 ≤ es.length
      · rw [if_pos h60]; exact Or.inl rfl
      · rw [if_neg h60]
        have hch : k = 5 → childL es (t : Int) = false := fun q => by
          cases hc : childL es (t : Int) with
          | false => rfl
          | true => exact absurd ⟨q, hc⟩ h8
        have hw : wrongL es ⟨k, (t : Int), ((0 : Nat) : Int), 0, 0⟩ = 0 := by
          refine wrong_zero j (by omega) _ ?_ (fun q => by simp only at q; omega) (fun _ => ho) (fun q q' => by simp only at q'; omega) ?_ (fun q => hch q)
          · rcases hk with rfl | rfl <;> rfl
          · rcases hk with rfl | rfl <;> simp [emptyL]
        obtain ⟨hl, ht0⟩ := live_of_open j ho
        have htn := live_le j hl
        rcases hk with rfl | rfl
        · have hlo := jj_par j t (by omega) htn
          have h15 := j.n15
          have hpn := j.low t (by omega) htn
          have hpe := j.par t (by omega)
          obtain ⟨p, hp⟩ : ∃ p : Nat, T.par t = (p : Int) := ⟨(T.par t).toNat, by omega⟩
          have hs := r.s.commit t p hw hp (hch rfl)
          exact Or.inr ⟨rfl, rfl, fun _ => ⟨hch rfl, p, hp, hs, r.h.commit j _ t p rfl rfl ho hp hs.jj, na_snoc r.na _ (by simp)⟩, fun q => by omega⟩
        · have hs := r.s.abort t hw
          exact Or.inr ⟨rfl, rfl, fun q => by omega, fun _ => ⟨hs, r.h.abort j _ t rfl ho hs.jj, na_snoc r.na _ (by simp)⟩⟩

theorem RInv.access_or {es : List Ev} {T : Tr} {W : Nat → List Nat} (r : RInv es T W) (k : Int) (t x : Nat) (v : Int) (hk : k = 2 ∨ k = 3 ∨ k = 4) : (accessR es k (t : Int) (x : Int) v).1 = es ∨ (openL es (t : Int) = true ∧ (accessR es k (t : Int) (x : Int) v).1 = es ++ [accEv es k (t : Int) (x : Int) v] ∧ RInv (es ++ [accEv es k (t : Int) (x : Int) v]) T (upd W t (W t ++ [es.length]))) := by
  have j := r.s.jj
  unfold accessR
  cases ho : openL es (t : Int) with
  | false => rw [if_pos rfl]; exact Or.inl rfl
  | true =>
    rw [if_neg (by decide)]
    by_cases hx4 : 4 ≤ (x : Int)
    · rw [if_pos hx4]; exact Or.inl rfl
    · rw [if_neg hx4]
      cases hst : strangerL es (t : Int) (othersL es k (x : Int)) with
      | true => rw [if_pos rfl]; exact Or.inl rfl
      | false =>
        rw [if_neg (by decide)]
        by_cases h60 : 60 ≤ es.length
        · rw [if_pos h60]; exact Or.inl rfl
        · rw [if_neg h60]
          obtain ⟨hl, ht0⟩ := live_of_open j ho
          have htn := live_le j hl
          have hin : ∀ c, c ≠ 0 → Live T c → (othersL es k (x : Int)).testBit c = true → c ∈ pth T.par t := fun c hc hcl hb => by
            have hcr : 1 ≤ c ∧ c ≤ 15 := by
              rcases hcl with h | h
              · exact absurd h hc
              · exact ⟨h.1, h.2.1⟩
            have := stranger_none hst c hcr.1 hcr.2 hb
            rw [within_pth j c t htn] at this
            simpa using this
          have hs1 := is_last j r.h r.na hl x
          have hw : wrongL es ⟨k, (t : Int), (x : Int), if k = 2 then 0 else v, if k = 3 then 0 else isL es (t : Int) (x : Int)⟩ = 0 := by
            refine wrong_zero j (by omega) _ ?_ (fun q => by simp only at q; omega) (fun _ => ho) (fun _ _ => by simp only; omega) ?_ (fun q => by simp only at q; omega)
            · rcases hk with rfl | rfl | rfl <;> rfl
            · rcases hk with rfl | rfl | rfl <;> simp [emptyL]
          have hobj : onObj k = true := onObj_iff.2 (by omega)
          have hs := r.s.access k t x _ _ hk hw (fun hk2 c hc hcl ⟨q, hq, e, he, hxe⟩ => hin c hc hcl (by
              have hb := held_bit r.h r.na r.s.gi hc hcl hq he hxe
              unfold othersL
              rw [if_neg hk2, Nat.testBit_or]
              by_cases h2 : e.k = 2
              · rw [hb.1 h2]; simp
              · rw [hb.2 h2]; simp))
            (fun hk2 c hc hcl ⟨q, hq, e, he, hxe, hne⟩ => hin c hc hcl (by
              have hb := held_bit r.h r.na r.s.gi hc hcl hq he hxe
              unfold othersL
              rw [if_pos hk2]
              exact hb.2 hne))
            (fun hk3 => by rw [if_neg hk3]; exact hs1)
          exact Or.inr ⟨rfl, rfl, hs, r.h.access j r.s.gi _ t rfl hobj ho, na_snoc r.na _ (show (0 : Int) ≤ (x : Int) by omega)⟩

theorem RInv.begin_ {es : List Ev} {T : Tr} {W : Nat → List Nat} (r : RInv es T W) (up : Nat) : ∃ T' W', RInv (beginR es (up : Int)).1 T' W' := by
  rcases r.begin_or up with h | ⟨_, _, h, hr⟩
  · rw [h]; exact ⟨T, W, r⟩
  · rw [h]; exact ⟨_, _, hr⟩

theorem RInv.end_ {es : List Ev} {T : Tr} {W : Nat → List Nat} (r : RInv es T W) (k : Int) (t : Nat) (hk : k = 5 ∨ k = 6) : ∃ T' W', RInv (endR es k (t : Int)).1 T' W' := by
  rcases r.end_or k t hk with h | ⟨_, h, h5, h6⟩
  · rw [h]; exact ⟨T, W, r⟩
  · rw [h]
    rcases hk with rfl | rfl
    · obtain ⟨_, p, _, hr⟩ := h5 rfl
      exact ⟨_, _, hr⟩
    · exact ⟨_, _, h6 rfl⟩

theorem RInv.access {es : List Ev} {T : Tr} {W : Nat → List Nat} (r : RInv es T W) (k : Int) (t x : Nat) (v : Int) (hk : k = 2 ∨ k = 3 ∨ k = 4) : ∃ T' W', RInv (accessR es k (t : Int) (x : Int) v).1 T' W' := by
  rcases r.access_or k t x v hk with h | ⟨_, h, hr⟩
  · rw [h]; exact ⟨T, W, r⟩
  · rw [h]; exact ⟨_, _, hr⟩

/-- The top statement, of events alone. -/
theorem RInv.serial {es : List Ev} {T : Tr} {W : Nat → List Nat} (r : RInv es T W) : checkG [] es = (0, 0) ∧ ∃ V, replayG es = (-1, V, 0) ∧ ∀ x : Nat, V x = isL es 0 (x : Int) := by
  obtain ⟨h1, V, h2, h3⟩ := r.s.serial
  refine ⟨h1, V, h2, fun x => ?_⟩
  have := is_last r.s.jj r.h r.na (u := 0) (Or.inl rfl) x
  rw [onWay_zero] at this
  rw [h3 x, ← this]
  rfl

end Go.Proofs.YtfdalbmopaemgabGreatDoor

namespace Go.Proofs.YtfdalbmopaemgabGreatDoor
open Go.RowKit

/-! ### The bits say who holds -/
theorem bitK_iff {es : List Ev} (hlow : Low15 es) (x : Int) (c : Nat) (hc : c ≠ 0) : ∀ k, k ≤ es.length →
    ((holdK es x k).1.testBit c = true ↔ ∃ (q : Nat) (e : Ev), q < k ∧ es[q]? = some e ∧ onObj e.k = true ∧ e.k = 2 ∧ e.a = x ∧ (holderG es 16 e.t).1 = (c : Int)) ∧
    ((holdK es x k).2.testBit c = true ↔ ∃ (q : Nat) (e : Ev), q < k ∧ es[q]? = some e ∧ onObj e.k = true ∧ e.k ≠ 2 ∧ e.a = x ∧ (holderG es 16 e.t).1 = (c : Int))
  | 0, _ => by
    unfold holdK
    simp
  | k + 1, hk => by
    have hc' : (c : Int) ≠ 0 := by omega
    obtain ⟨i1, i2⟩ := bitK_iff hlow x c hc k (by omega)
    have he := List.getElem?_eq_getElem (show k < es.length by omega)
    rw [holdK_succ es x k (by omega)]
    generalize es[k] = e at he
    generalize holdK es x k = p at i1 i2
    have hl := holder_low hlow 16 e.t
    have old : ∀ (P : Ev → Prop), (∃ (q : Nat) (e' : Ev), q < k + 1 ∧ es[q]? = some e' ∧ P e') ↔ ((∃ (q : Nat) (e' : Ev), q < k ∧ es[q]? = some e' ∧ P e') ∨ P e) := fun P => by
      constructor
      · rintro ⟨q, e', h1, h2, h3⟩
        by_cases hq : q < k
        · exact Or.inl ⟨q, e', hq, h2, h3⟩
        · have : q = k := by omega
          subst this
          rw [he] at h2
          cases h2
          exact Or.inr h3
      · rintro (⟨q, e', h1, h2, h3⟩ | h)
        · exact ⟨q, e', by omega, h2, h3⟩
        · exact ⟨k, e, by omega, he, h⟩
    rw [old (fun e' => onObj e'.k = true ∧ e'.k = 2 ∧ e'.a = x ∧ (holderG es 16 e'.t).1 = (c : Int)), old (fun e' => onObj e'.k = true ∧ e'.k ≠ 2 ∧ e'.a = x ∧ (holderG es 16 e'.t).1 = (c : Int)), ← i1, ← i2]
    unfold hstep
    by_cases h : onObj e.k = true ∧ e.a = x ∧ (holderG es 16 e.t).1 ≠ 0
    · rw [if_pos h]
      have hb : (2 ^ (holderG es 16 e.t).1.toNat : Nat).testBit c = true ↔ (holderG es 16 e.t).1 = (c : Int) := by
        rw [Nat.testBit_two_pow]
        simp
        omega
      by_cases h2 : e.k = 2
      · rw [if_pos h2]
        simp only [Nat.testBit_or, Bool.or_eq_true, hb]
        exact ⟨⟨fun q => q.imp id (fun q => ⟨h.1, h2, h.2.1, q⟩), fun q => q.imp id (fun q => q.2.2.2)⟩, ⟨Or.inl, fun q => q.elim id (fun q => absurd h2 q.2.1)⟩⟩
      · rw [if_neg h2]
        simp only [Nat.testBit_or, Bool.or_eq_true, hb]
        exact ⟨⟨Or.inl, fun q => q.elim id (fun q => absurd q.2.1 h2)⟩, ⟨fun q => q.imp id (fun q => ⟨h.1, h2, h.2.1, q⟩), fun q => q.imp id (fun q => q.2.2.2)⟩⟩
    · rw [if_neg h]
      exact ⟨⟨Or.inl, fun q => q.elim id (fun q => absurd ⟨q.1, q.2.2.1, by rw [q.2.2.2]; exact hc'⟩ h)⟩, ⟨Or.inl, fun q => q.elim id (fun q => absurd ⟨q.1, q.2.2.1, by rw [q.2.2.2]; exact hc'⟩ h)⟩⟩

theorem bit0 {es : List Ev} (hlow : Low15 es) (x : Int) : ∀ k, k ≤ es.length → (holdK es x k).1.testBit 0 = false ∧ (holdK es x k).2.testBit 0 = false
  | 0, _ => by unfold holdK; simp
  | k + 1, hk => by
    obtain ⟨i1, i2⟩ := bit0 hlow x k (by omega)
    rw [holdK_succ es x k (by omega)]
    generalize es[k] = e
    have hl := holder_low hlow 16 e.t
    unfold hstep
    split
    · rename_i h
      have hb : (2 ^ (holderG es 16 e.t).1.toNat : Nat).testBit 0 = false := by
        rw [Nat.testBit_two_pow]
        simp
        omega
      split
      · exact ⟨by rw [Nat.testBit_or, i1, hb]; rfl, i2⟩
      · exact ⟨i1, by rw [Nat.testBit_or, i2, hb]; rfl⟩
    · exact ⟨i1, i2⟩

theorem holdersL_K (es : List Ev) (x : Int) : holdersL es x = holdK es x es.length := by unfold holdersL holdK; rw [List.take_length]

/-- Whoever holds an object has an event of it. -/
theorem held_iff {es : List Ev} {T : Tr} {W : Nat → List Nat} (r : RInv es T W) (x : Int) (c : Nat) (hc : c ≠ 0) :
    ((holdersL es x).1.testBit c = true ↔ Live T c ∧ ∃ q ∈ W c, ∃ e : Ev, es[q]? = some e ∧ e.k = 2 ∧ e.a = x) ∧ ((holdersL es x).2.testBit c = true ↔ Live T c ∧ ∃ q ∈ W c, ∃ e : Ev, es[q]? = some e ∧ e.k ≠ 2 ∧ e.a = x) := by
  have j := r.s.jj
  have hc' : (c : Int) ≠ 0 := by omega
  obtain ⟨b1, b2⟩ := bitK_iff (low15 j) x c hc es.length (Nat.le_refl _)
  rw [holdersL_K, b1, b2]
  have key : ∀ (q : Nat) (e : Ev), es[q]? = some e → onObj e.k = true → ((holderG es 16 e.t).1 = (c : Int) ↔ Live T c ∧ q ∈ W c) := fun q e he hob => by
    obtain ⟨t, ht, h1, h2⟩ := r.h.rg q e he hob
    rw [ht]
    show (hold es t).1 = _ ↔ _
    rcases hold_live j t h2 with ⟨a, ha, hla⟩ | ha
    · constructor
      · intro h
        rw [ha] at h
        have : a = c := Int.ofNat_inj.1 h
        subst this
        exact ⟨hla, (r.h.hw q e he hob t ht a hla).2 ha⟩
      · rintro ⟨hl, hq⟩
        rw [(r.h.hw q e he hob t ht c hl).1 hq]
    · constructor
      · intro h
        rw [ha] at h
        exact absurd h.symm hc'
      · rintro ⟨hl, hq⟩
        rw [(r.h.hw q e he hob t ht c hl).1 hq]
  constructor
  · constructor
    · rintro ⟨q, e, h1, h2, h3, h4, h5, h6⟩
      obtain ⟨k1, k2⟩ := (key q e h2 h3).1 h6
      exact ⟨k1, q, k2, e, h2, h4, h5⟩
    · rintro ⟨hl, q, hq, e, h2, h4, h5⟩
      obtain ⟨h1, e', h2', h3, _⟩ := r.s.gi.pl c q hq
      rw [h2] at h2'
      cases h2'
      exact ⟨q, e, h1, h2, h3, h4, h5, (key q e h2 h3).2 ⟨hl, hq⟩⟩
  · constructor
    · rintro ⟨q, e, h1, h2, h3, h4, h5, h6⟩
      obtain ⟨k1, k2⟩ := (key q e h2 h3).1 h6
      exact ⟨k1, q, k2, e, h2, h4, h5⟩
    · rintro ⟨hl, q, hq, e, h2, h4, h5⟩
      obtain ⟨h1, e', h2', h3, _⟩ := r.s.gi.pl c q hq
      rw [h2] at h2'
      cases h2'
      exact ⟨q, e, h1, h2, h3, h4, h5, (key q e h2 h3).2 ⟨hl, hq⟩⟩

/-- Apart, of events alone. -/
theorem RInv.apart {es : List Ev} {T : Tr} {W : Nat → List Nat} (r : RInv es T W) (x : Nat) (u t : Nat) (hu : u ≠ 0) (ht : t ≠ 0) (hwu : (holdersL es (x : Int)).2.testBit u = true) (hht : (holdersL es (x : Int)).1.testBit t = true ∨ (holdersL es (x : Int)).2.testBit t = true) :
    Live T u ∧ Live T t ∧ (u ∈ pth T.par t ∨ t ∈ pth T.par u) := by
  obtain ⟨hlu, q, hq, e, he, hk, hx⟩ := (held_iff r (x : Int) u hu).2.1 hwu
  have : Live T t ∧ ∃ q' ∈ W t, ∃ e' : Ev, es[q']? = some e' ∧ e'.a = (x : Int) := by
    rcases hht with h | h
    · obtain ⟨h1, q', h2, e', h3, _, h5⟩ := (held_iff r (x : Int) t ht).1.1 h
      exact ⟨h1, q', h2, e', h3, h5⟩
    · obtain ⟨h1, q', h2, e', h3, _, h5⟩ := (held_iff r (x : Int) t ht).2.1 h
      exact ⟨h1, q', h2, e', h3, h5⟩
  obtain ⟨hlt, q', hq', e', he', hx'⟩ := this
  exact ⟨hlu, hlt, r.s.ap u t hu ht hlu hlt q hq q' hq' x ⟨e, he, by omega, hk⟩ ⟨e', he', by omega⟩⟩

/-! ### Where the same lies in the same, the same is held, and objects are the same -/
theorem lastW_more {es : List Ev} {L : List Nat} {x : Nat} (rest : List Ev) (h : ∀ p ∈ L, p < es.length) : ∀ m, lastW (es ++ rest) L x (es.length + m) = lastW es L x es.length
  | 0 => lastW_ext rest es.length (Nat.le_refl _)
  | m + 1 => by
    rw [show es.length + (m + 1) = (es.length + m) + 1 by omega, lastW]
    cases (es ++ rest)[es.length + m]? with
    | none => exact lastW_more rest h m
    | some e =>
      simp only
      rw [if_neg (fun q => by have := h _ q.2.2; omega)]
      exact lastW_more rest h m

theorem same_trace {es0 rest : List Ev} {T0 T : Tr} {W0 W : Nat → List Nat} (r0 : RInv es0 T0 W0) (r : RInv (es0 ++ rest) T W) (hl : ∀ a, Live T a ↔ Live T0 a) (hw : ∀ a, Live T0 a → W a = W0 a) :
    (∀ x : Int, holdersL (es0 ++ rest) x = holdersL es0 x) ∧ ∀ x : Nat, isL (es0 ++ rest) 0 (x : Int) = isL es0 0 (x : Int) := by
  have hget : ∀ c, ∀ q ∈ W0 c, (es0 ++ rest)[q]? = es0[q]? := fun c q hq => List.getElem?_append_left (r0.s.gi.pl c q hq).lt
  constructor
  · intro x
    have hbits : ∀ c, (holdersL (es0 ++ rest) x).1.testBit c = (holdersL es0 x).1.testBit c ∧ (holdersL (es0 ++ rest) x).2.testBit c = (holdersL es0 x).2.testBit c := by
      intro c
      by_cases hc : c = 0
      · subst hc
        have b1 := bit0 (low15 r.s.jj) x _ (Nat.le_refl _)
        have b2 := bit0 (low15 r0.s.jj) x _ (Nat.le_refl _)
        rw [holdersL_K, holdersL_K, b1.1, b1.2, b2.1, b2.2]
        exact ⟨rfl, rfl⟩
      · obtain ⟨i1, i2⟩ := held_iff r x c hc
        obtain ⟨k1, k2⟩ := held_iff r0 x c hc
        constructor
        · rw [Bool.eq_iff_iff, i1, k1, hl c]
          refine and_congr_right fun hlc => ?_
          rw [hw c hlc]
          exact ⟨fun ⟨q, hq, e, he, h⟩ => ⟨q, hq, e, by rw [← hget c q hq]; exact he, h⟩, fun ⟨q, hq, e, he, h⟩ => ⟨q, hq, e, by rw [hget c q hq]; exact he, h⟩⟩
        · rw [Bool.eq_iff_iff, i2, k2, hl c]
          refine and_congr_right fun hlc => ?_
          rw [hw c hlc]
          exact ⟨fun ⟨q, hq, e, he, h⟩ => ⟨q, hq, e, by rw [← hget c q hq]; exact he, h⟩, fun ⟨q, hq, e, he, h⟩ => ⟨q, hq, e, by rw [hget c q hq]; exact he, h⟩⟩
    exact Prod.ext (Nat.eq_of_testBit_eq fun c => (hbits c).1) (Nat.eq_of_testBit_eq fun c => (hbits c).2)
  · intro x
    have h1 := is_last r.s.jj r.h r.na (u := 0) (Or.inl rfl) x
    have h2 := is_last r0.s.jj r0.h r0.na (u := 0) (Or.inl rfl) x
    rw [onWay_zero] at h1 h2
    rw [hw 0 (Or.inl rfl), List.length_append, lastW_more rest (fun p hp => (r0.s.gi.pl 0 p hp).lt)] at h1
    exact h1.trans h2.symm

/-! ### What is done in a transaction c, ahead of its abort -/
structure UInv (es0 : List Ev) (T0 : Tr) (W0 : Nat → List Nat) (c : Nat) (es : List Ev) (T : Tr) (W : Nat → List Nat) : Prop where
  r : RInv es T W
  pre : ∃ rest, es = es0 ++ rest
  oldl : ∀ a, Live T0 a → Live T a
  oldw : ∀ a, Live T0 a → W a = W0 a
  olow : ∀ a, Live T0 a → a < c
  sub : ∀ u, Live T u → Live T0 u ∨ c ∈ pth T.par u
  cl : Live T c

theorem UInv.below {es0 es : List Ev} {T0 T : Tr} {W0 W : Nat → List Nat} {c : Nat} (u : UInv es0 T0 W0 c es T W) {t : Nat} (ht : t ≤ T.n) (hc : c ∈ pth T.par t) : ¬ Live T0 t := fun h => by
  have := pth_le (jj_par u.r.s.jj) t ht c hc
  have := u.olow t h
  omega

theorem UInv.access {es0 es : List Ev} {T0 T : Tr} {W0 W : Nat → List Nat} {c : Nat} (u : UInv es0 T0 W0 c es T W) (k : Int) (t x : Nat) (v : Int) (hk : k = 2 ∨ k = 3 ∨ k = 4) (ht : t ≤ T.n) (hc : c ∈ pth T.par t) : ∃ T' W', UInv es0 T0 W0 c (accessR es k (t : Int) (x : Int) v).1 T' W' := by
  rcases u.r.access_or k t x v hk with h | ⟨_, h, hr⟩
  · rw [h]; exact ⟨T, W, u⟩
  · rw [h]
    obtain ⟨rest, hp⟩ := u.pre
    refine ⟨_, _, hr, ⟨rest ++ [accEv es k (t : Int) (x : Int) v], by rw [← List.append_assoc, ← hp]⟩, u.oldl, fun a ha => ?_, u.olow, u.sub, u.cl⟩
    have : a ≠ t := fun e => u.below ht hc (by rw [← e]; exact ha)
    unfold upd
    rw [if_neg this]
    exact u.oldw a ha

theorem UInv.begin_ {es0 es : List Ev} {T0 T : Tr} {W0 W : Nat → List Nat} {c : Nat} (u : UInv es0 T0 W0 c es T W) (up : Nat) (ht : up ≤ T.n) (hc : c ∈ pth T.par up) : ∃ T' W', UInv es0 T0 W0 c (beginR es (up : Int)).1 T' W' := by
  rcases u.r.begin_or up with h | ⟨hlu, hn, h, hr⟩
  · rw [h]; exact ⟨T, W, u⟩
  · rw [h]
    have j := u.r.s.jj
    have hpo := jj_par j
    have hpo' := jj_par hr.s.jj
    obtain ⟨rest, hp⟩ := u.pre
    have hpth : ∀ a, a ≤ T.n → pth (beginT T (up : Int)).par a = pth T.par a := fun a ha => pth_same hpo (fun d _ h2 => by simp only [beginT, upd]; rw [if_neg (by omega)]) a ha
    have hlv : ∀ a, Live T a → Live (beginT T (up : Int)) a := fun a ha => by
      have hle := live_le j ha
      rcases ha with h | ⟨h1, h2, h3⟩
      · exact Or.inl h
      · exact Or.inr ⟨h1, h2, by simp only [beginT, upd]; rw [if_neg (by omega)]; exact h3⟩
    refine ⟨_, _, hr, ⟨rest ++ [⟨1, ((T.n + 1 : Nat) : Int), (up : Int), 0, 0⟩], by rw [← List.append_assoc, ← hp]⟩, fun a ha => hlv a (u.oldl a ha), u.oldw, u.olow, fun w hw => ?_, hlv c u.cl⟩
    by_cases e : w = T.n + 1
    · right
      subst e
      have hp1 : ((beginT T (up : Int)).par (T.n + 1)).toNat = up := by simp [beginT, upd]
      rw [pth_step hpo' (T.n + 1) (by omega) (Nat.le_refl _), hp1, List.mem_append, hpth up ht]
      exact Or.inl hc
    · have hw' : Live T w := by
        rcases hw with h | ⟨h1, h2, h3⟩
        · exact Or.inl h
        · simp only [beginT, upd] at h3
          rw [if_neg e] at h3
          exact Or.inr ⟨h1, h2, h3⟩
      rw [hpth w (live_le j hw')]
      exact u.sub w hw'

/-- Who lives behind an abort: all but those whose way leads over t. -/
theorem live_abort {es : List Ev} {T : Tr} (j : JJ es T) (t : Nat) (ho : openL es (t : Int) = true) (a : Nat) : Live (abortT T t) a ↔ Live T a ∧ t ∉ pth T.par a := by
  have h15 := j.n15
  obtain ⟨hlt, ht0⟩ := live_of_open j ho
  by_cases h0 : a = 0
  · subst h0
    refine ⟨fun _ => ⟨Or.inl rfl, by rw [pth_zero]; simp; omega⟩, fun _ => Or.inl rfl⟩
  · have hop : ∀ b, b ≤ 15 → (abortT T t).op b = (openL es (b : Int) && !withinG es (t : Int) 16 (b : Int)) := fun b hb => by
      simp only [abortT]
      rw [ab_main j t ho 15 (by omega) b hb, if_pos hb]
    constructor
    · rintro (h | ⟨h1, h2, h3⟩)
      · exact absurd h h0
      · rw [hop a h2] at h3
        have ha : openL es (a : Int) = true ∧ withinG es (t : Int) 16 (a : Int) = false := by
          revert h3
          cases openL es (a : Int) <;> cases withinG es (t : Int) 16 (a : Int) <;> simp
        have hla := (live_of_open j ha.1).1
        refine ⟨hla, ?_⟩
        have := ha.2
        rw [within_pth j t a (live_le j hla)] at this
        simpa using this
    · rintro ⟨hl, hn⟩
      have hla := live_le j hl
      have := open_of_live j hl h0
      refine Or.inr ⟨by omega, by omega, ?_⟩
      rw [hop a (by omega), this, within_pth j t a hla, decide_eq_false hn]
      rfl

theorem UInv.end_ {es0 es : List Ev} {T0 T : Tr} {W0 W : Nat → List Nat} {c : Nat} (u : UInv es0 T0 W0 c es T W) (k : Int) (t : Nat) (hk : k = 5 ∨ k = 6) (ht : t ≤ T.n) (hc : c ∈ pth T.par t) (htc : t ≠ c) : ∃ T' W', UInv es0 T0 W0 c (endR es k (t : Int)).1 T' W' := by
  have j := u.r.s.jj
  have hpo := jj_par j
  rcases u.r.end_or k t hk with h | ⟨ho, h, h5, h6⟩
  · rw [h]; exact ⟨T, W, u⟩
  · rw [h]
    obtain ⟨rest, hp⟩ := u.pre
    have hpre : ∀ e : Ev, ∃ rest', es ++ [e] = es0 ++ rest' := fun e => ⟨rest ++ [e], by rw [← List.append_assoc, ← hp]⟩
    obtain ⟨hlt, ht0⟩ := live_of_open j ho
    have hct : c < t := Nat.lt_of_le_of_ne (pth_le hpo t ht c hc) (Ne.symm htc)
    rcases hk with rfl | rfl
    · obtain ⟨_, p, hpp, hr⟩ := h5 rfl
      have hcp : c ∈ pth T.par p := by
        rw [pth_step hpo t (by omega) ht, hpp, List.mem_append, List.mem_singleton] at hc
        rcases hc with hc | hc
        · simpa using hc
        · omega
      have hpn : p ≤ T.n := by
        have := hpo t (by omega) ht
        rw [hpp] at this
        simp at this
        omega
      have hlv : ∀ a, Live (commitT T t) a ↔ Live T a ∧ a ≠ t := fun a => by
        constructor
        · rintro (h | ⟨h1, h2, h3⟩)
          · exact ⟨Or.inl h, by omega⟩
          · simp only [commitT, upd] at h3
            by_cases e : a = t
            · rw [if_pos e] at h3; cases h3
            · rw [if_neg e] at h3; exact ⟨Or.inr ⟨h1, h2, h3⟩, e⟩
        · rintro ⟨h | ⟨h1, h2, h3⟩, e⟩
          · exact Or.inl h
          · exact Or.inr ⟨h1, h2, by simp only [commitT, upd]; rw [if_neg e]; exact h3⟩
      refine ⟨_, _, hr, hpre _, fun a ha => (hlv a).2 ⟨u.oldl a ha, fun e => u.below ht hc (by rw [← e]; exact ha)⟩, fun a ha => ?_, u.olow, fun w hw => u.sub w ((hlv w).1 hw).1, (hlv c).2 ⟨u.cl, Ne.symm htc⟩⟩
      have : a ≠ p := fun e => u.below hpn hcp (by rw [← e]; exact ha)
      unfold upd
      rw [if_neg this]
      exact u.oldw a ha
    · have hr := h6 rfl
      have hno : ∀ a, a ≤ T.n → a < t → t ∉ pth T.par a := fun a ha hat q => by
        have := pth_le hpo a ha t q
        omega
      refine ⟨_, _, hr, hpre _, fun a ha => (live_abort j t ho a).2 ⟨u.oldl a ha, ?_⟩, u.oldw, u.olow, fun w hw => u.sub w ((live_abort j t ho w).1 hw).1, (live_abort j t ho c).2 ⟨u.cl, hno c (live_le j u.cl) hct⟩⟩
      have h1 := u.olow a ha
      exact hno a (live_le j (u.oldl a ha)) (by omega)

/-- The transaction is begun. -/
theorem UInv.start {es : List Ev} {T : Tr} {W : Nat → List Nat} (p : Nat) (hr0 : RInv es T W) (hr : RInv (es ++ [⟨1, ((T.n + 1 : Nat) : Int), (p : Int), 0, 0⟩]) (beginT T (p : Int)) W) (hn : T.n < 15) : UInv es T W (T.n + 1) (es ++ [⟨1, ((T.n + 1 : Nat) : Int), (p : Int), 0, 0⟩]) (beginT T (p : Int)) W := by
  have j := hr0.s.jj
  have hlv : ∀ a, Live T a → Live (beginT T (p : Int)) a := fun a ha => by
    have hle := live_le j ha
    rcases ha with h | ⟨h1, h2, h3⟩
    · exact Or.inl h
    · exact Or.inr ⟨h1, h2, by simp only [beginT, upd]; rw [if_neg (by omega)]; exact h3⟩
  refine ⟨hr, ⟨_, rfl⟩, hlv, fun _ _ => rfl, fun a ha => by have := live_le j ha; omega, fun w hw => ?_, Or.inr ⟨by omega, by omega, by simp [beginT, upd]⟩⟩
  by_cases e : w = T.n + 1
  · right
    subst e
    exact pth_self (jj_par hr.s.jj) _ (Nat.le_refl _)
  · left
    rcases hw with h | ⟨h1, h2, h3⟩
    · exact Or.inl h
    · simp only [beginT, upd] at h3
      rw [if_neg e] at h3
      exact Or.inr ⟨h1, h2, h3⟩

/-- Undone, of events alone: behind the abort all is as ahead of the begin. -/
theorem UInv.undone {es0 es : List Ev} {T0 T : Tr} {W0 W : Nat → List Nat} {c : Nat} (r0 : RInv es0 T0 W0) (u : UInv es0 T0 W0 c es T W) (hl : es.length < 60) :
    (endR es 6 (c : Int)).2 = 0 ∧ (∀ x : Int, holdersL (endR es 6 (c : Int)).1 x = holdersL es0 x) ∧ ∀ x : Nat, isL (endR es 6 (c : Int)).1 0 (x : Int) = isL es0 0 (x : Int) := by
  have j := u.r.s.jj
  have hpo := jj_par j
  have hc0 : c ≠ 0 := fun e => by have := u.olow 0 (Or.inl rfl); omega
  have ho := open_of_live j u.cl hc0
  have hend : endR es 6 (c : Int) = (es ++ [⟨6, (c : Int), 0, 0, 0⟩], 0) := by
    unfold endR
    rw [if_neg (by rw [ho]; decide), if_neg (fun q => by omega), if_neg (by omega)]
  rcases u.r.end_or 6 c (Or.inr rfl) with h | ⟨_, h, _, h6⟩
  · rw [hend] at h
    have := congrArg List.length h
    simp at this
  · have hr := h6 rfl
    obtain ⟨rest, hp⟩ := u.pre
    have hlive : ∀ a, Live (abortT T c) a ↔ Live T0 a := fun a => by
      rw [live_abort j c ho a]
      constructor
      · rintro ⟨h1, h2⟩
        rcases u.sub a h1 with h3 | h3
        · exact h3
        · exact absurd h3 h2
      · intro h1
        have hla := u.oldl a h1
        refine ⟨hla, fun q => ?_⟩
        have := pth_le hpo a (live_le j hla) c q
        have := u.olow a h1
        omega
    rw [hend]
    refine ⟨rfl, ?_⟩
    have hr' : RInv (es0 ++ (rest ++ [⟨6, (c : Int), 0, 0, 0⟩])) (abortT T c) W := by rw [← List.append_assoc, ← hp]; exact hr
    have := same_trace r0 hr' hlive u.oldw
    rw [← List.append_assoc, ← hp] at this
    exact this

end Go.Proofs.YtfdalbmopaemgabGreatDoor
