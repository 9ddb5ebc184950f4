import Derived.Test.YtfdalbmopaemgabZR12
namespace Go.Proofs.Ytfdalbmopaemgab
open Go.RowKit

/-! ### The way from 0 down to a transaction -/
def pathG (par : Nat → Int) : Nat → Nat → List Nat
  | 0, _ => [0]
  | f + 1, a => if a = 0 then [0] else pathG par f (par a).toNat ++ [a]

def pth (par : Nat → Int) (a : Nat) : List Nat := pathG par a a

def ParOk (par : Nat → Int) (n : Nat) : Prop := ∀ c, 1 ≤ c → c ≤ n → (par c).toNat < c

theorem path_fuel {par : Nat → Int} {n : Nat} (h : ParOk par n) : ∀ c, c ≤ n → ∀ f g, c ≤ f → c ≤ g → pathG par f c = pathG par g c := by
  intro c
  induction c using Nat.strongRecOn with
  | _ c ih =>
    intro hc f g hf hg
    by_cases h0 : c = 0
    · subst h0
      cases f <;> cases g <;> simp [pathG]
    · obtain ⟨f', rfl⟩ : ∃ f', f = f' + 1 := ⟨f - 1, by omega⟩
      obtain ⟨g', rfl⟩ : ∃ g', g = g' + 1 := ⟨g - 1, by omega⟩
      have hp := h c (by omega) hc
      rw [pathG, pathG, if_neg h0, if_neg h0, ih _ hp (by omega) f' g' (by omega) (by omega)]

theorem pth_zero (par : Nat → Int) : pth par 0 = [0] := rfl

theorem pth_step {par : Nat → Int} {n : Nat} (h : ParOk par n) (a : Nat) (h1 : 1 ≤ a) (h2 : a ≤ n) : pth par a = pth par (par a).toNat ++ [a] := by
  obtain ⟨f, rfl⟩ : ∃ f, a = f + 1 := ⟨a - 1, by omega⟩
  have hp := h (f + 1) h1 h2
  unfold pth
  rw [pathG, if_neg (by omega), path_fuel h _ (by omega) f (par (f + 1)).toNat (by omega) (Nat.le_refl _)]

theorem pth_self {par : Nat → Int} {n : Nat} (h : ParOk par n) (a : Nat) (h2 : a ≤ n) : a ∈ pth par a := by
  by_cases h0 : a = 0
  · subst h0; simp [pth_zero]
  · rw [pth_step h a (by omega) h2]; simp

theorem pth_le {par : Nat → Int} {n : Nat} (h : ParOk par n) : ∀ a, a ≤ n → ∀ b ∈ pth par a, b ≤ a := by
  intro a
  induction a using Nat.strongRecOn with
  | _ a ih =>
    intro ha b hb
    by_cases h0 : a = 0
    · subst h0; simp [pth_zero] at hb; omega
    · rw [pth_step h a (by omega) ha, List.mem_append, List.mem_singleton] at hb
      have hp := h a (by omega) ha
      rcases hb with hb | hb
      · have := ih _ hp (by omega) b hb; omega
      · omega

theorem pth_has0 {par : Nat → Int} {n : Nat} (h : ParOk par n) : ∀ a, a ≤ n → 0 ∈ pth par a := by
  intro a
  induction a using Nat.strongRecOn with
  | _ a ih =>
    intro ha
    by_cases h0 : a = 0
    · subst h0; simp [pth_zero]
    · rw [pth_step h a (by omega) ha, List.mem_append]
      exact Or.inl (ih _ (h a (by omega) ha) (by have := h a (by omega) ha; omega))

/-- Whoever stands on the way cuts it in two. -/
theorem pth_cut {par : Nat → Int} {n : Nat} (h : ParOk par n) (b : Nat) : ∀ a, a ≤ n → b ∈ pth par a → ∃ r, pth par a = pth par b ++ r ∧ ∀ c ∈ r, b < c ∧ c ≤ a ∧ b ∈ pth par c ∧ c ∈ pth par a := by
  intro a
  induction a using Nat.strongRecOn with
  | _ a ih =>
    intro ha hb
    by_cases hab : b = a
    · subst hab
      exact ⟨[], by simp, fun c hc => by cases hc⟩
    · by_cases h0 : a = 0
      · subst h0; simp [pth_zero] at hb; omega
      · have hst := pth_step h a (by omega) ha
        have hp := h a (by omega) ha
        have hb0 := hb
        rw [hst, List.mem_append, List.mem_singleton] at hb
        rcases hb with hb | hb
        · obtain ⟨r, hr, hc⟩ := ih _ hp (by omega) hb
          have hle := pth_le h _ (by omega) b hb
          refine ⟨r ++ [a], by rw [hst, hr, List.append_assoc], fun c hcm => ?_⟩
          rw [List.mem_append, List.mem_singleton] at hcm
          rcases hcm with hcm | rfl
          · obtain ⟨c1, c2, c3, c4⟩ := hc c hcm
            exact ⟨c1, by omega, c3, by rw [hst, List.mem_append]; exact Or.inl c4⟩
          · exact ⟨by omega, Nat.le_refl _, hb0, pth_self h c ha⟩
        · exact absurd hb hab

theorem pth_trans {par : Nat → Int} {n : Nat} (h : ParOk par n) {a b c : Nat} (ha : a ≤ n) (hb : b ∈ pth par a) (hc : c ∈ pth par b) : c ∈ pth par a := by
  obtain ⟨r, hr, _⟩ := pth_cut h b a ha hb
  rw [hr, List.mem_append]
  exact Or.inl hc

/-- A way is as it was where the parents on it are. -/
theorem path_same {par par' : Nat → Int} {n : Nat} (h : ParOk par n) (hs : ∀ c, 1 ≤ c → c ≤ n → par' c = par c) : ∀ f c, c ≤ n → pathG par' f c = pathG par f c
  | 0, c, _ => rfl
  | f + 1, c, hc => by
    rw [pathG, pathG]
    by_cases h0 : c = 0
    · rw [if_pos h0, if_pos h0]
    · rw [if_neg h0, if_neg h0, hs c (by omega) hc, path_same h hs f _ (by have := h c (by omega) hc; omega)]

theorem pth_same {par par' : Nat → Int} {n : Nat} (h : ParOk par n) (hs : ∀ c, 1 ≤ c → c ≤ n → par' c = par c) (c : Nat) (hc : c ≤ n) : pth par' c = pth par c := path_same h hs c c hc

/-! ### What lies on it -/
def onWay (par : Nat → Int) (W : Nat → List Nat) (u : Nat) : List Nat := (pth par u).flatMap W

theorem onWay_zero (par : Nat → Int) (W : Nat → List Nat) : onWay par W 0 = W 0 := by simp [onWay, pth_zero]

theorem onWay_step {par : Nat → Int} {n : Nat} (h : ParOk par n) (W : Nat → List Nat) (a : Nat) (h1 : 1 ≤ a) (h2 : a ≤ n) : onWay par W a = onWay par W (par a).toNat ++ W a := by
  unfold onWay
  rw [pth_step h a h1 h2, List.flatMap_append]
  simp

theorem onWay_cut {par : Nat → Int} {n : Nat} (h : ParOk par n) (W : Nat → List Nat) (b a : Nat) (ha : a ≤ n) (hb : b ∈ pth par a) : ∃ r : List Nat, (∀ c ∈ r, b < c ∧ c ≤ a ∧ b ∈ pth par c ∧ c ∈ pth par a) ∧ onWay par W a = onWay par W b ++ r.flatMap W ∧ (∀ W', (∀ c, b < c → W' c = W c) → onWay par W' a = onWay par W' b ++ r.flatMap W) := by
  obtain ⟨r, hr, hc⟩ := pth_cut h b a ha hb
  refine ⟨r, hc, by unfold onWay; rw [hr, List.flatMap_append], fun W' hW => ?_⟩
  unfold onWay
  rw [hr, List.flatMap_append]
  congr 1
  exact flatMap_same r fun c hcm => hW c (hc c hcm).1

theorem onWay_mem {par : Nat → Int} {W : Nat → List Nat} {u i : Nat} : i ∈ onWay par W u ↔ ∃ c ∈ pth par u, i ∈ W c := by
  unfold onWay
  rw [List.mem_flatMap]

theorem onWay_same {par : Nat → Int} {W W' : Nat → List Nat} {u : Nat} (h : ∀ c ∈ pth par u, W' c = W c) : onWay par W' u = onWay par W u := flatMap_same _ h

/-- One list on the way is made longer. -/
theorem onWay_more {par : Nat → Int} {n : Nat} (h : ParOk par n) (W : Nat → List Nat) (b : Nat) (hb : b ≤ n) (A : List Nat) : onWay par (upd W b (W b ++ A)) b = onWay par W b ++ A := by
  by_cases h0 : b = 0
  · subst h0
    rw [onWay_zero, onWay_zero]
    simp [upd]
  · rw [onWay_step h _ b (by omega) hb, onWay_step h W b (by omega) hb]
    have hp := h b (by omega) hb
    have : onWay par (upd W b (W b ++ A)) (par b).toNat = onWay par W (par b).toNat := onWay_same fun c hc => by
      have := pth_le h _ (by omega) c hc
      unfold upd
      rw [if_neg (by omega)]
    rw [this]
    simp [upd]

/-! ### Playing: what two lists have to do with one another -/
theorem play_ext {es : List Ev} (m : List Ev) : ∀ (l : List Nat) (V : Nat → Int), (∀ p ∈ l, p < es.length) → playL (es ++ m) V l = playL es V l
  | [], _, _ => rfl
  | p :: l, V, h => by
    have hp := h p (List.mem_cons_self ..)
    have ih := fun V => play_ext m l V fun q hq => h q (List.mem_cons_of_mem _ hq)
    rw [playL, playL, List.getElem?_append_left hp]
    cases es[p]? with
    | none => exact ih V
    | some e => simp only; rw [ih]

theorem play_agree {es : List Ev} : ∀ (R : List Nat) (V1 V2 : Nat → Int), (∀ p ∈ R, ∀ e, es[p]? = some e → V1 e.a.toNat = V2 e.a.toNat) → (playL es V1 R).1 = (playL es V2 R).1 ∧ ∀ x, V1 x = V2 x → (playL es V1 R).2 x = (playL es V2 R).2 x
  | [], V1, V2, _ => ⟨rfl, fun x h => h⟩
  | p :: R, V1, V2, h => by
    rw [playL, playL]
    cases he : es[p]? with
    | none => exact play_agree R V1 V2 fun q hq => h q (List.mem_cons_of_mem _ hq)
    | some e =>
      have hpe := h p (List.mem_cons_self ..) e he
      simp only
      rw [← hpe]
      by_cases hc : nSeen e.k = true ∧ V1 e.a.toNat ≠ e.s
      · rw [if_pos hc, if_pos hc]
        exact ⟨rfl, fun x hx => hx⟩
      · rw [if_neg hc, if_neg hc]
        obtain ⟨h1, h2⟩ := play_agree R (upd V1 e.a.toNat (becL e)) (upd V2 e.a.toNat (becL e)) fun q hq e' he' => by
          have := h q (List.mem_cons_of_mem _ hq) e' he'
          unfold upd
          split
          · rfl
          · exact this
        refine ⟨h1, fun x hx => h2 x ?_⟩
        unfold upd
        split
        · rfl
        · exact hx

/-- Whatever only reads an object leaves it. -/
theorem play_keep {es : List Ev} : ∀ (R : List Nat) (V : Nat → Int), (playL es V R).1 = -1 → ∀ x, (∀ p ∈ R, ∀ e, es[p]? = some e → e.a.toNat = x → e.k = 2) → (playL es V R).2 x = V x
  | [], V, _, x, _ => rfl
  | p :: R, V, h, x, hx => by
    rw [playL] at h ⊢
    cases he : es[p]? with
    | none =>
      rw [he] at h
      exact play_keep R V h x fun q hq => hx q (List.mem_cons_of_mem _ hq)
    | some e =>
      rw [he] at h
      simp only at h ⊢
      by_cases hc : nSeen e.k = true ∧ V e.a.toNat ≠ e.s
      · rw [if_pos hc] at h; simp only at h; omega
      · rw [if_neg hc] at h ⊢
        rw [play_keep R _ h x fun q hq => hx q (List.mem_cons_of_mem _ hq)]
        unfold upd
        by_cases ex : x = e.a.toNat
        · rw [if_pos ex]
          have hk := hx p (List.mem_cons_self ..) e he ex.symm
          have hs : V e.a.toNat = e.s := by
            by_cases q : V e.a.toNat = e.s
            · exact q
            · exact absurd ⟨by rw [hk]; rfl, q⟩ hc
          rw [ex, hs]
          unfold becL
          rw [if_neg (by omega), if_neg (by omega)]
        · rw [if_neg ex]

def wrOn (es : List Ev) (x p : Nat) : Prop := ∃ e, es[p]? = some e ∧ e.a.toNat = x ∧ e.k ≠ 2
def isOn (es : List Ev) (x p : Nat) : Prop := ∃ e, es[p]? = some e ∧ e.a.toNat = x

/-- A is put ahead of R; they meet at no object that A writes. -/
theorem play_merge {es : List Ev} {V0 : Nat → Int} {A R : List Nat} (hA : (playL es V0 A).1 = -1) (hR : (playL es V0 R).1 = -1) (hd : ∀ x, ∀ i ∈ A, wrOn es x i → ∀ j ∈ R, ¬ isOn es x j) :
    (playL es V0 (A ++ R)).1 = -1 ∧ ∀ x, ((∃ i ∈ A, wrOn es x i) → (playL es V0 (A ++ R)).2 x = (playL es V0 A).2 x) ∧ ((¬ ∃ i ∈ A, wrOn es x i) → (playL es V0 (A ++ R)).2 x = (playL es V0 R).2 x) := by
  have hkeep : ∀ x, (¬ ∃ i ∈ A, wrOn es x i) → (playL es V0 A).2 x = V0 x := fun x hx => play_keep A V0 hA x fun p hp e he hex => by
    by_cases hk : e.k = 2
    · exact hk
    · exact absurd ⟨p, hp, e, he, hex, hk⟩ hx
  have hag := play_agree (es := es) R (playL es V0 A).2 V0 fun p hp e he => hkeep _ fun ⟨i, hi, hw⟩ => hd _ i hi hw p hp ⟨e, he, rfl⟩
  rw [play_app A R V0 hA]
  refine ⟨by rw [hag.1]; exact hR, fun x => ⟨fun ⟨i, hi, hw⟩ => ?_, fun hx => hag.2 x (hkeep x hx)⟩⟩
  exact play_keep R _ (by rw [hag.1]; exact hR) x fun p hp e he hex => absurd ⟨e, he, hex⟩ (hd x i hi hw p hp)

end Go.Proofs.Ytfdalbmopaemgab
