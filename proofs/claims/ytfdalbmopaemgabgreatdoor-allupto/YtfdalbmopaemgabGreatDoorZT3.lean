import Derived.Test.YtfdalbmopaemgabGreatDoorZR13
import Derived.Test.YtfdalbmopaemgabGreatDoorZR11
namespace Go.Proofs.YtfdalbmopaemgabGreatDoor
open Go.RowKit

/-! ### The way from 0 down to a transaction -/
def pathG (par : Nat → Int) : Nat → Nat → List Nat
  | 0, _ => [0]
  | f + 1, a => if a = 0 then [0] else pathG par f (par a).toNat ++ [a]

def pth (par : Nat → Int) (a : Nat) : List Nat := pathG par a a

def ParOk (par : Nat → Int) (n : Nat) : Prop := ∀ c, 1 ≤ c → c ≤ n → (par c).toNat < c

theorem path_fuel {par : Nat → Int} {n : Nat} (h : ParOk par n) : ∀ c, c ≤ n → ∀ f g, c ≤ f → c ≤ g → pathG par f c = pathG par g c := by
  intro c
  induction c using Nat.strongRecOn with
  | _ c ih =>
    intro hc f g hf hg
    by_cases h0 : c = 0
    · subst h0
      cases f <;> cases g <;> simp [pathG]
    · obtain ⟨f', rfl⟩ : ∃ f', f = f' + 1 := ⟨f - 1, by omega⟩
      obtain ⟨g', rfl⟩ : ∃ g', g = g' + 1 := ⟨g - 1, by omega⟩
      have hp := h c (by omega) hc
      rw [pathG, pathG, if_neg h0, if_neg h0, ih _ hp (by omega) f' g' (by omega) (by omega)]

theorem pth_zero (par : Nat → Int) : pth par 0 = [0] := rfl

theorem pth_step {par : Nat → Int} {n : Nat} (h : ParOk par n) (a : Nat) (h1 : 1 ≤ a) (h2 : a ≤ n) : pth par a = pth par (par a).toNat ++ [a] := by
  obtain ⟨f, rfl⟩ : ∃ f, a = f + 1 := ⟨a - 1, by omega⟩
  have hp := h (f + 1) h1 h2
  unfold pth
  rw [pathG, if_neg (by omega), path_fuel h _ (by omega) f (par (f + 1)).toNat (by omega) (Nat.le_refl _)]

theorem pth_self {par : Nat → Int} {n : Nat} (h : ParOk par n) (a : Nat) (h2 : a ≤ n) : a ∈ pth par a := by
  by_cases h0 : a = 0
  · subst h0; simp [pth_zero]
  · rw [pth_step h a (by omega) h2]; simp

theorem pth_le {par : Nat → Int} {n : Nat} (h : ParOk par n) : ∀ a, a ≤ n → ∀ b ∈ pth par a, b ≤ a := by
  intro a
  induction a using Nat.strongRecOn with
  | _ a ih =>
    intro ha b hb
    by_cases h0 : a = 0
    · subst h0; simp [pth_zero] at hb; omega
    · rw [pth_step h a (by omega) ha, List.mem_append, List.mem_singleton] at hb
      have hp := h a (by omega) ha
      rcases hb with hb | hb
      · have := ih _ hp (by omega) b hb; omega
      · omega

theorem pth_has0 {par : Nat → Int} {n : Nat} (h : ParOk par n) : ∀ a, a ≤ n → 0 ∈ pth par a := by
  intro a
  induction a using Nat.strongRecOn with
  | _ a ih =>
    intro ha
    by_cases h0 : a = 0
    · subst h0; simp [pth_zero]
    · rw [pth_step h a (by omega) ha, List.mem_append]
      exact Or.inl (ih _ (h a (by omega) ha) (by have := h a (by omega) ha; omega))

/-- Whoever stands on the way cuts it in two. -/
theorem pth_cut {par : Nat → Int} {n : Nat} (h : ParOk par n) (b : Nat) : ∀ a, a ≤ n → b ∈ pth par a → ∃ r, pth par a = pth par b ++ r ∧ ∀ c ∈ r, b < c ∧ c ≤ a ∧ b ∈ pth par c ∧ c ∈ pth par a := by
  intro a
  induction a using Nat.strongRecOn with
  | _ a ih =>
    intro ha hb
    by_cases hab : b = a
    · subst hab
      exact ⟨[], by simp, fun c hc => by cases hc⟩
    · by_cases h0 : a = 0
      · subst h0; simp [pth_zero] at hb; omega
      · have hst := pth_step h a (by omega) ha
        have hp := h a (by omega) ha
        have hb0 := hb
        rw [hst, List.mem_append, List.mem_singleton] at hb
        rcases hb with hb | hb
        · obtain ⟨r, hr, hc⟩ := ih _ hp (by omega) hb
          have hle := pth_le h _ (by omega) b hb
          refine ⟨r ++ [a], by rw [hst, hr, List.append_assoc], fun c hcm => ?_⟩
          rw [List.mem_append, List.mem_singleton] at hcm
          rcases hcm with hcm | rfl
          · obtain ⟨c1, c2, c3, c4⟩ := hc c hcm
            exact ⟨c1, by omega, c3, by rw [hst, List.mem_append]; exact Or.inl c4⟩
          · exact ⟨by omega, Nat.le_refl _, hb0, pth_self h c ha⟩
        · exact absurd hb hab

theorem pth_trans {par : Nat → Int} {n : Nat} (h : ParOk par n) {a b c : Nat} (ha : a ≤ n) (hb : b ∈ pth par a) (hc : c ∈ pth par b) : c ∈ pth par a := by
  obtain ⟨r, hr, _⟩ := pth_cut h b a ha hb
  rw [hr, List.mem_append]
  exact Or.inl hc

/-- A way is as it was where the parents on it are. -/
theorem path_same {par par' : Nat → Int} {n : Nat} (h : ParOk par n) (hs : ∀ c, 1 ≤ c → c ≤ n → par' c = par c) : ∀ f c, c ≤ n → pathG par' f c = pathG par f c
  | 0, c, _ => rfl
  | f + 1, c, hc => by
    rw [pathG, pathG]
    by_cases h0 : c = 0
    · rw [if_pos h0, if_pos h0]
    · rw [if_neg h0, if_neg h0, hs c (by omega) hc, path_same h hs f _ (by have := h c (by omega) hc; omega)]

theorem pth_same {par par' : Nat → Int} {n : Nat} (h : ParOk par n) (hs : ∀ c, 1 ≤ c → c ≤ n → par' c = par c) (c : Nat) (hc : c ≤ n) : pth par' c = pth par c := path_same h hs c c hc

/-! ### What lies on it -/
def onWay (par : Nat → Int) (W : Nat → List Nat) (u : Nat) : List Nat := (pth par u).flatMap W

theorem onWay_zero (par : Nat → Int) (W : Nat → List Nat) : onWay par W 0 = W 0 := by simp [onWay, pth_zero]

theorem onWay_step {par : Nat → Int} {n : Nat} (h : ParOk par n) (W : Nat → List Nat) (a : Nat) (h1 : 1 ≤ a) (h2 : a ≤ n) : onWay par W a = onWay par W (par a).toNat ++ W a := by
  unfold onWay
  rw [pth_step h a h1 h2, List.flatMap_append]
  simp

theorem onWay_cut {par : Nat → Int} {n : Nat} (h : ParOk par n) (W : Nat → List Nat) (b a : Nat) (ha : a ≤ n) (hb : b ∈ pth par a) : ∃ r : List Nat, (∀ c ∈ r, b < c ∧ c ≤ a ∧ b ∈ pth par c ∧ c ∈ pth par a) ∧ onWay par W a = onWay par W b ++ r.flatMap W ∧ (∀ W', (∀ c, b < c → W' c = W c) → onWay par W' a = onWay par W' b ++ r.flatMap W) := by
  obtain ⟨r, hr, hc⟩ := pth_cut h b a ha hb
  refine ⟨r, hc, by unfold onWay; rw [hr, List.flatMap_append], fun W' hW => ?_⟩
  unfold onWay
  rw [hr, List.flatMap_append]
  congr 1
  exact flatMap_same r fun c hcm => hW c (hc c hcm).1

theorem onWay_mem {par : Nat → Int} {W : Nat → List Nat} {u i : Nat} : i ∈ onWay par W u ↔ ∃ c ∈ pth par u, i ∈ W c := by
  unfold onWay
  rw [List.mem_flatMap]

theorem onWay_same {par : Nat → Int} {W W' : Nat → List Nat} {u : Nat} (h : ∀ c ∈ pth par u, W' c = W c) : onWay par W' u = onWay par W u := flatMap_same _ h

/-- One list on the way is made longer. -/
theorem onWay_more {par : Nat → Int} {n : Nat} (h : ParOk par n) (W : Nat → List Nat) (b : Nat) (hb : b ≤ n) (A : List Nat) : onWay par (upd W b (W b ++ A)) b = onWay par W b ++ A := by
  by_cases h0 : b = 0
  · subst h0
    rw [onWay_zero, onWay_zero]
    simp [upd]
  · rw [onWay_step h _ b (by omega) hb, onWay_step h W b (by omega) hb]
    have hp := h b (by omega) hb
    have : onWay par (upd W b (W b ++ A)) (par b).toNat = onWay par W (par b).toNat := onWay_same fun c hc => by
      have := pth_le h _ (by omega) c hc
      unfold upd
      rw [if_neg (by omega)]
    rw [this]
    simp [upd]

/-! ### Playing: what two lists have to do with one another -/
theorem play_ext {es : List Ev} (m : List Ev) : ∀ (l : List Nat) (V : Nat → Int), (∀ p ∈ l, p < es.length) → playL (es ++ m) V l = playL es V l
  | [], _, _ => rfl
  | p :: l, V, h => by
    have hp := h p (List.mem_cons_self ..)
    have ih := fun V => play_ext m l V fun q hq => h q (List.mem_cons_of_mem _ hq)
    rw [playL, playL, List.getElem?_append_left hp]
    cases es[p]? with
    | none => exact ih V
    | some e => simp only; rw [ih]

theorem play_agree {es : List Ev} : ∀ (R : List Nat) (V1 V2 : Nat → Int), (∀ p ∈ R, ∀ e, es[p]? = some e → V1 e.a.toNat = V2 e.a.toNat) → (playL es V1 R).1 = (playL es V2 R).1 ∧ ∀ x, V1 x = V2 x → (playL es V1 R).2 x = (playL es V2 R).2 x
  | [], V1, V2, _ => ⟨rfl, fun x h => h⟩
  | p :: R, V1, V2, h => by
    rw [playL, playL]
    cases he : es[p]? with
    | none => exact play_agree R V1 V2 fun q hq => h q (List.mem_cons_of_mem _ hq)
    | some e =>
      have hpe := h p (List.mem_cons_self ..) e he
      simp only
      rw [← hpe]
      by_cases hc : nSeen e.k = true ∧ V1 e.a.toNat ≠ e.s
      · rw [if_pos hc, if_pos hc]
        exact ⟨rfl, fun x hx => hx⟩
      · rw [if_neg hc, if_neg hc]
        obtain ⟨h1, h2⟩ := play_agree R (upd V1 e.a.toNat (becL e)) (upd V2 e.a.toNat (becL e)) fun q hq e' he' => by
          have := h q (List.mem_cons_of_mem _ hq) e' he'
          unfold upd
          split
          · rfl
          · exact this
        refine ⟨h1, fun x hx => h2 x ?_⟩
        unfold upd
        split
        · rfl
        · exact hx

/-- Whatever only reads an object leaves it. -/
theorem play_keep {es : List Ev} : ∀ (R : List Nat) (V : Nat → Int), (playL es V R).1 = -1 → ∀ x, (∀ p ∈ R, ∀ e, es[p]? = some e → e.a.toNat = x → e.k = 2) → (playL es V R).2 x = V x
  | [], V, _, x, _ => rfl
  | p :: R, V, h, x, hx => by
    rw [playL] at h ⊢
    cases he : es[p]? with
    | none =>
      rw [he] at h
      exact play_keep R V h x fun q hq => hx q (List.mem_cons_of_mem _ hq)
    | some e =>
      rw [he] at h
      simp only at h ⊢
      by_cases hc : nSeen e.k = true ∧ V e.a.toNat ≠ e.s
      · rw [if_pos hc] at h; simp only at h; omega
      · rw [if_neg hc] at h ⊢
        rw [play_keep R _ h x fun q hq => hx q (List.mem_cons_of_mem _ hq)]
        unfold upd
        by_cases ex : x = e.a.toNat
        · rw [if_pos ex]
          have hk := hx p (List.mem_cons_self ..) e he ex.symm
          have hs : V e.a.toNat = e.s := by
            by_cases q : V e.a.toNat = e.s
            · exact q
            · exact absurd ⟨by rw [hk]; rfl, q⟩ hc
          rw [ex, hs]
          unfold becL
          rw [if_neg (by omega), if_neg (by omega)]
        · rw [if_neg ex]

def wrOn (es : List Ev) (x p : Nat) : Prop := ∃ e, es[p]? = some e ∧ e.a.toNat = x ∧ e.k ≠ 2
def isOn (es : List Ev) (x p : Nat) : Prop := ∃ e, es[p]? = some e ∧ e.a.toNat = x

/-- A is put ahead of R; they meet at no object that A writes. -/
theorem play_merge {es : List Ev} {V0 : Nat → Int} {A R : List Nat} (hA : (playL es V0 A).1 = -1) (hR : (playL es V0 R).1 = -1) (hd : ∀ x, ∀ i ∈ A, wrOn es x i → ∀ j ∈ R, ¬ isOn es x j) :
    (playL es V0 (A ++ R)).1 = -1 ∧ ∀ x, ((∃ i ∈ A, wrOn es x i) → (playL es V0 (A ++ R)).2 x = (playL es V0 A).2 x) ∧ ((¬ ∃ i ∈ A, wrOn es x i) → (playL es V0 (A ++ R)).2 x = (playL es V0 R).2 x) := by
  have hkeep : ∀ x, (¬ ∃ i ∈ A, wrOn es x i) → (playL es V0 A).2 x = V0 x := fun x hx => play_keep A V0 hA x fun p hp e he hex => by
    by_cases hk : e.k = 2
    · exact hk
    · exact absurd ⟨p, hp, e, he, hex, hk⟩ hx
  have hag := play_agree (es := es) R (playL es V0 A).2 V0 fun p hp e he => hkeep _ fun ⟨i, hi, hw⟩ => hd _ i hi hw p hp ⟨e, he, rfl⟩
  rw [play_app A R V0 hA]
  refine ⟨by rw [hag.1]; exact hR, fun x => ⟨fun ⟨i, hi, hw⟩ => ?_, fun hx => hag.2 x (hkeep x hx)⟩⟩
  exact play_keep R _ (by rw [hag.1]; exact hR) x fun p hp e he hex => absurd ⟨e, he, hex⟩ (hd x i hi hw p hp)

end Go.Proofs.YtfdalbmopaemgabGreatDoor

namespace Go.Proofs.YtfdalbmopaemgabGreatDoor
open Go.RowKit

/-! ### A chain of transactions in one another -/
def sumL (f : Nat → Int) : Nat → Int
  | 0 => 0
  | k + 1 => wrap32 (sumL f k + f k)

def bgE (i : Nat) : Ev := ⟨1, ((i + 1 : Nat) : Int), ((i : Nat) : Int), 0, 0⟩
def adE (f : Nat → Int) (i : Nat) : Ev := ⟨4, ((i + 1 : Nat) : Int), ((1 : Nat) : Int), f i, sumL f i⟩
def enE (cut : Int) (i : Nat) : Ev := ⟨if (i : Int) = cut then 6 else 5, ((i + 1 : Nat) : Int), ((0 : Nat) : Int), 0, 0⟩

def upL (f : Nat → Int) : Nat → List Ev
  | 0 => []
  | k + 1 => upL f k ++ [bgE k] ++ [adE f k]

def dnL (cut : Int) (n : Nat) : Nat → List Ev
  | 0 => []
  | j + 1 => dnL cut n j ++ [enE cut (n - 1 - j)]

def chL (f : Nat → Int) (cut : Int) (n : Nat) : List Ev := upL f n ++ dnL cut n n

def ownP (x : Nat) : List Nat := if x = 0 then [] else [2 * x - 1]

theorem upL_length (f : Nat → Int) : ∀ k, (upL f k).length = 2 * k
  | 0 => rfl
  | k + 1 => by simp [upL, upL_length f k]; omega

theorem dnL_length (cut : Int) (n : Nat) : ∀ j, (dnL cut n j).length = j
  | 0 => rfl
  | j + 1 => by simp [dnL, dnL_length cut n j]

def runG : Tr → (Nat → List Nat) → Nat → List Ev → Tr × (Nat → List Nat)
  | T, W, _, [] => (T, W)
  | T, W, i, e :: l => runG (stepT T e.k e.t.toNat e.a.toNat) (gStep W T.par i e.k e.t.toNat) (i + 1) l

theorem gather_run : ∀ (l : List Ev) (T : Tr) (W : Nat → List Nat) (i : Nat), gatherG T W i l = (runG T W i l).2
  | [], _, _, _ => rfl
  | e :: l, T, W, i => by rw [gatherG, runG, gather_run l]

theorem run_snoc (e : Ev) : ∀ (l : List Ev) (T : Tr) (W : Nat → List Nat) (i : Nat), runG T W i (l ++ [e]) = (stepT (runG T W i l).1 e.k e.t.toNat e.a.toNat, gStep (runG T W i l).2 (runG T W i l).1.par (i + l.length) e.k e.t.toNat)
  | [], T, W, i => rfl
  | x :: l, T, W, i => by
    rw [List.cons_append, runG, runG, run_snoc e l, List.length_cons, show i + 1 + l.length = i + (l.length + 1) by omega]

theorem check_snoc (e : Ev) : ∀ (l pre : List Ev), checkG pre l = (0, 0) → wrongL (pre ++ l) e = 0 → checkG pre (l ++ [e]) = (0, 0)
  | [], pre, _, h => by
    rw [List.append_nil] at h
    rw [List.nil_append, checkG, if_pos h, checkG]
  | x :: l, pre, h, hw => by
    rw [List.cons_append, checkG]
    rw [checkG] at h
    by_cases hx : wrongL pre x = 0
    · rw [if_pos hx] at h ⊢
      exact check_snoc e l (pre ++ [x]) h (by simpa using hw)
    · rw [if_neg hx] at h
      exact absurd (congrArg Prod.fst h) hx

theorem wrong_zero {h : List Ev} {T : Tr} (j : JJ h T) (hl : h.length < 60) (e : Ev) (hk : isKind e.k = true) (hb : e.k = 1 → T.n < 15 ∧ e.t = (T.n : Int) + 1 ∧ (e.a = 0 ∨ openL h e.a = true)) (ho : e.k ≠ 1 → openL h e.t = true) (ha : 2 ≤ e.k → e.k ≤ 4 → e.a < 4) (he : emptyL e = true) (hc : e.k = 5 → childL h e.t = false) : wrongL h e = 0 := by
  unfold wrongL
  rw [if_neg (by omega), if_neg (by rw [hk]; decide), if_neg, if_neg, if_neg, if_neg, if_neg (by rw [he]; decide), if_neg]
  · rintro ⟨h1, h2⟩
    rw [hc h1] at h2
    cases h2
  · rintro ⟨h1, h2, h3⟩
    have := ha h1 h2
    omega
  · rintro ⟨h1, h2⟩
    rw [ho h1] at h2
    cases h2
  · rintro ⟨h1, h2, h3⟩
    rcases (hb h1).2.2 with h4 | h4
    · exact h2 h4
    · rw [h4] at h3; cases h3
  · rintro ⟨h1, h2⟩
    have := hb h1
    rw [← j.n] at h2
    omega

structure Ch (h : List Ev) (T : Tr) (W : Nat → List Nat) (n r : Nat) (C : List Nat) : Prop where
  jj : JJ h T
  run : runG tr0 (fun _ => []) 0 h = (T, W)
  ck : checkG [] h = (0, 0)
  tn : T.n = n
  par : ∀ c, 1 ≤ c → c ≤ n → T.par c = ((c - 1 : Nat) : Int)
  op : ∀ c, c ≤ 15 → T.op c = decide (1 ≤ c ∧ c ≤ r)
  rn : r ≤ n
  low : ∀ x, x < r → W x = ownP x
  at_ : W r = C
  new : ∀ x, n < x → W x = []

theorem Ch.start : Ch [] tr0 (fun _ => []) 0 0 [] :=
  ⟨JJ.start, rfl, rfl, rfl, fun c h1 h2 => by omega, fun c _ => by show false = _; simp; omega, Nat.le_refl _, fun x hx => by omega, rfl, fun _ _ => rfl⟩

theorem Ch.snoc {h : List Ev} {T : Tr} {W : Nat → List Nat} {n r : Nat} {C : List Nat} (g : Ch h T W n r C) (k : Int) (t a : Nat) (v s : Int) (hw : wrongL h ⟨k, (t : Int), (a : Int), v, s⟩ = 0) :
    JJ (h ++ [⟨k, (t : Int), (a : Int), v, s⟩]) (stepT T k t a) ∧ runG tr0 (fun _ => []) 0 (h ++ [⟨k, (t : Int), (a : Int), v, s⟩]) = (stepT T k t a, gStep W T.par h.length k t) ∧ checkG [] (h ++ [⟨k, (t : Int), (a : Int), v, s⟩]) = (0, 0) := by
  refine ⟨(step_ok g.jj k t a v s hw).2, ?_, check_snoc _ h [] g.ck (by simpa using hw)⟩
  rw [run_snoc, g.run]
  simp only [Int.toNat_natCast, Nat.zero_add]

theorem Ch.open_ {h : List Ev} {T : Tr} {W : Nat → List Nat} {n r : Nat} {C : List Nat} (g : Ch h T W n r C) (c : Nat) (h1 : 1 ≤ c) (h2 : c ≤ r) : openL h (c : Int) = true := by
  have h15 := g.jj.n15
  have hn := g.tn
  have hr := g.rn
  rw [← g.jj.op c (by omega), g.op c (by omega)]
  simp
  omega

theorem Ch.begin {h : List Ev} {T : Tr} {W : Nat → List Nat} {r : Nat} (g : Ch h T W r r (ownP r)) (hr : r < 15) (hl : h.length < 60) : Ch (h ++ [bgE r]) (beginT T (r : Int)) W (r + 1) (r + 1) [] := by
  have hn := g.tn
  have hw : wrongL h ⟨1, ((r + 1 : Nat) : Int), ((r : Nat) : Int), 0, 0⟩ = 0 := by
    refine wrong_zero g.jj hl _ rfl (fun _ => ⟨by omega, by simp only; omega, ?_⟩) (fun q => absurd rfl q) (fun q _ => by simp only at q; omega) (by simp [emptyL]) (fun q => by simp only at q; omega)
    simp only
    by_cases h0 : r = 0
    · exact Or.inl (by omega)
    · exact Or.inr (g.open_ r (by omega) (Nat.le_refl _))
  obtain ⟨a1, a2, a3⟩ := g.snoc 1 (r + 1) r 0 0 hw
  have hT : stepT T 1 (r + 1) r = beginT T (r : Int) := by unfold stepT; rw [if_pos rfl]
  have hW : gStep W T.par h.length 1 (r + 1) = W := gStep_not (by decide) (by decide)
  rw [hT] at a1 a2
  rw [hW] at a2
  refine ⟨a1, a2, a3, by simp [beginT, hn], fun c h1 h2 => ?_, fun c hc => ?_, Nat.le_refl _, fun x hx => ?_, g.new _ (by omega), fun x hx => g.new x (by omega)⟩
  · simp only [beginT, upd]
    by_cases e : c = T.n + 1
    · rw [if_pos e, e, hn]; simp
    · rw [if_neg e]; exact g.par c h1 (by omega)
  · simp only [beginT, upd]
    by_cases e : c = T.n + 1
    · rw [if_pos e]; simp; omega
    · rw [if_neg e, g.op c hc, Bool.eq_iff_iff]; simp; omega
  · by_cases e : x = r
    · subst e; exact g.at_
    · exact g.low x (by omega)

theorem Ch.add {h : List Ev} {T : Tr} {W : Nat → List Nat} {r : Nat} (g : Ch h T W (r + 1) (r + 1) []) (f : Nat → Int) (hl : h.length < 60) (hh : h.length = 2 * r + 1) : Ch (h ++ [adE f r]) T (upd W (r + 1) (ownP (r + 1))) (r + 1) (r + 1) (ownP (r + 1)) := by
  have hn := g.tn
  have h15 := g.jj.n15
  have hw : wrongL h ⟨4, ((r + 1 : Nat) : Int), ((1 : Nat) : Int), f r, sumL f r⟩ = 0 := by
    refine wrong_zero g.jj hl _ rfl (fun q => by simp only at q; omega) (fun _ => g.open_ (r + 1) (by omega) (Nat.le_refl _)) (fun _ _ => by simp only; omega) (by simp [emptyL]) (fun q => by simp only at q; omega)
  obtain ⟨a1, a2, a3⟩ := g.snoc 4 (r + 1) 1 (f r) (sumL f r) hw
  have hT : stepT T 4 (r + 1) 1 = T := by unfold stepT; rw [if_neg (by decide), if_neg (by decide), if_neg (by decide)]
  have hW : gStep W T.par h.length 4 (r + 1) = upd W (r + 1) (ownP (r + 1)) := by
    rw [gStep_obj (by decide), g.at_]
    unfold ownP
    rw [if_neg (by omega), hh, List.nil_append, show 2 * (r + 1) - 1 = 2 * r + 1 by omega]
  rw [hT] at a1 a2
  rw [hW] at a2
  refine ⟨a1, a2, a3, hn, g.par, g.op, Nat.le_refl _, fun x hx => ?_, ?_, fun x hx => ?_⟩
  · unfold upd; rw [if_neg (by omega)]; exact g.low x hx
  · unfold upd; rw [if_pos rfl]
  · unfold upd; rw [if_neg (by omega)]; exact g.new x hx

theorem Ch.commit {h : List Ev} {T : Tr} {W : Nat → List Nat} {n r : Nat} {C : List Nat} (g : Ch h T W n (r + 1) C) (hl : h.length < 60) : Ch (h ++ [⟨5, ((r + 1 : Nat) : Int), ((0 : Nat) : Int), 0, 0⟩]) (commitT T (r + 1)) (upd W r (ownP r ++ C)) n r (ownP r ++ C) := by
  have hn := g.tn
  have h15 := g.jj.n15
  have hrn := g.rn
  have hch : childL h ((r + 1 : Nat) : Int) = false := by
    rw [← child_eq g.jj]
    unfold childT
    rw [List.any_eq_false]
    intro i hi
    have hi' : i < 15 := by simpa using hi
    rw [g.op (i + 1) (by omega)]
    by_cases e : i + 1 ≤ r + 1
    · rw [g.par (i + 1) (by omega) (by omega)]
      simp
      omega
    · simp
      omega
  have hw : wrongL h ⟨5, ((r + 1 : Nat) : Int), ((0 : Nat) : Int), 0, 0⟩ = 0 :=
    wrong_zero g.jj hl _ rfl (fun q => by simp only at q; omega) (fun _ => g.open_ (r + 1) (by omega) (Nat.le_refl _)) (fun q q' => by simp only at q'; omega) (by simp [emptyL]) (fun _ => hch)
  obtain ⟨a1, a2, a3⟩ := g.snoc 5 (r + 1) 0 0 0 hw
  have hT : stepT T 5 (r + 1) 0 = commitT T (r + 1) := by unfold stepT; rw [if_neg (by decide), if_pos rfl]
  have hW : gStep W T.par h.length 5 (r + 1) = upd W r (ownP r ++ C) := by
    rw [gStep_com (p := r) (by rw [g.par (r + 1) (by omega) hrn]; rfl), g.at_, g.low r (by omega)]
  rw [hT] at a1 a2
  rw [hW] at a2
  refine ⟨a1, a2, a3, hn, g.par, fun c hc => ?_, by omega, fun x hx => ?_, ?_, fun x hx => ?_⟩
  · simp only [commitT, upd]
    by_cases e : c = r + 1
    · rw [if_pos e]; simp; omega
    · rw [if_neg e, g.op c hc, Bool.eq_iff_iff]; simp; omega
  · unfold upd; rw [if_neg (by omega)]; exact g.low x (by omega)
  · unfold upd; rw [if_pos rfl]
  · unfold upd; rw [if_neg (by omega)]; exact g.new x hx

theorem within_lt {h : List Ev} {T : Tr} (j : JJ h T) (a : Nat) : ∀ (f c : Nat), c ≤ T.n → c < a → withinG h (a : Int) f (c : Int) = false
  | 0, c, _, hc => by unfold withinG; simp; omega
  | f + 1, c, hn, hc => by
    unfold withinG
    rw [if_neg (by omega)]
    by_cases h0 : c = 0
    · rw [if_pos (by omega)]
    · rw [if_neg (by omega)]
      have hl := j.low c (by omega) hn
      obtain ⟨p, hp⟩ : ∃ p : Nat, parentL h (c : Int) = (p : Int) := ⟨(parentL h (c : Int)).toNat, by omega⟩
      rw [hp] at hl ⊢
      exact within_lt j a f p (by omega) (by omega)

theorem Ch.abort {h : List Ev} {T : Tr} {W : Nat → List Nat} {n r : Nat} {C : List Nat} (g : Ch h T W n (r + 1) C) (hl : h.length < 60) : Ch (h ++ [⟨6, ((r + 1 : Nat) : Int), ((0 : Nat) : Int), 0, 0⟩]) (abortT T (r + 1)) W n r (ownP r) := by
  have hn := g.tn
  have h15 := g.jj.n15
  have hrn := g.rn
  have ho := g.open_ (r + 1) (by omega) (Nat.le_refl _)
  have hw : wrongL h ⟨6, ((r + 1 : Nat) : Int), ((0 : Nat) : Int), 0, 0⟩ = 0 :=
    wrong_zero g.jj hl _ rfl (fun q => by simp only at q; omega) (fun _ => ho) (fun q q' => by simp only at q'; omega) (by simp [emptyL]) (fun q => by simp only at q; omega)
  obtain ⟨a1, a2, a3⟩ := g.snoc 6 (r + 1) 0 0 0 hw
  have hT : stepT T 6 (r + 1) 0 = abortT T (r + 1) := by unfold stepT; rw [if_neg (by decide), if_neg (by decide), if_pos rfl]
  have hW : gStep W T.par h.length 6 (r + 1) = W := gStep_not (by decide) (by decide)
  rw [hT] at a1 a2
  rw [hW] at a2
  refine ⟨a1, a2, a3, hn, g.par, fun c hc => ?_, by omega, fun x hx => g.low x (by omega), g.low r (by omega), g.new⟩
  simp only [abortT]
  rw [ab_main g.jj (r + 1) ho 15 (by omega) c hc, if_pos hc, ← g.jj.op c hc, g.op c hc]
  by_cases e : c ≤ r
  · rw [within_lt g.jj (r + 1) 16 c (by omega) (by omega), Bool.eq_iff_iff]
    simp
    omega
  · by_cases e' : c = r + 1
    · subst e'
      have : withinG h ((r + 1 : Nat) : Int) 16 ((r + 1 : Nat) : Int) = true := by rw [withinG, if_pos rfl]
      rw [this, Bool.eq_iff_iff]
      simp
    · rw [Bool.eq_iff_iff]
      simp
      omega

def Cf (cut : Int) (n : Nat) : Nat → List Nat
  | 0 => ownP n
  | j + 1 => ownP (n - 1 - j) ++ (if ((n - 1 - j : Nat) : Int) = cut then [] else Cf cut n j)

theorem ch_up (f : Nat → Int) : ∀ k, k ≤ 15 → ∃ T W, Ch (upL f k) T W k k (ownP k)
  | 0, _ => ⟨_, _, Ch.start⟩
  | k + 1, hk => by
    obtain ⟨T, W, g⟩ := ch_up f k (by omega)
    have hl := upL_length f k
    exact ⟨_, _, (g.begin (by omega) (by omega)).add f (by simp; omega) (by simp; omega)⟩

theorem ch_dn (f : Nat → Int) (cut : Int) (n : Nat) (hn : n ≤ 15) : ∀ j, j ≤ n → ∃ T W, Ch (upL f n ++ dnL cut n j) T W n (n - j) (Cf cut n j)
  | 0, _ => by
    obtain ⟨T, W, g⟩ := ch_up f n hn
    exact ⟨T, W, by simpa [dnL, Cf] using g⟩
  | j + 1, hj => by
    obtain ⟨T, W, g⟩ := ch_dn f cut n hn j (by omega)
    have hl : (upL f n ++ dnL cut n j).length < 60 := by rw [List.length_append, upL_length, dnL_length]; omega
    rw [show n - j = (n - 1 - j) + 1 by omega] at g
    rw [dnL, ← List.append_assoc, show n - (j + 1) = n - 1 - j by omega, Cf, enE]
    by_cases e : ((n - 1 - j : Nat) : Int) = cut
    · rw [if_pos e, if_pos e, List.append_nil]
      exact ⟨_, _, g.abort hl⟩
    · rw [if_neg e, if_neg e]
      exact ⟨_, _, g.commit hl⟩

/-! ### What is played of it -/
def rng (a : Nat) : Nat → List Nat
  | 0 => []
  | c + 1 => ownP a ++ rng (a + 1) c

def cnt (cut : Int) (n : Nat) : Nat → Nat
  | 0 => 1
  | j + 1 => 1 + (if ((n - 1 - j : Nat) : Int) = cut then 0 else cnt cut n j)

theorem cf_rng (cut : Int) (n : Nat) : ∀ j, j ≤ n → Cf cut n j = rng (n - j) (cnt cut n j)
  | 0, _ => by simp [Cf, cnt, rng]
  | j + 1, hj => by
    rw [Cf, cnt, show 1 + (if ((n - 1 - j : Nat) : Int) = cut then 0 else cnt cut n j) = (if ((n - 1 - j : Nat) : Int) = cut then 0 else cnt cut n j) + 1 by omega, rng, show n - (j + 1) = n - 1 - j by omega]
    by_cases e : ((n - 1 - j : Nat) : Int) = cut
    · rw [if_pos e, if_pos e, rng]
    · rw [if_neg e, if_neg e, cf_rng cut n j (by omega), show n - 1 - j + 1 = n - j by omega]

def mOf (cut : Int) (n : Nat) : Nat := if 0 ≤ cut ∧ cut < (n : Int) then cut.toNat else n

theorem cnt_none (cut : Int) (n : Nat) : ∀ j, j ≤ n → (∀ i, i < j → ((n - 1 - i : Nat) : Int) ≠ cut) → cnt cut n j = j + 1
  | 0, _, _ => rfl
  | j + 1, hj, h => by
    rw [cnt, if_neg (h j (by omega)), cnt_none cut n j (by omega) fun i hi => h i (by omega)]
    omega

theorem cnt_cut (c n : Nat) (hc : c < n) : ∀ j, j ≤ n → n - c ≤ j → cnt (c : Int) n j = j - (n - c) + 1
  | 0, _, h => by omega
  | j + 1, hj, h => by
    rw [cnt]
    by_cases e : n - 1 - j = c
    · rw [if_pos (by omega)]; omega
    · rw [if_neg (by omega), cnt_cut c n hc j (by omega) (by omega)]; omega

theorem cnt_all (cut : Int) (n : Nat) : cnt cut n n = mOf cut n + 1 := by
  unfold mOf
  by_cases h : 0 ≤ cut ∧ cut < (n : Int)
  · rw [if_pos h]
    obtain ⟨c, rfl⟩ : ∃ c : Nat, cut = (c : Int) := ⟨cut.toNat, by omega⟩
    rw [Int.toNat_natCast, cnt_cut c n (by omega) n (Nat.le_refl _) (by omega)]
    omega
  · rw [if_neg h, cnt_none cut n n (Nat.le_refl _) fun i hi e => h (by omega)]

theorem up_at (f : Nat → Int) (i : Nat) : ∀ n, i < n → (upL f n)[2 * i + 1]? = some (adE f i)
  | 0, h => by omega
  | n + 1, h => by
    have hl := upL_length f n
    rw [upL]
    by_cases e : i = n
    · subst e
      rw [List.getElem?_append_right (by simp; omega)]
      simp [hl]
    · rw [List.append_assoc, List.getElem?_append_left (by omega)]
      exact up_at f i n (by omega)

theorem ch_play (f : Nat → Int) (cut : Int) (n : Nat) : ∀ (c a : Nat) (V : Nat → Int), a + c ≤ n → V 1 = sumL f a → ∃ V', playL (chL f cut n) V (rng (a + 1) c) = (-1, V') ∧ V' 1 = sumL f (a + c) ∧ ∀ i, i ≠ 1 → V' i = V i
  | 0, a, V, _, h => ⟨V, rfl, by simpa using h, fun _ _ => rfl⟩
  | c + 1, a, V, hac, h => by
    have he : (chL f cut n)[2 * a + 1]? = some (adE f a) := by
      unfold chL
      rw [List.getElem?_append_left (by rw [upL_length]; omega)]
      exact up_at f a n (by omega)
    obtain ⟨V', h1, h2, h3⟩ := ch_play f cut n c (a + 1) (upd V 1 (sumL f (a + 1))) (by omega) (by simp [upd])
    refine ⟨V', ?_, by rw [h2]; congr 1; omega, fun i hi => by rw [h3 i hi]; simp [upd, hi]⟩
    have ho : ownP (a + 1) = [2 * a + 1] := by unfold ownP; rw [if_neg (by omega), show 2 * (a + 1) - 1 = 2 * a + 1 by omega]
    have hb : becL (adE f a) = sumL f (a + 1) := by simp [becL, adE, sumL]
    have ha : (adE f a).a.toNat = 1 := rfl
    rw [rng, ho, List.cons_append, List.nil_append, playL, he]
    simp only
    rw [ha, hb, if_neg (fun q => q.2 (by rw [h]; rfl)), h1]

def keptL (f : Nat → Int) (cut : Int) : Nat → Int
  | 0 => 0
  | k + 1 => if (k : Int) < cut then sumL f (k + 1) else keptL f cut k

def keptF (f : Nat → Int) (cut : Int) (n : Nat) : Int := if cut < 0 then sumL f n else keptL f cut n

theorem kept_le (f : Nat → Int) (cut : Int) : ∀ k, ((k : Nat) : Int) ≤ cut → keptL f cut k = sumL f k
  | 0, _ => rfl
  | k + 1, h => by rw [keptL, if_pos (by omega)]

theorem kept_ge (f : Nat → Int) (c : Nat) : ∀ k, c ≤ k → keptL f (c : Int) k = sumL f c
  | 0, h => by rw [show c = 0 by omega]; rfl
  | k + 1, h => by
    by_cases e : c = k + 1
    · subst e; exact kept_le f _ (k + 1) (Int.le_refl _)
    · rw [keptL, if_neg (by omega)]; exact kept_ge f c k (by omega)

theorem kept_sum (f : Nat → Int) (cut : Int) (n : Nat) : sumL f (mOf cut n) = keptF f cut n := by
  unfold mOf keptF
  by_cases h0 : cut < 0
  · rw [if_pos h0, if_neg (by omega)]
  · rw [if_neg h0]
    obtain ⟨c, rfl⟩ : ∃ c : Nat, cut = (c : Int) := ⟨cut.toNat, by omega⟩
    by_cases h1 : c < n
    · rw [if_pos (by omega), Int.toNat_natCast, kept_ge f c n (by omega)]
    · rw [if_neg (by omega), kept_le f _ n (by omega)]

theorem deeper_pure (f : Nat → Int) (cut : Int) (n : Nat) (hn : n ≤ 15) : checkG [] (chL f cut n) = (0, 0) ∧ ∃ V, replayG (chL f cut n) = (-1, V, 0) ∧ V 0 = 0 ∧ V 1 = keptF f cut n ∧ V 2 = 0 ∧ V 3 = 0 := by
  obtain ⟨T, W, g⟩ := ch_dn f cut n hn n (Nat.le_refl _)
  have hck := g.ck
  refine ⟨hck, ?_⟩
  have hord : orderL (chL f cut n) = rng 1 (mOf cut n) := by
    unfold orderL
    have h1 : runG tr0 (fun _ => []) 0 (chL f cut n) = (T, W) := g.run
    have h2 := g.at_
    rw [Nat.sub_self, cf_rng cut n n (Nat.le_refl _), Nat.sub_self, cnt_all, rng] at h2
    rw [gather_run, h1]
    show W 0 = _
    rw [h2]
    rfl
  have hm : mOf cut n ≤ n := by unfold mOf; split <;> omega
  obtain ⟨V, h1, h2, h3⟩ := ch_play f cut n (mOf cut n) 0 (fun _ => 0) (by omega) rfl
  refine ⟨V, ?_, h3 0 (by omega), by rw [h2, Nat.zero_add, kept_sum], h3 2 (by omega), h3 3 (by omega)⟩
  have hck' : (checkG [] (chL f cut n)).1 = 0 := by unfold chL; rw [hck]
  unfold replayG
  rw [if_pos hck', hord, h1]

end Go.Proofs.YtfdalbmopaemgabGreatDoor

namespace Go.Proofs.YtfdalbmopaemgabGreatDoor
open Go.RowKit

/-! ### The last that wrote an object, of those in a list -/
def lastW (es : List Ev) (L : List Nat) (x : Nat) : Nat → Int
  | 0 => 0
  | k + 1 => match es[k]? with
    | none => lastW es L x k
    | some e => if (e.k = 3 ∨ e.k = 4) ∧ e.a.toNat = x ∧ k ∈ L then becL e else lastW es L x k

theorem lastW_congr {es : List Ev} {L L' : List Nat} {x : Nat} : ∀ k, (∀ i, i < k → ∀ e, es[i]? = some e → (e.k = 3 ∨ e.k = 4) → e.a.toNat = x → (i ∈ L ↔ i ∈ L')) → lastW es L x k = lastW es L' x k
  | 0, _ => rfl
  | k + 1, h => by
    have ih := lastW_congr (L := L) (L' := L') k fun i hi => h i (by omega)
    rw [lastW, lastW]
    cases he : es[k]? with
    | none => exact ih
    | some e =>
      simp only
      by_cases h1 : (e.k = 3 ∨ e.k = 4) ∧ e.a.toNat = x
      · have hm := h k (by omega) e he h1.1 h1.2
        by_cases h2 : k ∈ L
        · rw [if_pos ⟨h1.1, h1.2, h2⟩, if_pos ⟨h1.1, h1.2, hm.1 h2⟩]
        · rw [if_neg (fun q => h2 q.2.2), if_neg (fun q => h2 (hm.2 q.2.2)), ih]
      · rw [if_neg (fun q => h1 ⟨q.1, q.2.1⟩), if_neg (fun q => h1 ⟨q.1, q.2.1⟩), ih]

theorem lastW_ext {es : List Ev} (m : List Ev) {L : List Nat} {x : Nat} : ∀ k, k ≤ es.length → lastW (es ++ m) L x k = lastW es L x k
  | 0, _ => rfl
  | k + 1, h => by
    rw [lastW, lastW, List.getElem?_append_left (by omega), lastW_ext m k (by omega)]

theorem lastW_old {es : List Ev} (e : Ev) {L : List Nat} {x : Nat} (h : es.length ∉ L) : lastW (es ++ [e]) L x (es.length + 1) = lastW es L x es.length := by
  rw [lastW]
  have he : (es ++ [e])[es.length]? = some e := by simp
  rw [he]
  simp only
  rw [if_neg (fun q => h q.2.2)]
  exact lastW_ext [e] es.length (Nat.le_refl _)

theorem lastW_new {es : List Ev} (e : Ev) {L : List Nat} {x : Nat} (h : es.length ∈ L) (hk : e.k = 3 ∨ e.k = 4) (hx : e.a.toNat = x) : lastW (es ++ [e]) L x (es.length + 1) = becL e := by
  rw [lastW]
  have he : (es ++ [e])[es.length]? = some e := by simp
  rw [he]
  simp only
  rw [if_pos ⟨hk, hx, h⟩]

theorem lastW_not {es : List Ev} (e : Ev) {L : List Nat} {x : Nat} (h : ¬ ((e.k = 3 ∨ e.k = 4) ∧ e.a.toNat = x)) : lastW (es ++ [e]) L x (es.length + 1) = lastW es L x es.length := by
  rw [lastW]
  have he : (es ++ [e])[es.length]? = some e := by simp
  rw [he]
  simp only
  rw [if_neg (fun q => h ⟨q.1, q.2.1⟩)]
  exact lastW_ext [e] es.length (Nat.le_refl _)

/-! ### What holds of a store's events -/
def Live (T : Tr) (u : Nat) : Prop := u = 0 ∨ (1 ≤ u ∧ u ≤ 15 ∧ T.op u = true)

def zeroV : Nat → Int := fun _ => 0

structure PlaysAs (es : List Ev) (L : List Nat) : Prop where
  fits : (playL es zeroV L).1 = -1
  val : ∀ x, (playL es zeroV L).2 x = lastW es L x es.length

structure SInv (es : List Ev) (T : Tr) (W : Nat → List Nat) : Prop where
  gi : GI es es.length T W
  run : runG tr0 (fun _ => []) 0 es = (T, W)
  ck : checkG [] es = (0, 0)
  ap : ∀ a b, a ≠ 0 → b ≠ 0 → Live T a → Live T b → ∀ i ∈ W a, ∀ j ∈ W b, ∀ x, wrOn es x i → isOn es x j → a ∈ pth T.par b ∨ b ∈ pth T.par a
  ok : ∀ u, Live T u → PlaysAs es (onWay T.par W u)

theorem SInv.jj {es : List Ev} {T : Tr} {W : Nat → List Nat} (g : SInv es T W) : JJ es T := by have := g.gi.jj; rwa [List.take_length] at this

theorem jj_par {es : List Ev} {T : Tr} (j : JJ es T) : ParOk T.par T.n := fun c h1 h2 => by
  have h15 := j.n15
  have := j.low c h1 h2
  rw [j.par c (by omega)]
  omega

theorem live_le {es : List Ev} {T : Tr} (j : JJ es T) {u : Nat} (h : Live T u) : u ≤ T.n := by
  rcases h with rfl | ⟨h1, h2, h3⟩
  · omega
  · rw [j.op u h2] at h3
    have := j.open_range h3
    omega

theorem live_up {es : List Ev} {T : Tr} (j : JJ es T) {u : Nat} (h : Live T u) (h0 : u ≠ 0) : Live T (T.par u).toNat := by
  have hle := live_le j h
  have h15 := j.n15
  rcases h with h | ⟨h1, h2, h3⟩
  · exact absurd h h0
  · rw [j.op u h2] at h3
    have hl := j.low u h1 hle
    rw [j.par u h2]
    rcases j.up _ h3 with h4 | h4
    · rw [h4]; exact Or.inl rfl
    · obtain ⟨p, hp⟩ : ∃ p : Nat, parentL es (u : Int) = (p : Int) := ⟨(parentL es (u : Int)).toNat, by omega⟩
      rw [hp] at h4 hl ⊢
      have hr := j.open_range h4
      exact Or.inr ⟨by simp; omega, by simp; omega, by simp only [Int.toNat_natCast]; rw [j.op p (by omega)]; exact h4⟩

theorem live_path {es : List Ev} {T : Tr} (j : JJ es T) : ∀ u, Live T u → ∀ c ∈ pth T.par u, Live T c := by
  intro u
  induction u using Nat.strongRecOn with
  | _ u ih =>
    intro hu c hc
    by_cases h0 : u = 0
    · subst h0; simp [pth_zero] at hc; subst hc; exact Or.inl rfl
    · have hle := live_le j hu
      have hp := jj_par j u (by omega) hle
      rw [pth_step (jj_par j) u (by omega) hle, List.mem_append, List.mem_singleton] at hc
      rcases hc with hc | rfl
      · exact ih _ hp (live_up j hu h0) c hc
      · exact hu

theorem way_lt {es : List Ev} {T : Tr} {W : Nat → List Nat} (g : GI es es.length T W) (u : Nat) : ∀ p ∈ onWay T.par W u, p < es.length := fun p hp => by
  obtain ⟨c, _, hc⟩ := onWay_mem.1 hp
  exact (g.pl c p hc).lt

theorem wrOn_ext {es : List Ev} {m : List Ev} {x p : Nat} (hp : p < es.length) : wrOn (es ++ m) x p ↔ wrOn es x p := by
  unfold wrOn
  rw [List.getElem?_append_left hp]

theorem isOn_ext {es : List Ev} {m : List Ev} {x p : Nat} (hp : p < es.length) : isOn (es ++ m) x p ↔ isOn es x p := by
  unfold isOn
  rw [List.getElem?_append_left hp]

theorem wr_is {es : List Ev} {x p : Nat} (h : wrOn es x p) : isOn es x p := by
  obtain ⟨e, h1, h2, _⟩ := h
  exact ⟨e, h1, h2⟩

/-- One event more that nobody plays. -/
theorem PlaysAs.more {es : List Ev} {L : List Nat} (h : PlaysAs es L) (hl : ∀ p ∈ L, p < es.length) (e : Ev) : PlaysAs (es ++ [e]) L := by
  have hx := play_ext [e] L zeroV hl
  refine ⟨by rw [hx]; exact h.fits, fun x => ?_⟩
  rw [hx, h.val x, List.length_append, List.length_singleton, lastW_old e (fun q => by have := hl _ q; omega)]

/-- A comes behind what lies on the way to b; who lies below b meets it at no object that it writes. -/
theorem plays_ins {es : List Ev} {T : Tr} {W : Nat → List Nat} (j : JJ es T) (e : Ev) (hlt : ∀ c, ∀ p ∈ W c, p < es.length) {b u : Nat} {A : List Nat} (hu : u ≤ T.n) (hbu : b ∈ pth T.par u) (hb : PlaysAs es (onWay T.par W b)) (hU : PlaysAs es (onWay T.par W u)) (hA : PlaysAs (es ++ [e]) (onWay T.par W b ++ A))
    (hd : ∀ c, b < c → b ∈ pth T.par c → c ∈ pth T.par u → ∀ x, ∀ i ∈ A, wrOn (es ++ [e]) x i → ∀ q ∈ W c, ¬ isOn es x q) : PlaysAs (es ++ [e]) (onWay T.par (upd W b (W b ++ A)) u) := by
  have hpo := jj_par j
  have hbn : b ≤ T.n := by have := pth_le hpo u hu b hbu; omega
  obtain ⟨r, hr, h1, h2⟩ := onWay_cut hpo W b u hu hbu
  have h3 := h2 (upd W b (W b ++ A)) fun c hc => by unfold upd; rw [if_neg (by omega)]
  rw [onWay_more hpo W b hbn A] at h3
  have hwl : ∀ c, ∀ p ∈ onWay T.par W c, p < es.length := fun c p hp => by obtain ⟨c', _, hc'⟩ := onWay_mem.1 hp; exact hlt c' p hc'
  have hb' := hb.more (hwl b) e
  have hU' := hU.more (hwl u) e
  rw [h1] at hU'
  rw [h3, List.append_assoc]
  have hR : ∀ p ∈ r.flatMap W, ∃ c ∈ r, p ∈ W c := fun p hp => by rw [List.mem_flatMap] at hp; exact hp
  have hd' : ∀ x, ∀ i ∈ A, wrOn (es ++ [e]) x i → ∀ q ∈ r.flatMap W, ¬ isOn (es ++ [e]) x q := fun x i hi hw q hq => by
    obtain ⟨c, hc, hqc⟩ := hR q hq
    obtain ⟨c1, _, c3, c4⟩ := hr c hc
    rw [isOn_ext (hlt c q hqc)]
    exact hd c c1 c3 c4 x i hi hw q hqc
  have pA := play_app (es := es ++ [e]) (onWay T.par W b) A zeroV hb'.fits
  have pR := play_app (es := es ++ [e]) (onWay T.par W b) (r.flatMap W) zeroV hb'.fits
  have pAR := play_app (es := es ++ [e]) (onWay T.par W b) (A ++ r.flatMap W) zeroV hb'.fits
  have fA := hA.fits
  rw [pA] at fA
  have fR := hU'.fits
  rw [pR] at fR
  obtain ⟨m1, m2⟩ := play_merge fA fR hd'
  refine ⟨by rw [pAR]; exact m1, fun x => ?_⟩
  rw [pAR]
  by_cases hx : ∃ i ∈ A, wrOn (es ++ [e]) x i
  · rw [(m2 x).1 hx, ← pA, hA.val x]
    obtain ⟨i0, hi0, hw0⟩ := hx
    refine lastW_congr _ fun i _ e' he' hk hxe => ?_
    rw [← List.append_assoc, List.mem_append (s := onWay T.par W b ++ A)]
    refine ⟨Or.inl, fun q => ?_⟩
    rcases q with q | q
    · exact q
    · exact absurd ⟨e', he', hxe⟩ (hd' x i0 hi0 hw0 i q)
  · rw [(m2 x).2 hx, ← pR, hU'.val x]
    refine lastW_congr _ fun i _ e' he' hk hxe => ?_
    have hnA : i ∉ A := fun q => hx ⟨i, q, e', he', hxe, by omega⟩
    simp only [List.mem_append]
    constructor
    · rintro (q | q)
      · exact Or.inl q
      · exact Or.inr (Or.inr q)
    · rintro (q | q | q)
      · exact Or.inl q
      · exact absurd q hnA
      · exact Or.inr q

/-- The list of all events is one longer: the gathering so far stays what it was. -/
theorem GI.longer {es : List Ev} {T : Tr} {W : Nat → List Nat} (g : GI es es.length T W) (e : Ev) : GI (es ++ [e]) es.length T W := by
  have hj := g.jj
  rw [List.take_length] at hj
  refine ⟨by rw [List.take_append_of_le_length (Nat.le_refl _), List.take_length]; exact hj, fun x => ?_, fun x p hp => ?_, g.nd, g.ap, g.new⟩
  · refine (g.eq x).trans ?_
    unfold flat
    · refine flatMap_same _ fun i hi => ?_
      have hi' : i < es.length := List.mem_range.1 hi
      unfold seg
      rw [List.getElem?_append_left hi']
      cases he : es[i]? with
      | none => rfl
      | some e' =>
        simp only
        by_cases h5 : e'.k = 5
        · have hm : e' ∈ es := List.mem_of_getElem? he
          have hc := hj.com e'.t (List.any_eq_true.2 ⟨e', hm, by unfold isC; simp [h5]⟩)
          obtain ⟨m, hmm⟩ : ∃ m : Nat, e'.t = (m : Int) := ⟨e'.t.toNat, by omega⟩
          have hb := hj.got m (by omega) (by omega)
          rw [hmm, parentL_more es [e] hb]
        · rw [if_neg (show ¬ (e'.k = 5 ∧ parentL es e'.t = (x : Int)) from fun q => h5 q.1), if_neg (show ¬ (e'.k = 5 ∧ parentL (es ++ [e]) e'.t = (x : Int)) from fun q => h5 q.1)]
  · obtain ⟨h1, e', h2, h3⟩ := g.pl x p hp
    exact ⟨h1, e', by rw [List.getElem?_append_left h1]; exact h2, h3⟩

end Go.Proofs.YtfdalbmopaemgabGreatDoor

namespace Go.Proofs.YtfdalbmopaemgabGreatDoor
open Go.RowKit

theorem SInv.start : SInv [] tr0 (fun _ => []) :=
  ⟨GI.start [], rfl, rfl, fun a b _ _ _ _ i hi => (by cases hi), fun u hu => by
    have h0 : u = 0 := by
      rcases hu with h | ⟨_, _, h⟩
      · exact h
      · cases h
    subst h0
    exact ⟨rfl, fun _ => rfl⟩⟩

/-- What each event brings, whichever it is. -/
theorem SInv.snoc {es : List Ev} {T : Tr} {W : Nat → List Nat} (g : SInv es T W) (k : Int) (t a : Nat) (v s : Int) (hw : wrongL es ⟨k, (t : Int), (a : Int), v, s⟩ = 0) :
    GI (es ++ [(⟨k, (t : Int), (a : Int), v, s⟩ : Ev)]) (es ++ [(⟨k, (t : Int), (a : Int), v, s⟩ : Ev)]).length (stepT T k t a) (gStep W T.par es.length k t) ∧ runG tr0 (fun _ => []) 0 (es ++ [⟨k, (t : Int), (a : Int), v, s⟩]) = (stepT T k t a, gStep W T.par es.length k t) ∧ checkG [] (es ++ [⟨k, (t : Int), (a : Int), v, s⟩]) = (0, 0) := by
  refine ⟨?_, ?_, check_snoc _ es [] g.ck (by simpa using hw)⟩
  · have h := (g.gi.longer ⟨k, (t : Int), (a : Int), v, s⟩).step (by simp) k t a v s (by simp) (by rw [List.take_append_of_le_length (Nat.le_refl _), List.take_length]; exact hw)
    simpa using h
  · rw [run_snoc, g.run]
    simp only [Int.toNat_natCast, Nat.zero_add]

theorem live_of_open {es : List Ev} {T : Tr} (j : JJ es T) {t : Nat} (h : openL es (t : Int) = true) : Live T t ∧ t ≠ 0 := by
  have hr := j.open_range h
  have h15 := j.n15
  exact ⟨Or.inr ⟨by omega, by omega, by rw [j.op t (by omega)]; exact h⟩, by omega⟩

theorem open_of_live {es : List Ev} {T : Tr} (j : JJ es T) {t : Nat} (h : Live T t) (h0 : t ≠ 0) : openL es (t : Int) = true := by
  rcases h with h | ⟨_, h2, h3⟩
  · exact absurd h h0
  · rw [← j.op t h2]; exact h3

/-- Read, Write, Add. -/
theorem SInv.access {es : List Ev} {T : Tr} {W : Nat → List Nat} (g : SInv es T W) (k : Int) (t a : Nat) (v s : Int) (hk : k = 2 ∨ k = 3 ∨ k = 4) (hw : wrongL es ⟨k, (t : Int), (a : Int), v, s⟩ = 0)
    (hlw : k ≠ 2 → ∀ c, c ≠ 0 → Live T c → (∃ q ∈ W c, isOn es a q) → c ∈ pth T.par t) (hlr : k = 2 → ∀ c, c ≠ 0 → Live T c → (∃ q ∈ W c, wrOn es a q) → c ∈ pth T.par t)
    (hs : k ≠ 3 → s = lastW es (onWay T.par W t) a es.length) :
    SInv (es ++ [⟨k, (t : Int), (a : Int), v, s⟩]) T (upd W t (W t ++ [es.length])) := by
  have j := g.jj
  have hpo := jj_par j
  obtain ⟨a1, a2, a3⟩ := g.snoc k t a v s hw
  obtain ⟨_, _, hop, _⟩ := wrong_facts hw
  have hto := hop (by omega)
  obtain ⟨hlt, ht0⟩ := live_of_open j hto
  have htn := live_le j hlt
  have hobj : onObj k = true := onObj_iff.2 (by omega)
  have hT : stepT T k t a = T := by unfold stepT; rw [if_neg (by omega), if_neg (by omega), if_neg (by omega)]
  rw [hT, gStep_obj hobj] at a1 a2
  have hwl : ∀ c, ∀ p ∈ W c, p < es.length := fun c p hp => (g.gi.pl c p hp).lt
  have hel : (es ++ [(⟨k, (t : Int), (a : Int), v, s⟩ : Ev)])[es.length]? = some ⟨k, (t : Int), (a : Int), v, s⟩ := by simp
  have hnew : ∀ x, isOn (es ++ [⟨k, (t : Int), (a : Int), v, s⟩]) x es.length → a = x := fun x ⟨e', h1, h2⟩ => by
    rw [hel] at h1
    cases h1
    simpa using h2
  have hneww : ∀ x, wrOn (es ++ [⟨k, (t : Int), (a : Int), v, s⟩]) x es.length → a = x ∧ k ≠ 2 := fun x ⟨e', h1, h2, h3⟩ => by
    rw [hel] at h1
    cases h1
    exact ⟨by simpa using h2, h3⟩
  -- what t itself plays
  have hA : PlaysAs (es ++ [⟨k, (t : Int), (a : Int), v, s⟩]) (onWay T.par W t ++ [es.length]) := by
    have ht := g.ok t hlt
    have htm := ht.more (fun p hp => by obtain ⟨c, _, hc⟩ := onWay_mem.1 hp; exact hwl c p hc) ⟨k, (t : Int), (a : Int), v, s⟩
    have hnin : es.length ∉ onWay T.par W t := fun q => by obtain ⟨c, _, hc⟩ := onWay_mem.1 q; have := hwl c _ hc; omega
    have pA := play_app (es := es ++ [⟨k, (t : Int), (a : Int), v, s⟩]) (onWay T.par W t) [es.length] zeroV htm.fits
    have hval : (playL (es ++ [⟨k, (t : Int), (a : Int), v, s⟩]) zeroV (onWay T.par W t)).2 a = lastW es (onWay T.par W t) a es.length := by
      rw [htm.val a, List.length_append, List.length_singleton, lastW_old _ hnin]
    have h1 := play_one (V := (playL (es ++ [⟨k, (t : Int), (a : Int), v, s⟩]) zeroV (onWay T.par W t)).2) hel
    simp only [Int.toNat_natCast] at h1
    have hfit : ¬ (nSeen k = true ∧ (playL (es ++ [⟨k, (t : Int), (a : Int), v, s⟩]) zeroV (onWay T.par W t)).2 a ≠ s) := by
      rintro ⟨q1, q2⟩
      have hk3 : k ≠ 3 := fun q => by rw [q] at q1; exact absurd q1 (by decide)
      exact q2 (by rw [hval]; exact (hs hk3).symm)
    rw [if_neg hfit] at h1
    refine ⟨by rw [pA, h1], fun x => ?_⟩
    rw [pA, h1, List.length_append, List.length_singleton]
    simp only
    by_cases hx : x = a
    · subst hx
      by_cases hk2 : k = 2
      · rw [lastW_not _ (by simp only; omega)]
        unfold upd
        rw [if_pos rfl]
        have : becL ⟨k, (t : Int), (x : Int), v, s⟩ = s := by unfold becL; rw [if_neg (by simp only; omega), if_neg (by simp only; omega)]
        rw [this, hs (by omega)]
        exact lastW_congr _ fun i hi e' _ _ _ => by
          rw [List.mem_append, List.mem_singleton]
          exact ⟨Or.inl, fun q => q.elim id (fun q => by omega)⟩
      · rw [lastW_new _ (by simp) (by simp only; omega) (by simp)]
        unfold upd
        rw [if_pos rfl]
    · rw [lastW_not _ (by simp; omega)]
      unfold upd
      rw [if_neg hx, htm.val x, List.length_append, List.length_singleton, lastW_old _ hnin]
      exact lastW_congr _ fun i hi e' _ _ _ => by
        rw [List.mem_append, List.mem_singleton]
        exact ⟨Or.inl, fun q => q.elim id (fun q => by omega)⟩
  have hupd : ∀ c, ∀ q ∈ upd W t (W t ++ [es.length]) c, q ∈ W c ∨ (c = t ∧ q = es.length) := fun c q hq => by
    unfold upd at hq
    by_cases e : c = t
    · rw [if_pos e, List.mem_append, List.mem_singleton] at hq
      rcases hq with hq | hq
      · exact Or.inl (by rw [e]; exact hq)
      · exact Or.inr ⟨e, hq⟩
    · rw [if_neg e] at hq; exact Or.inl hq
  refine ⟨a1, a2, a3, fun b c hb0 hc0 hb hc i hi q hq x hwi hoq => ?_, fun u hu => ?_⟩
  · rcases hupd b i hi with h1 | ⟨rfl, rfl⟩
    · rw [wrOn_ext (hwl b i h1)] at hwi
      rcases hupd c q hq with h2 | ⟨rfl, rfl⟩
      · rw [isOn_ext (hwl c q h2)] at hoq
        exact g.ap b c hb0 hc0 hb hc i h1 q h2 x hwi hoq
      · have hax := hnew x hoq
        subst hax
        left
        by_cases hk2 : k = 2
        · exact hlr hk2 b hb0 hb ⟨i, h1, hwi⟩
        · exact hlw hk2 b hb0 hb ⟨i, h1, wr_is hwi⟩
    · obtain ⟨hax, hk2⟩ := hneww x hwi
      subst hax
      right
      rcases hupd c q hq with h2 | ⟨rfl, rfl⟩
      · rw [isOn_ext (hwl c q h2)] at hoq
        exact hlw hk2 c hc0 hc ⟨q, h2, hoq⟩
      · exact pth_self hpo _ htn
  · have hun := live_le j hu
    by_cases htu : t ∈ pth T.par u
    · refine plays_ins j _ hwl hun htu (g.ok t hlt) (g.ok u hu) hA fun c hc1 hc2 hc3 x i hi hwi q hq hoq => ?_
      rw [List.mem_singleton] at hi
      subst hi
      obtain ⟨hax, hk2⟩ := hneww x hwi
      subst hax
      have hcl := live_path j u hu c hc3
      have := hlw hk2 c (by omega) hcl ⟨q, hq, hoq⟩
      have := pth_le hpo t htn c this
      omega
    · rw [onWay_same fun c hc => by unfold upd; rw [if_neg (fun e => htu (by rw [← e]; exact hc))]]
      exact (g.ok u hu).more (fun p hp => by obtain ⟨c, _, hc⟩ := onWay_mem.1 hp; exact hwl c p hc) _

/-- Begin. -/
theorem SInv.begin_ {es : List Ev} {T : Tr} {W : Nat → List Nat} (g : SInv es T W) (t p : Nat) (hw : wrongL es ⟨1, (t : Int), (p : Int), 0, 0⟩ = 0) (hp : Live T p) :
    SInv (es ++ [⟨1, (t : Int), (p : Int), 0, 0⟩]) (beginT T (p : Int)) W := by
  have j := g.jj
  have hpo := jj_par j
  obtain ⟨a1, a2, a3⟩ := g.snoc 1 t p 0 0 hw
  have hT : stepT T 1 t p = beginT T (p : Int) := by unfold stepT; rw [if_pos rfl]
  rw [hT, gStep_not (by decide) (by decide)] at a1 a2
  have hpn := live_le j hp
  have hpar : ∀ c, 1 ≤ c → c ≤ T.n → (beginT T (p : Int)).par c = T.par c := fun c h1 h2 => by simp only [beginT, upd]; rw [if_neg (by omega)]
  have hpth : ∀ c, c ≤ T.n → pth (beginT T (p : Int)).par c = pth T.par c := fun c hc => pth_same hpo hpar c hc
  have hwl : ∀ c, ∀ q ∈ W c, q < es.length := fun c q hq => (g.gi.pl c q hq).lt
  have hlive : ∀ u, Live (beginT T (p : Int)) u → Live T u ∨ u = T.n + 1 := fun u hu => by
    rcases hu with h | ⟨h1, h2, h3⟩
    · exact Or.inl (Or.inl h)
    · simp only [beginT, upd] at h3
      by_cases e : u = T.n + 1
      · exact Or.inr e
      · rw [if_neg e] at h3; exact Or.inl (Or.inr ⟨h1, h2, h3⟩)
  have hWn : W (T.n + 1) = [] := g.gi.new _ (by omega)
  have hj' := a1.jj
  rw [List.take_length] at hj'
  have hpo' := jj_par hj'
  refine ⟨a1, a2, a3, fun b c hb0 hc0 hb hc i hi q hq x hwi hoq => ?_, fun u hu => ?_⟩
  · rcases hlive b hb with hb | rfl
    · rcases hlive c hc with hc | rfl
      · rw [wrOn_ext (hwl b i hi)] at hwi
        rw [isOn_ext (hwl c q hq)] at hoq
        rw [hpth b (live_le j hb), hpth c (live_le j hc)]
        exact g.ap b c hb0 hc0 hb hc i hi q hq x hwi hoq
      · rw [hWn] at hq; cases hq
    · rw [hWn] at hi; cases hi
  · have hlt : ∀ c, ∀ q ∈ onWay T.par W c, q < es.length := fun c q hq => by obtain ⟨c', _, hc'⟩ := onWay_mem.1 hq; exact hwl c' q hc'
    rcases hlive u hu with hu' | rfl
    · have : onWay (beginT T (p : Int)).par W u = onWay T.par W u := by unfold onWay; rw [hpth u (live_le j hu')]
      rw [this]
      exact (g.ok u hu').more (hlt u) _
    · have hn1 : (beginT T (p : Int)).n = T.n + 1 := rfl
      have hp1 : ((beginT T (p : Int)).par (T.n + 1)).toNat = p := by simp [beginT, upd]
      rw [onWay_step hpo' W (T.n + 1) (by omega) (by rw [hn1]; exact Nat.le_refl _), hp1, hWn, List.append_nil]
      have : onWay (beginT T (p : Int)).par W p = onWay T.par W p := by unfold onWay; rw [hpth p hpn]
      rw [this]
      exact (g.ok p hp).more (hlt p) _

/-- Commit. -/
theorem SInv.commit {es : List Ev} {T : Tr} {W : Nat → List Nat} (g : SInv es T W) (t p : Nat) (hw : wrongL es ⟨5, (t : Int), ((0 : Nat) : Int), 0, 0⟩ = 0) (hp : T.par t = (p : Int)) (hch : childL es (t : Int) = false) :
    SInv (es ++ [⟨5, (t : Int), ((0 : Nat) : Int), 0, 0⟩]) (commitT T t) (upd W p (W p ++ W t)) := by
  have j := g.jj
  have hpo := jj_par j
  obtain ⟨a1, a2, a3⟩ := g.snoc 5 t 0 0 0 hw
  obtain ⟨_, _, hop, _⟩ := wrong_facts hw
  obtain ⟨hlt, ht0⟩ := live_of_open j (hop (by omega))
  have htn := live_le j hlt
  have hT : stepT T 5 t 0 = commitT T t := by unfold stepT; rw [if_neg (by decide), if_pos rfl]
  rw [hT, gStep_com hp] at a1 a2
  have hpt : p < t := by have := hpo t (by omega) htn; rw [hp] at this; simpa using this
  have hpl : Live T p := by have := live_up j hlt ht0; rw [hp] at this; simpa using this
  have hwl : ∀ c, ∀ q ∈ W c, q < es.length := fun c q hq => (g.gi.pl c q hq).lt
  have hpar : (commitT T t).par = T.par := rfl
  have hlive : ∀ u, Live (commitT T t) u → Live T u ∧ u ≠ t := fun u hu => by
    rcases hu with h | ⟨h1, h2, h3⟩
    · exact ⟨Or.inl h, by omega⟩
    · simp only [commitT, upd] at h3
      by_cases e : u = t
      · rw [if_pos e] at h3; cases h3
      · rw [if_neg e] at h3; exact ⟨Or.inr ⟨h1, h2, h3⟩, e⟩
  -- nobody open lies in t
  have hnone : ∀ u, Live T u → t ∈ pth T.par u → u = t := by
    intro u
    induction u using Nat.strongRecOn with
    | _ u ih =>
      intro hu htu
      by_cases e : u = t
      · exact e
      · have hun := live_le j hu
        have hu0 : u ≠ 0 := fun q => by subst q; simp [pth_zero] at htu; omega
        have hup := live_up j hu hu0
        have hlo := hpo u (by omega) hun
        rw [pth_step hpo u (by omega) hun, List.mem_append, List.mem_singleton] at htu
        rcases htu with htu | htu
        · have h1 := ih _ hlo hup htu
          have h15 := j.n15
          have := child_false j hch (open_of_live j hu hu0)
          exfalso
          apply this
          have hl := j.low u (by omega) hun
          rw [j.par u (by omega)] at h1
          omega
        · exact absurd htu.symm e
  have hSt : onWay T.par W p ++ W t = onWay T.par W t := by rw [onWay_step hpo W t (by omega) htn, hp]; simp
  have hupd : ∀ c, ∀ q ∈ upd W p (W p ++ W t) c, q ∈ W c ∨ (c = p ∧ q ∈ W t) := fun c q hq => by
    unfold upd at hq
    by_cases e : c = p
    · rw [if_pos e, List.mem_append] at hq
      rcases hq with hq | hq
      · exact Or.inl (by rw [e]; exact hq)
      · exact Or.inr ⟨e, hq⟩
    · rw [if_neg e] at hq; exact Or.inl hq
  -- who meets what t has
  have hmeet : ∀ c, c ≠ t → Live T c → (t ∈ pth T.par c ∨ c ∈ pth T.par t) → c ∈ pth T.par p := fun c hct hc h => by
    rcases h with h | h
    · exact absurd (hnone c hc h) hct
    · rw [pth_step hpo t (by omega) htn, hp, List.mem_append, List.mem_singleton] at h
      rcases h with h | h
      · simpa using h
      · exact absurd h hct
  refine ⟨a1, a2, a3, fun b c hb0 hc0 hb hc i hi q hq x hwi hoq => ?_, fun u hu => ?_⟩
  · obtain ⟨hb, hbt⟩ := hlive b hb
    obtain ⟨hc, hct⟩ := hlive c hc
    rw [hpar]
    rcases hupd b i hi with h1 | ⟨rfl, h1⟩
    · rw [wrOn_ext (hwl b i h1)] at hwi
      rcases hupd c q hq with h2 | ⟨rfl, h2⟩
      · rw [isOn_ext (hwl c q h2)] at hoq
        exact g.ap b c hb0 hc0 hb hc i h1 q h2 x hwi hoq
      · rw [isOn_ext (hwl t q h2)] at hoq
        exact Or.inl (hmeet b hbt hb (g.ap b t hb0 ht0 hb hlt i h1 q h2 x hwi hoq).symm)
    · rw [wrOn_ext (hwl t i h1)] at hwi
      rcases hupd c q hq with h2 | ⟨rfl, h2⟩
      · rw [isOn_ext (hwl c q h2)] at hoq
        exact Or.inr (hmeet c hct hc (g.ap t c ht0 hc0 hlt hc i h1 q h2 x hwi hoq))
      · exact Or.inl (pth_self hpo _ (live_le j hpl))
  · obtain ⟨hu, hut⟩ := hlive u hu
    rw [hpar]
    have hun := live_le j hu
    have hltw : ∀ c, ∀ q ∈ onWay T.par W c, q < es.length := fun c q hq => by obtain ⟨c', _, hc'⟩ := onWay_mem.1 hq; exact hwl c' q hc'
    by_cases hpu : p ∈ pth T.par u
    · refine plays_ins j _ hwl hun hpu (g.ok p hpl) (g.ok u hu) (by rw [hSt]; exact (g.ok t hlt).more (hltw t) _) fun c hc1 hc2 hc3 x i hi hwi q hq hoq => ?_
      rw [wrOn_ext (hwl t i hi)] at hwi
      have hcl := live_path j u hu c hc3
      have hct : c ≠ t := fun e => hut (hnone u hu (by rw [← e]; exact hc3))
      have h1 := hmeet c hct hcl (g.ap t c ht0 (by omega) hlt hcl i hi q hq x hwi hoq)
      have := pth_le hpo p (live_le j hpl) c h1
      omega
    · rw [onWay_same fun c hc => by unfold upd; rw [if_neg (fun e => hpu (by rw [← e]; exact hc))]]
      exact (g.ok u hu).more (hltw u) _

/-- Abort. -/
theorem SInv.abort {es : List Ev} {T : Tr} {W : Nat → List Nat} (g : SInv es T W) (t : Nat) (hw : wrongL es ⟨6, (t : Int), ((0 : Nat) : Int), 0, 0⟩ = 0) :
    SInv (es ++ [⟨6, (t : Int), ((0 : Nat) : Int), 0, 0⟩]) (abortT T t) W := by
  have j := g.jj
  obtain ⟨a1, a2, a3⟩ := g.snoc 6 t 0 0 0 hw
  obtain ⟨_, _, hop, _⟩ := wrong_facts hw
  have hT : stepT T 6 t 0 = abortT T t := by unfold stepT; rw [if_neg (by decide), if_neg (by decide), if_pos rfl]
  have hlive : ∀ u, Live (abortT T t) u → Live T u := fun u hu => by
    rcases hu with h | ⟨h1, h2, h3⟩
    · exact Or.inl h
    · rw [← hT] at h3
      rcases live_back j hop h2 h3 with h4 | h4
      · exact Or.inr ⟨h1, h2, h4⟩
      · omega
  rw [hT, gStep_not (by decide) (by decide)] at a1 a2
  have hwl : ∀ c, ∀ q ∈ W c, q < es.length := fun c q hq => (g.gi.pl c q hq).lt
  have hpar : (abortT T t).par = T.par := rfl
  refine ⟨a1, a2, a3, fun b c hb0 hc0 hb hc i hi q hq x hwi hoq => ?_, fun u hu => ?_⟩
  · rw [wrOn_ext (hwl b i hi)] at hwi
    rw [isOn_ext (hwl c q hq)] at hoq
    exact g.ap b c hb0 hc0 (hlive b hb) (hlive c hc) i hi q hq x hwi hoq
  · rw [hpar]
    exact (g.ok u (hlive u hu)).more (fun q hq => by obtain ⟨c', _, hc'⟩ := onWay_mem.1 hq; exact hwl c' q hc') _

/-- What is written down comes out as it has come out. -/
theorem SInv.serial {es : List Ev} {T : Tr} {W : Nat → List Nat} (g : SInv es T W) : (checkG [] es) = (0, 0) ∧ ∃ V, replayG es = (-1, V, 0) ∧ ∀ x, V x = lastW es (W 0) x es.length := by
  have h := g.ok 0 (Or.inl rfl)
  rw [onWay_zero] at h
  have hord : orderL es = W 0 := by unfold orderL; rw [gather_run, g.run]
  refine ⟨g.ck, (playL es zeroV (W 0)).2, ?_, h.val⟩
  unfold replayG
  rw [if_pos (by rw [g.ck]), hord]
  have := h.fits
  unfold zeroV at this
  rw [this]
  rfl

end Go.Proofs.YtfdalbmopaemgabGreatDoor
