import Derived.Test.YtfdalbmopaemgabGreatDoorK8
namespace Go.Proofs.YtfdalbmopaemgabGreatDoor
open Go.RowKit

/-! ### What is played: gathered at the commits, and what lies in each transaction -/
def gStep (W : Nat → List Nat) (par : Nat → Int) (i : Nat) (k : Int) (t : Nat) : Nat → List Nat :=
  if onObj k = true then upd W t (W t ++ [i]) else if k = 5 then upd W (par t).toNat (W (par t).toNat ++ W t) else W

def tr0 : Tr := ⟨0, fun _ => 0, fun _ => false⟩

def gatherG : Tr → (Nat → List Nat) → Nat → List Ev → (Nat → List Nat)
  | _, W, _, [] => W
  | T, W, i, e :: l => gatherG (stepT T e.k e.t.toNat e.a.toNat) (gStep W T.par i e.k e.t.toNat) (i + 1) l

def orderL (es : List Ev) : List Nat := gatherG tr0 (fun _ => []) 0 es 0

def seg (es : List Ev) (W : Nat → List Nat) (x i : Nat) : List Nat := match es[i]? with
  | none => []
  | some e => if onObj e.k = true ∧ e.t = (x : Int) then [i] else if e.k = 5 ∧ parentL es e.t = (x : Int) then W e.t.toNat else []

def flat (es : List Ev) (W : Nat → List Nat) (k x : Nat) : List Nat := (List.range k).flatMap (seg es W x)

theorem flat_succ (es : List Ev) (W : Nat → List Nat) (k x : Nat) : flat es W (k + 1) x = flat es W k x ++ seg es W x k := by
  unfold flat
  rw [List.range_succ, List.flatMap_append]
  simp

theorem flatMap_same {f g : Nat → List Nat} : ∀ (l : List Nat), (∀ i ∈ l, f i = g i) → l.flatMap f = l.flatMap g
  | [], _ => rfl
  | a :: l, h => by
    rw [List.flatMap_cons, List.flatMap_cons, h a (List.mem_cons_self ..), flatMap_same l fun i hi => h i (List.mem_cons_of_mem _ hi)]

theorem flat_same {es : List Ev} {W W' : Nat → List Nat} {k x : Nat} (h : ∀ i, i < k → seg es W' x i = seg es W x i) : flat es W' k x = flat es W k x :=
  flatMap_same _ fun i hi => h i (List.mem_range.1 hi)

structure Played (es : List Ev) (k p : Nat) : Prop where
  lt : p < k
  ev : ∃ e, es[p]? = some e ∧ onObj e.k = true ∧ e.a < 4

structure GI (es : List Ev) (k : Nat) (T : Tr) (W : Nat → List Nat) : Prop where
  jj : JJ (es.take k) T
  eq : ∀ x, W x = flat es W k x
  pl : ∀ x, ∀ p ∈ W x, Played es k p
  nd : ∀ x, (W x).Nodup
  ap : ∀ x y, x ≠ y → x ≤ 15 → y ≤ 15 → (x = 0 ∨ T.op x = true) → (y = 0 ∨ T.op y = true) → ∀ p ∈ W x, p ∉ W y
  new : ∀ x, T.n < x → W x = []

theorem GI.start (es : List Ev) : GI es 0 tr0 (fun _ => []) :=
  ⟨by rw [List.take_zero]; exact JJ.start, fun _ => rfl, fun _ p hp => (by cases hp), fun _ => List.nodup_nil, fun x y _ _ _ _ _ p hp => (by cases hp), fun _ _ => rfl⟩

theorem begunN_more {t : Int} {i : Nat} : ∀ (h m : List Ev), begunN t h = some i → begunN t (h ++ m) = some i := by
  intro h m hb
  induction m generalizing h with
  | nil => simpa using hb
  | cons e m ih =>
    have := ih (h ++ [e]) (begunN_snoc_some e hb)
    simpa using this

theorem parentL_more {t : Int} (h m : List Ev) (hb : begunN t h ≠ none) : parentL (h ++ m) t = parentL h t := by
  cases hq : begunN t h with
  | none => exact absurd hq hb
  | some i =>
    unfold parentL
    rw [begunN_more h m hq, hq]
    obtain ⟨hi, _⟩ := begunN_lt t h i hq
    simp only
    rw [List.getElem?_append_left hi]

theorem parentL_take {t : Int} (es : List Ev) (k : Nat) (hb : begunN t (es.take k) ≠ none) : parentL es t = parentL (es.take k) t := by
  have := parentL_more (es.take k) (es.drop k) hb
  rwa [List.take_append_drop] at this

theorem open_not_com {h : List Ev} {c : Int} (ho : openL h c = true) : h.any (isC c) = false := by
  unfold openL at ho
  cases hb : begunN c h with
  | none => rw [hb] at ho; cases ho
  | some b =>
    rw [hb] at ho
    revert ho
    cases h.any (isC c) <;> simp

theorem com_ne {es : List Ev} {k : Nat} {T : Tr} (j : JJ (es.take k) T) (y : Nat) (hy : y = 0 ∨ openL (es.take k) (y : Int) = true) (i : Nat) (hi : i < k) (e : Ev) (he : es[i]? = some e) (h5 : e.k = 5) : e.t.toNat ≠ y := by
  intro hE
  have hm : e ∈ es.take k := by
    obtain ⟨h1, h2⟩ := List.getElem?_eq_some_iff.1 he
    rw [List.mem_take_iff_getElem]
    exact ⟨i, by omega, h2⟩
  have hc : (es.take k).any (isC e.t) = true := List.any_eq_true.2 ⟨e, hm, by unfold isC; simp [h5]⟩
  have hr := j.com e.t hc
  rcases hy with rfl | hy
  · omega
  · have : e.t = (y : Int) := by omega
    rw [this, open_not_com hy] at hc
    cases hc

theorem seg_upd {es : List Ev} {k : Nat} {T : Tr} (j : JJ (es.take k) T) (y : Nat) (hy : y = 0 ∨ openL (es.take k) (y : Int) = true) (W : Nat → List Nat) (L : List Nat) (x i : Nat) (hi : i < k) : seg es (upd W y L) x i = seg es W x i := by
  unfold seg
  cases he : es[i]? with
  | none => rfl
  | some e =>
    simp only
    by_cases h5 : e.k = 5
    · have := com_ne j y hy i hi e he h5
      unfold upd
      rw [if_neg this]
    · rw [if_neg (show ¬ (e.k = 5 ∧ parentL es e.t = (x : Int)) from fun q => h5 q.1), if_neg (show ¬ (e.k = 5 ∧ parentL es e.t = (x : Int)) from fun q => h5 q.1)]

theorem wrong_facts {h : List Ev} {k : Int} {t a : Nat} {v s : Int} (hw : wrongL h ⟨k, (t : Int), (a : Int), v, s⟩ = 0) : h.length < 60 ∧ isKind k = true ∧ (k ≠ 1 → openL h (t : Int) = true) ∧ (2 ≤ k → k ≤ 4 → a < 4) := by
  unfold wrongL at hw
  simp only at hw
  by_cases w0 : 60 ≤ h.length
  · rw [if_pos w0] at hw; cases hw
  rw [if_neg w0] at hw
  by_cases w1 : isKind k = false
  · rw [if_pos w1] at hw; cases hw
  rw [if_neg w1] at hw
  by_cases w2 : k = 1 ∧ (15 ≤ countL h ∨ (t : Int) ≠ (countL h : Int) + 1)
  · rw [if_pos w2] at hw; cases hw
  rw [if_neg w2] at hw
  by_cases w3 : k = 1 ∧ (a : Int) ≠ 0 ∧ openL h (a : Int) = false
  · rw [if_pos w3] at hw; cases hw
  rw [if_neg w3] at hw
  by_cases w4 : k ≠ 1 ∧ openL h (t : Int) = false
  · rw [if_pos w4] at hw; cases hw
  rw [if_neg w4] at hw
  by_cases w5 : 2 ≤ k ∧ k ≤ 4 ∧ 4 ≤ (a : Int)
  · rw [if_pos w5] at hw; cases hw
  refine ⟨by omega, by simpa using w1, fun hk => ?_, fun h1 h2 => ?_⟩
  · cases ho : openL h (t : Int) with
    | true => rfl
    | false => exact absurd ⟨hk, ho⟩ w4
  · by_cases h4 : 4 ≤ (a : Int)
    · exact absurd ⟨h1, h2, h4⟩ w5
    · omega

theorem onObj_iff {k : Int} : onObj k = true ↔ 2 ≤ k ∧ k ≤ 4 := by
  unfold onObj
  simp
  omega

/-- Who lives on. -/
theorem live_back {h : List Ev} {T : Tr} (j : JJ h T) {k : Int} {t a : Nat} (ho : k ≠ 1 → openL h (t : Int) = true) {x : Nat} (hx : x ≤ 15) (hl : (stepT T k t a).op x = true) : T.op x = true ∨ (k = 1 ∧ x = T.n + 1) := by
  unfold stepT at hl
  by_cases k1 : k = 1
  · rw [if_pos k1] at hl
    simp only [beginT, upd] at hl
    by_cases e : x = T.n + 1
    · exact Or.inr ⟨k1, e⟩
    · rw [if_neg e] at hl; exact Or.inl hl
  · rw [if_neg k1] at hl
    by_cases k5 : k = 5
    · rw [if_pos k5] at hl
      simp only [commitT, upd] at hl
      by_cases e : x = t
      · rw [if_pos e] at hl; cases hl
      · rw [if_neg e] at hl; exact Or.inl hl
    · rw [if_neg k5] at hl
      by_cases k6 : k = 6
      · rw [if_pos k6] at hl
        simp only [abortT] at hl
        rw [ab_main j t (ho k1) 15 (by omega) x hx, if_pos hx] at hl
        left
        rw [j.op x hx]
        revert hl
        cases openL h (x : Int) <;> simp
      · rw [if_neg k6] at hl; exact Or.inl hl

theorem step_n {T : Tr} {k : Int} {t a : Nat} : T.n ≤ (stepT T k t a).n := by
  unfold stepT
  by_cases k1 : k = 1
  · rw [if_pos k1]; simp [beginT]
  · rw [if_neg k1]
    by_cases k5 : k = 5
    · rw [if_pos k5]; simp [commitT]
    · rw [if_neg k5]
      by_cases k6 : k = 6
      · rw [if_pos k6]; simp [abortT]
      · rw [if_neg k6]; exact Nat.le_refl _

theorem nodup_bound : ∀ (k : Nat) (l : List Nat), l.Nodup → (∀ p ∈ l, p < k) → l.length ≤ k
  | 0, l, _, h => by
    cases l with
    | nil => simp
    | cons a l => have := h a (List.mem_cons_self ..); omega
  | k + 1, l, hn, h => by
    have h1 := nodup_bound k (l.erase k) (hn.erase k) fun p hp => by
      rw [hn.mem_erase_iff] at hp
      have := h p hp.2
      omega
    rw [List.length_erase] at h1
    split at h1 <;> omega

theorem GI.step {es : List Ev} {k : Nat} {T : Tr} {W : Nat → List Nat} (g : GI es k T W) (hk : k < es.length) (kk : Int) (t a : Nat) (v s : Int) (he : es[k] = ⟨kk, (t : Int), (a : Int), v, s⟩)
    (hw : wrongL (es.take k) ⟨kk, (t : Int), (a : Int), v, s⟩ = 0) : GI es (k + 1) (stepT T kk t a) (gStep W T.par k kk t) := by
  obtain ⟨hm, hj⟩ := step_ok g.jj kk t a v s hw
  obtain ⟨h60, hkd, hop, ha4⟩ := wrong_facts hw
  have hj' : JJ (es.take (k + 1)) (stepT T kk t a) := by rw [List.take_succ_eq_append_getElem hk, he]; exact hj
  have hek : es[k]? = some ⟨kk, (t : Int), (a : Int), v, s⟩ := by rw [List.getElem?_eq_getElem hk, he]
  have hpl : ∀ x, ∀ p ∈ W x, Played es (k + 1) p := fun x p hp => ⟨by have := (g.pl x p hp).lt; omega, (g.pl x p hp).ev⟩
  have hfresh : ∀ x, k ∉ W x := fun x hx => by have := (g.pl x k hx).lt; omega
  have hlb : ∀ x, x ≤ 15 → (x = 0 ∨ (stepT T kk t a).op x = true) → (x = 0 ∨ T.op x = true) ∨ (kk = 1 ∧ x = T.n + 1) := fun x hx hl => by
    rcases hl with h0 | hl
    · exact Or.inl (Or.inl h0)
    · rcases live_back g.jj hop hx hl with h1 | h1
      · exact Or.inl (Or.inr h1)
      · exact Or.inr h1
  by_cases hobj : onObj kk = true
  · have hr := onObj_iff.1 hobj
    have hto := hop (by omega)
    have hrg := g.jj.open_range hto
    have hW : gStep W T.par k kk t = upd W t (W t ++ [k]) := by unfold gStep; rw [if_pos hobj]
    have hT : stepT T kk t a = T := by unfold stepT; rw [if_neg (by omega), if_neg (by omega), if_neg (by omega)]
    rw [hT] at hj' ⊢
    rw [hW]
    refine ⟨hj', fun x => ?_, fun x p hp => ?_, fun x => ?_, fun x y hxy hx hy lx ly p hp hq => ?_, fun x hx => ?_⟩
    · rw [flat_succ, flat_same fun i hi => seg_upd g.jj t (Or.inr hto) W _ x i hi, ← g.eq x]
      have hs : seg es (upd W t (W t ++ [k])) x k = if (t : Int) = (x : Int) then [k] else [] := by
        unfold seg
        rw [hek]
        simp only
        by_cases e : (t : Int) = (x : Int)
        · rw [if_pos ⟨hobj, e⟩, if_pos e]
        · rw [if_neg (fun q => e q.2), if_neg (fun q => by have := q.1; omega), if_neg e]
      rw [hs]
      unfold upd
      by_cases e : x = t
      · subst e; rw [if_pos rfl, if_pos rfl]
      · rw [if_neg e, if_neg (by omega), List.append_nil]
    · unfold upd at hp
      by_cases e : x = t
      · rw [if_pos e, List.mem_append, List.mem_singleton] at hp
        rcases hp with hp | rfl
        · exact hpl t p hp
        · exact ⟨by omega, _, hek, hobj, by have := ha4 hr.1 hr.2; simp only; omega⟩
      · rw [if_neg e] at hp; exact hpl x p hp
    · unfold upd
      by_cases e : x = t
      · rw [if_pos e, List.nodup_append]
        exact ⟨g.nd t, by simp, fun p hp q hq hpq => hfresh t (by rw [List.mem_singleton] at hq; rw [← hq, ← hpq]; exact hp)⟩
      · rw [if_neg e]; exact g.nd x
    · unfold upd at hp hq
      by_cases e : x = t
      · rw [if_neg (by omega)] at hq
        rw [if_pos e, List.mem_append, List.mem_singleton] at hp
        rcases hp with hp | rfl
        · exact g.ap x y hxy hx hy lx ly p (by rw [e]; exact hp) hq
        · exact hfresh y hq
      · rw [if_neg e] at hp
        by_cases e' : y = t
        · rw [if_pos e', List.mem_append, List.mem_singleton] at hq
          rcases hq with hq | rfl
          · exact g.ap x y hxy hx hy lx ly p hp (by rw [e']; exact hq)
          · exact hfresh x hp
        · rw [if_neg e'] at hq
          exact g.ap x y hxy hx hy lx ly p hp hq
    · unfold upd
      rw [if_neg (by omega)]
      exact g.new x hx
  · by_cases h5 : kk = 5
    · subst h5
      have hto := hop (by omega)
      have hrg := g.jj.open_range hto
      obtain ⟨ht15, hopt, hcht⟩ := hm.c rfl
      have hlow := g.jj.low t (by omega) (by omega)
      have hpar := g.jj.par t ht15
      obtain ⟨p, hp⟩ : ∃ p : Nat, parentL (es.take k) (t : Int) = (p : Int) := ⟨(parentL (es.take k) (t : Int)).toNat, by omega⟩
      have hpe : parentL es (t : Int) = (p : Int) := by rw [parentL_take es k (open_begun hto), hp]
      have hup : p = 0 ∨ openL (es.take k) (p : Int) = true := by
        rcases g.jj.up _ hto with h1 | h1
        · rw [hp] at h1; exact Or.inl (by omega)
        · rw [hp] at h1; exact Or.inr h1
      have hW : gStep W T.par k 5 t = upd W p (W p ++ W t) := by unfold gStep; rw [if_neg hobj, if_pos rfl, hpar, hp, Int.toNat_natCast]
      have hT : stepT T 5 t a = commitT T t := by unfold stepT; rw [if_neg (by omega), if_pos rfl]
      have hpt : p < t := by omega
      have lp : p = 0 ∨ T.op p = true := by
        rcases hup with h1 | h1
        · exact Or.inl h1
        · exact Or.inr (by rw [g.jj.op p (by omega)]; exact h1)
      have hnot : ∀ x, (x = 0 ∨ (commitT T t).op x = true) → x ≠ t := fun x hx e => by
        rcases hx with hx | hx
        · omega
        · simp only [commitT, upd] at hx; rw [if_pos e] at hx; cases hx
      have hlb5 : ∀ x, x ≤ 15 → (x = 0 ∨ (commitT T t).op x = true) → (x = 0 ∨ T.op x = true) := fun x hx hl => by
        rcases hlb x hx (by rw [hT]; exact hl) with h1 | h1
        · exact h1
        · omega
      rw [hT] at hj' ⊢
      rw [hW]
      refine ⟨hj', fun x => ?_, fun x q hq => ?_, fun x => ?_, fun x y hxy hx hy lx ly q hq hq' => ?_, fun x hx => ?_⟩
      · rw [flat_succ, flat_same fun i hi => seg_upd g.jj p hup W _ x i hi, ← g.eq x]
        have hs : seg es (upd W p (W p ++ W t)) x k = if p = x then W t else [] := by
          unfold seg
          rw [hek]
          simp only
          rw [if_neg (fun q => hobj q.1), hpe, Int.toNat_natCast]
          by_cases e : p = x
          · rw [if_pos ⟨by trivial, by omega⟩, if_pos e]
            unfold upd
            rw [if_neg (by omega)]
          · rw [if_neg (fun q => e (by omega)), if_neg e]
        rw [hs]
        unfold upd
        by_cases e : x = p
        · subst e; rw [if_pos rfl, if_pos rfl]
        · rw [if_neg e, if_neg (by omega), List.append_nil]
      · unfold upd at hq
        by_cases e : x = p
        · rw [if_pos e, List.mem_append] at hq
          rcases hq with hq | hq
          · exact hpl p q hq
          · exact hpl t q hq
        · rw [if_neg e] at hq; exact hpl x q hq
      · unfold upd
        by_cases e : x = p
        · rw [if_pos e, List.nodup_append]
          exact ⟨g.nd p, g.nd t, fun q hq q' hq' hqq => g.ap p t (by omega) (by omega) ht15 lp (Or.inr hopt) q hq (by rw [hqq]; exact hq')⟩
        · rw [if_neg e]; exact g.nd x
      · have hxt := hnot x lx
        have hyt := hnot y ly
        have lx' := hlb5 x hx lx
        have ly' := hlb5 y hy ly
        unfold upd at hq hq'
        by_cases e : x = p
        · rw [if_neg (by omega)] at hq'
          rw [if_pos e, List.mem_append] at hq
          rcases hq with hq | hq
          · exact g.ap x y hxy hx hy lx' ly' q (by rw [e]; exact hq) hq'
          · exact g.ap t y (Ne.symm hyt) ht15 hy (Or.inr hopt) ly' q hq hq'
        · rw [if_neg e] at hq
          by_cases e' : y = p
          · rw [if_pos e', List.mem_append] at hq'
            rcases hq' with hq' | hq'
            · exact g.ap x y hxy hx hy lx' ly' q hq (by rw [e']; exact hq')
            · exact g.ap x t hxt hx ht15 lx' (Or.inr hopt) q hq hq'
          · rw [if_neg e'] at hq'
            exact g.ap x y hxy hx hy lx' ly' q hq hq'
      · have hx' : T.n < x := hx
        unfold upd
        rw [if_neg (by omega)]
        exact g.new x hx'
    · have hW : gStep W T.par k kk t = W := by unfold gStep; rw [if_neg hobj, if_neg h5]
      rw [hW]
      refine ⟨hj', fun x => ?_, hpl, g.nd, fun x y hxy hx hy lx ly p hp hq => ?_, fun x hx => g.new x (Nat.lt_of_le_of_lt step_n hx)⟩
      · rw [flat_succ, ← g.eq x]
        have hs : seg es W x k = [] := by
          unfold seg
          rw [hek]
          simp only
          rw [if_neg (fun q => hobj q.1), if_neg (fun q => h5 q.1)]
        rw [hs, List.append_nil]
      · rcases hlb x hx lx with h1 | h1
        · rcases hlb y hy ly with h2 | h2
          · exact g.ap x y hxy hx hy h1 h2 p hp hq
          · rw [g.new y (by omega)] at hq; cases hq
        · rw [g.new x (by omega)] at hp; cases hp

/-- A list that Check lets through has nothing wrong anywhere. -/
theorem check_none : ∀ (l pre : List Ev), (checkG pre l).1 = 0 → ∀ (i : Nat) (hi : i < l.length), wrongL (pre ++ l.take i) l[i] = 0
  | [], _, _, i, hi => by simp at hi
  | e :: l, pre, h, i, hi => by
    unfold checkG at h
    by_cases hw : wrongL pre e = 0
    · rw [if_pos hw] at h
      cases i with
      | zero => simpa using hw
      | succ i =>
        have := check_none l (pre ++ [e]) h i (by simpa using hi)
        simpa using this
    · rw [if_neg hw] at h
      exact absurd h hw

theorem check_len {es : List Ev} (h : (checkG [] es).1 = 0) : es.length ≤ 60 := by
  by_cases hl : es.length ≤ 60
  · exact hl
  · have := check_none es [] h 60 (by omega)
    unfold wrongL at this
    rw [if_pos (by simp; omega)] at this
    cases this

theorem gather_drop {T : Tr} {W : Nat → List Nat} {es : List Ev} {k : Nat} (hk : k < es.length) (kk : Int) (t a : Nat) (v s : Int) (he : es[k] = ⟨kk, (t : Int), (a : Int), v, s⟩) :
    gatherG T W k (es.drop k) = gatherG (stepT T kk t a) (gStep W T.par k kk t) (k + 1) (es.drop (k + 1)) := by
  rw [List.drop_eq_getElem_cons hk, he]
  simp only [gatherG, Int.toNat_natCast]

theorem GI.bound {es : List Ev} {k : Nat} {T : Tr} {W : Nat → List Nat} (g : GI es k T W) (x : Nat) : (W x).length ≤ k := nodup_bound k _ (g.nd x) fun p hp => (g.pl x p hp).lt

end Go.Proofs.YtfdalbmopaemgabGreatDoor
