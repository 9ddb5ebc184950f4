import Derived.Test.YtfdalbmopaemgabGreatDoorR8
namespace Go.Proofs.YtfdalbmopaemgabGreatDoor
open Go.RowKit

/-! ### The transactions, as they are kept beside a history -/
structure Tr where
  n : Nat
  par : Nat → Int
  op : Nat → Bool

def upd {α : Type} (f : Nat → α) (i : Nat) (v : α) : Nat → α := fun j => if j = i then v else f j

structure JJ (h : List Ev) (T : Tr) : Prop where
  n : T.n = countL h
  n15 : T.n ≤ 15
  got : ∀ c : Nat, 1 ≤ c → c ≤ T.n → begunN (c : Int) h ≠ none
  none_ : ∀ c : Int, c < 1 ∨ (T.n : Int) < c → begunN c h = none
  par : ∀ c : Nat, c ≤ 15 → T.par c = parentL h (c : Int)
  low : ∀ c : Nat, 1 ≤ c → c ≤ T.n → 0 ≤ parentL h (c : Int) ∧ parentL h (c : Int) < (c : Int)
  op : ∀ c : Nat, c ≤ 15 → T.op c = openL h (c : Int)
  com : ∀ c : Int, h.any (isC c) = true → 1 ≤ c ∧ c ≤ (T.n : Int)
  up : ∀ c : Int, openL h c = true → parentL h c = 0 ∨ openL h (parentL h c) = true

theorem open_begun {h : List Ev} {c : Int} (ho : openL h c = true) : begunN c h ≠ none := by
  intro e
  unfold openL at ho
  rw [e] at ho
  cases ho

theorem JJ.open_range {h : List Ev} {T : Tr} (j : JJ h T) {c : Int} (ho : openL h c = true) : 1 ≤ c ∧ c ≤ (T.n : Int) := by
  by_cases hc : c < 1 ∨ (T.n : Int) < c
  · exact absurd (j.none_ c hc) (open_begun ho)
  · omega

theorem JJ.start : JJ [] ⟨0, fun _ => 0, fun _ => false⟩ :=
  ⟨rfl, by decide, fun c h1 h2 => by simp only at h2; omega, fun _ _ => rfl, fun _ _ => rfl, fun c h1 h2 => by simp only at h2; omega, fun _ _ => rfl, fun c hc => by simp at hc, fun c hc => by simp [openL, begunN] at hc⟩

theorem begunN_snoc (t : Int) (h : List Ev) (e : Ev) : begunN t (h ++ [e]) = match begunN t h with
    | some i => some i
    | none => if isB t e then some h.length else none := by
  induction h with
  | nil => simp only [List.nil_append, begunN]; split <;> simp
  | cons x l ih =>
    simp only [List.cons_append, begunN]
    by_cases hx : isB t x = true
    · simp [hx]
    · rw [ih]
      cases begunN t l with
      | none => by_cases he : isB t e = true <;> simp [hx, he]
      | some i => simp [hx]

theorem begunN_snoc_some {t : Int} {h : List Ev} {i : Nat} (e : Ev) (hb : begunN t h = some i) : begunN t (h ++ [e]) = some i := by rw [begunN_snoc, hb]
theorem begunN_snoc_none {t : Int} {h : List Ev} (e : Ev) (hb : begunN t h = none) (he : isB t e = false) : begunN t (h ++ [e]) = none := by rw [begunN_snoc, hb]; simp [he]
theorem begunN_snoc_new {t : Int} {h : List Ev} (e : Ev) (hb : begunN t h = none) (he : isB t e = true) : begunN t (h ++ [e]) = some h.length := by rw [begunN_snoc, hb]; simp [he]

theorem parentL_snoc_old {t : Int} {h : List Ev} (e : Ev) (he : begunN t h ≠ none ∨ isB t e = false) : parentL (h ++ [e]) t = parentL h t := by
  cases hb : begunN t h with
  | none =>
    rcases he with he | he
    · exact absurd hb he
    · unfold parentL
      rw [begunN_snoc_none e hb he, hb]
  | some i =>
    unfold parentL
    rw [begunN_snoc_some e hb, hb]
    obtain ⟨hi, _⟩ := begunN_lt t h i hb
    simp only
    rw [List.getElem?_append_left hi]

theorem parentL_snoc_new {t : Int} {h : List Ev} (e : Ev) (hb : begunN t h = none) (he : isB t e = true) : parentL (h ++ [e]) t = e.a := by
  unfold parentL
  rw [begunN_snoc_new e hb he]
  simp

theorem countL_snoc (h : List Ev) (e : Ev) : countL (h ++ [e]) = countL h + (if e.k == 1 then 1 else 0) := by
  unfold countL
  rw [List.filter_append, List.length_append]
  congr 1
  cases hq : (e.k == 1) <;> simp [List.filter, hq]

theorem within_zero (h : List Ev) (a : Int) : ∀ f, withinG h a f 0 = ((0 : Int) == a)
  | 0 => rfl
  | f + 1 => by
    unfold withinG
    by_cases e : (0 : Int) = a
    · rw [if_pos e]; simp [e]
    · rw [if_neg e, if_pos rfl]; simp [e]

/-- How many steps are enough. -/
theorem within_fuel {h : List Ev} {T : Tr} (j : JJ h T) (a : Int) : ∀ (c : Nat), c ≤ T.n → ∀ f g, c ≤ f → c ≤ g → withinG h a f (c : Int) = withinG h a g (c : Int) := by
  intro c
  induction c using Nat.strongRecOn with
  | _ c ih =>
    intro hc f g hf hg
    by_cases h0 : c = 0
    · subst h0
      exact (within_zero h a f).trans (within_zero h a g).symm
    · obtain ⟨f', rfl⟩ : ∃ f', f = f' + 1 := ⟨f - 1, by omega⟩
      obtain ⟨g', rfl⟩ : ∃ g', g = g' + 1 := ⟨g - 1, by omega⟩
      have hl := j.low c (by omega) hc
      obtain ⟨p, hp⟩ : ∃ p : Nat, parentL h (c : Int) = (p : Int) := ⟨(parentL h (c : Int)).toNat, by omega⟩
      unfold withinG
      rw [hp, ih p (by omega) (by omega) f' g' (by omega) (by omega)]

theorem within_step {h : List Ev} {T : Tr} (j : JJ h T) (a : Int) (c : Nat) (h1 : 1 ≤ c) (hc : c ≤ T.n) : withinG h a 16 (c : Int) = if (c : Int) = a then true else withinG h a 16 (parentL h (c : Int)) := by
  have hn := j.n15
  have hl := j.low c h1 hc
  obtain ⟨p, hp⟩ : ∃ p : Nat, parentL h (c : Int) = (p : Int) := ⟨(parentL h (c : Int)).toNat, by omega⟩
  rw [withinG, hp, within_fuel j a p (by omega) 15 16 (by omega) (by omega)]
  by_cases e : (c : Int) = a
  · rw [if_pos e, if_pos e]
  · rw [if_neg e, if_neg e, if_neg (by omega)]

theorem within_same {h h' : List Ev} (a : Int) (S : Int → Prop) (hS : ∀ c, S c → c ≠ 0 → parentL h' c = parentL h c ∧ S (parentL h c)) : ∀ f c, S c → withinG h' a f c = withinG h a f c
  | 0, c, _ => rfl
  | f + 1, c, hc => by
    unfold withinG
    by_cases e : c = a
    · rw [if_pos e, if_pos e]
    · by_cases z : c = 0
      · rw [if_neg e, if_neg e, if_pos z, if_pos z]
      · rw [if_neg e, if_neg e, if_neg z, if_neg z, (hS c hc z).1]
        exact within_same a S hS f _ (hS c hc z).2

theorem any_congr' {p q : Ev → Bool} : ∀ (l : List Ev), (∀ e ∈ l, p e = q e) → l.any p = l.any q
  | [], _ => rfl
  | e :: l, h => by
    simp only [List.any_cons]
    rw [h e (List.mem_cons_self ..), any_congr' l fun x hx => h x (List.mem_cons_of_mem _ hx)]

/-- One event more, of a transaction that was begun. -/
theorem open_snoc {h : List Ev} (e : Ev) {c : Int} {b : Nat} (hb : begunN c h = some b) (hw : ∀ a, withinG (h ++ [e]) a 16 c = withinG h a 16 c) :
    openL (h ++ [e]) c = (openL h c && !isC c e && !isX h c e) := by
  have hbl := (begunN_lt c h b hb).1
  have hX : ∀ x, isX (h ++ [e]) c x = isX h c x := fun x => by unfold isX; rw [hw]
  unfold openL
  rw [begunN_snoc_some e hb, hb]
  simp only
  rw [List.drop_append_of_le_length (by omega), List.any_append, List.any_append, any_congr' _ fun x _ => hX x, any_congr' [e] fun x _ => hX x]
  simp only [List.any_cons, List.any_nil, Bool.or_false]
  cases h.any (isC c) <;> cases (h.drop b).any (isX h c) <;> cases isC c e <;> cases isX h c e <;> rfl

theorem open_none {h : List Ev} {c : Int} (hb : begunN c h = none) : openL h c = false := by unfold openL; rw [hb]

theorem isB_of_k {e : Ev} (hk : e.k ≠ 1) (t : Int) : isB t e = false := by unfold isB; simp [hk]

/-- An event that begins nothing. -/
theorem JJ.quiet {h : List Ev} {T : Tr} (j : JJ h T) (e : Ev) (op' : Nat → Bool) (hk : e.k ≠ 1) (hc : ∀ c, isC c e = true → 1 ≤ c ∧ c ≤ (T.n : Int)) (ho : ∀ c : Nat, c ≤ 15 → op' c = (openL h (c : Int) && !isC (c : Int) e && !isX h (c : Int) e))
    (hu : ∀ c : Int, openL h c = true → isC c e = false → isX h c e = false → parentL h c ≠ 0 → isC (parentL h c) e = false ∧ isX h (parentL h c) e = false) : JJ (h ++ [e]) ⟨T.n, T.par, op'⟩ := by
  have hB := isB_of_k hk
  have hp : ∀ c, parentL (h ++ [e]) c = parentL h c := fun c => parentL_snoc_old e (Or.inr (hB c))
  have hw : ∀ a f c, withinG (h ++ [e]) a f c = withinG h a f c := fun a f c => within_same a (fun _ => True) (fun c _ _ => ⟨hp c, trivial⟩) f c trivial
  have hop : ∀ c, openL (h ++ [e]) c = (openL h c && !isC c e && !isX h c e) := fun c => by
    cases hb : begunN c h with
    | none => rw [open_none hb, open_none (begunN_snoc_none e hb (hB c))]; rfl
    | some b => exact open_snoc e hb fun a => hw a 16 c
  refine ⟨?_, j.n15, ?_, ?_, fun c hc' => by rw [hp]; exact j.par c hc', fun c h1 h2 => by rw [hp]; exact j.low c h1 h2, fun c hc' => by rw [hop]; exact ho c hc', ?_, ?_⟩
  · rw [countL_snoc, j.n]; simp [hk]
  · intro c h1 h2 h3
    cases hb : begunN (c : Int) h with
    | none => exact j.got c h1 h2 hb
    | some b => rw [begunN_snoc_some e hb] at h3; cases h3
  · intro c hc'
    exact begunN_snoc_none e (j.none_ c hc') (hB c)
  · intro c hc'
    rw [List.any_append] at hc'
    cases hq : h.any (isC c) with
    | true => exact j.com c hq
    | false => rw [hq] at hc'; exact hc c (by simpa using hc')
  · intro c hc'
    rw [hop] at hc'
    rw [hp, hop]
    have h1 : openL h c = true ∧ isC c e = false ∧ isX h c e = false := by
      revert hc'
      cases openL h c <;> cases isC c e <;> cases isX h c e <;> simp
    by_cases hz : parentL h c = 0
    · exact Or.inl hz
    · obtain ⟨u1, u2⟩ := hu c h1.1 h1.2.1 h1.2.2 hz
      rcases j.up c h1.1 with h2 | h2
      · exact absurd h2 hz
      · exact Or.inr (by rw [h2, u1, u2]; rfl)

end Go.Proofs.YtfdalbmopaemgabGreatDoor
