import Derived.Test.YtfdalbmopaemgabGreatDoorK7
namespace Go.Proofs.YtfdalbmopaemgabGreatDoor
open Go.RowKit

theorem isO_open {h : List Ev} {T : Tr} (j : JJ h T) (t : Nat) : isO T.op t = openL h (t : Int) := by
  unfold isO
  by_cases h15 : t ≤ 15
  · rw [decide_eq_true h15, Bool.true_and, j.op t h15]
  · rw [decide_eq_false h15, Bool.false_and, open_none (j.none_ _ (by have := j.n15; omega))]

theorem mayO_open {h : List Ev} {T : Tr} (j : JJ h T) (a : Nat) : mayO T.op (a : Int) = ((a : Int) == 0 || openL h (a : Int)) := by
  rw [mayO_nat, isO_open j]

theorem any_range {p q : Nat → Bool} (n : Nat) (h : ∀ i, i < n → p i = q i) : (List.range n).any p = (List.range n).any q := by
  rw [Bool.eq_iff_iff, List.any_eq_true, List.any_eq_true]
  constructor
  · rintro ⟨i, hi, hp⟩
    exact ⟨i, hi, by rw [← h i (by simpa using hi)]; exact hp⟩
  · rintro ⟨i, hi, hp⟩
    exact ⟨i, hi, by rw [h i (by simpa using hi)]; exact hp⟩

theorem child_eq {h : List Ev} {T : Tr} (j : JJ h T) (t : Int) : childT T t = childL h t := by
  unfold childT childL
  exact any_range 15 fun i hi => by rw [j.op (i + 1) (by omega), j.par (i + 1) (by omega)]

theorem stray_empty (e : Ev) (hk : isKind e.k = true) : strayL e = !emptyL e := by
  obtain ⟨k, t, a, v, s⟩ := e
  have hc := kinds6 hk
  simp only at hc
  rcases hc with rfl | rfl | rfl | rfl | rfl | rfl <;> simp [strayL, emptyL, nArg, nVal, nSeen, onObj, bne] <;> cases (a == 0) <;> cases (v == 0) <;> cases (s == 0) <;> rfl

theorem fault_wrong {h : List Ev} {T : Tr} (j : JJ h T) (hl : h.length < 60) (k : Int) (t a : Nat) (v s : Int) : faultL T k t a v s = wrongL h ⟨k, (t : Int), (a : Int), v, s⟩ := by
  unfold faultL wrongL
  rw [if_neg (show ¬ 60 ≤ h.length by omega)]
  simp only
  cases hkd : isKind k with
  | false => rfl
  | true =>
    have hn15 := j.n15
    simp only [Bool.true_eq_false, if_false]
    rw [child_eq j, stray_empty _ hkd, ← j.n]
    unfold txL
    rw [isO_open j, mayO_open j]
    obtain ⟨em, hem⟩ : ∃ em, emptyL ⟨k, (t : Int), (a : Int), v, s⟩ = em := ⟨_, rfl⟩
    obtain ⟨o, ho⟩ : ∃ o, openL h (t : Int) = o := ⟨_, rfl⟩
    obtain ⟨oa, hoa⟩ : ∃ oa, openL h (a : Int) = oa := ⟨_, rfl⟩
    obtain ⟨ch, hch⟩ : ∃ ch, childL h (t : Int) = ch := ⟨_, rfl⟩
    rw [hem, ho, hoa, hch]
    clear hem ho hoa hch
    have hc := kinds6 hkd
    clear hkd
    have hcond : (15 < t ∨ t ≠ T.n + 1) ↔ (15 ≤ T.n ∨ (t : Int) ≠ (T.n : Int) + 1) := by omega
    rcases hc with rfl | rfl | rfl | rfl | rfl | rfl
    · by_cases h1 : 15 < t ∨ t ≠ T.n + 1
      · have h2 := hcond.1 h1
        rw [if_neg (show ¬ ((1 : Int) ≠ 1) by simp), if_pos h1, if_pos (by decide), if_pos ⟨rfl, h2⟩]
      · have h2 : ¬ (15 ≤ T.n ∨ (t : Int) ≠ (T.n : Int) + 1) := fun q => h1 (hcond.2 q)
        rw [if_neg (show ¬ ((1 : Int) ≠ 1) by simp), if_neg h1, if_neg (show ¬ ((1 : Int) = 1 ∧ _) from fun q => h2 q.2)]
        cases oa <;> cases em <;> by_cases ha : a = 0 <;> simp [ha, onObj]
    all_goals cases o <;> cases em <;> cases ch <;> by_cases ha : 4 ≤ a <;> simp [ha, onObj] <;> omega

def stepT (T : Tr) (k : Int) (t a : Nat) : Tr := if k = 1 then beginT T (a : Int) else if k = 5 then commitT T t else if k = 6 then abortT T t else T

/-- What an event without a fault does, and that it may. -/
structure MayT (T : Tr) (k : Int) (t a : Nat) : Prop where
  b : k = 1 → T.n < 15 ∧ mayO T.op (a : Int) = true
  c : k = 5 → t ≤ 15 ∧ T.op t = true ∧ childT T (t : Int) = false
  x : k = 6 → t ≤ 15 ∧ T.op t = true
  p : ∀ i, i ≤ 15 → 0 ≤ T.par i ∧ T.par i ≤ 255

theorem step_ok {h : List Ev} {T : Tr} (j : JJ h T) (k : Int) (t a : Nat) (v s : Int) (hw : wrongL h ⟨k, (t : Int), (a : Int), v, s⟩ = 0) : MayT T k t a ∧ JJ (h ++ [⟨k, (t : Int), (a : Int), v, s⟩]) (stepT T k t a) := by
  have hn15 := j.n15
  have hp : ∀ i, i ≤ 15 → 0 ≤ T.par i ∧ T.par i ≤ 255 := fun i hi => by
    rw [j.par i hi]
    by_cases hr : 1 ≤ i ∧ i ≤ T.n
    · have := j.low i hr.1 hr.2
      omega
    · have hb := j.none_ (i : Int) (by omega)
      have : parentL h (i : Int) = 0 := by unfold parentL; rw [hb]
      omega
  unfold wrongL at hw
  simp only at hw
  by_cases w0 : 60 ≤ h.length
  · rw [if_pos w0] at hw; cases hw
  rw [if_neg w0] at hw
  by_cases w1 : isKind k = false
  · rw [if_pos w1] at hw; cases hw
  rw [if_neg w1] at hw
  by_cases w2 : k = 1 ∧ (15 ≤ countL h ∨ (t : Int) ≠ (countL h : Int) + 1)
  · rw [if_pos w2] at hw; cases hw
  rw [if_neg w2] at hw
  by_cases w3 : k = 1 ∧ (a : Int) ≠ 0 ∧ openL h (a : Int) = false
  · rw [if_pos w3] at hw; cases hw
  rw [if_neg w3] at hw
  by_cases w4 : k ≠ 1 ∧ openL h (t : Int) = false
  · rw [if_pos w4] at hw; cases hw
  rw [if_neg w4] at hw
  by_cases w5 : 2 ≤ k ∧ k ≤ 4 ∧ 4 ≤ (a : Int)
  · rw [if_pos w5] at hw; cases hw
  rw [if_neg w5] at hw
  by_cases w6 : emptyL ⟨k, (t : Int), (a : Int), v, s⟩ = false
  · rw [if_pos w6] at hw; cases hw
  rw [if_neg w6] at hw
  by_cases w7 : k = 5 ∧ childL h (t : Int) = true
  · rw [if_pos w7] at hw; cases hw
  rw [← j.n] at w2
  have hopen : k ≠ 1 → openL h (t : Int) = true := fun hk => by
    cases ho : openL h (t : Int) with
    | true => rfl
    | false => exact absurd ⟨hk, ho⟩ w4
  have ht15 : k ≠ 1 → t ≤ 15 ∧ T.op t = true := fun hk => by
    have := j.open_range (hopen hk)
    exact ⟨by omega, by rw [j.op t (by omega)]; exact hopen hk⟩
  have hch : k = 5 → childL h (t : Int) = false := fun hk => by
    cases ho : childL h (t : Int) with
    | false => rfl
    | true => exact absurd ⟨hk, ho⟩ w7
  have ha : k = 1 → ((a : Int) = 0 ∨ openL h (a : Int) = true) := fun hk => by
    by_cases hz : (a : Int) = 0
    · exact Or.inl hz
    · cases ho : openL h (a : Int) with
      | true => exact Or.inr rfl
      | false => exact absurd ⟨hk, hz, ho⟩ w3
  refine ⟨⟨fun hk => ⟨by omega, ?_⟩, fun hk => ⟨(ht15 (by omega)).1, (ht15 (by omega)).2, by rw [child_eq j]; exact hch hk⟩, fun hk => ht15 (by omega), hp⟩, ?_⟩
  · rw [mayO_open j]
    rcases ha hk with h1 | h1
    · rw [h1]; rfl
    · rw [h1]; simp
  · unfold stepT
    by_cases k1 : k = 1
    · rw [if_pos k1]
      exact j.begin _ k1 (by omega) (by simp only; omega) (by simp only; omega) (ha k1)
    · rw [if_neg k1]
      by_cases k5 : k = 5
      · rw [if_pos k5]
        exact j.commit _ t k5 rfl (hopen k1) (hch k5)
      · rw [if_neg k5]
        by_cases k6 : k = 6
        · rw [if_pos k6]
          exact j.abort _ t k6 rfl (hopen k1)
        · rw [if_neg k6]
          exact j.plain _ k1 k5 k6

def HapPost (w : World) (b : Nat) (T : Tr) (r : Ending) (w' : World) : Prop := r = .returned (.tuple #[]) ∧ TrAt w' b T ∧ Below b w w' ∧ ∀ k, k ≠ b → k < w.heap.size → w'.heap[k]? = w.heap[k]?

theorem boolPost_hap {w W w' : World} {b : Nat} {T : Tr} {r : Ending} (hb : Below w.heap.size w W) (hlt : b < w.heap.size) (h : BoolPost W b T r w') : r = .returned (.bool true) ∧ TrAt w' b T ∧ Below b w w' ∧ ∀ k, k ≠ b → k < w.heap.size → w'.heap[k]? = w.heap[k]? :=
  ⟨h.1, h.2.1, (hb.mono (Nat.le_of_lt hlt)).trans h.2.2.below, fun k hk hl => by rw [h.2.2.rest k hk]; exact hb.block k hl⟩

set_option maxRecDepth 100000 in
set_option maxHeartbeats 1000000 in
theorem happen_any (b : Nat) (T : Tr) (k : Int) (t a : Nat) (v s : Int) (w : World) (h : TrAt w b T) (hm : MayT T k t a) (ha : a ≤ 255) :
    Calls Tryz.prog 77 #[.pointer (some ⟨b, 0, none⟩), evV ⟨k, (t : Int), (a : Int), v, s⟩] w (HapPost w b (stepT T k t a)) := by
  have hbx := (Below.refl w.heap.size w).alloc (Nat.le_refl _) (.cells #[.int .u8 k, .int .u8 (t : Int), .int .u8 (a : Int), .int .i32 v, .int .i32 s] 45)
  have HT1 := hidIt (h.below hbx)
  have hbl := hbx.mono (Nat.le_of_lt h.lt)
  have hlt := h.lt
  clear h
  by_cases k1 : k = 1
  · subst k1
    have HC := hidIt (begin_any b a T _ HT1.out ha (hm.b rfl).1 (hm.b rfl).2)
    clear hm
    go_enter Tryz.func77, Tryz.ntmps77
    go_wp2_with fail
    refine HC.out.mono ?_
    rintro r w1 h1
    obtain ⟨rfl, h2, h3⟩ := boolPost_hap hbx hlt h1
    have HR := hidIt (And.intro h2 h3)
    clear h1 h2 h3
    go_wp2_with fail
    go_end0
    exact ⟨rfl, HR.out.1, HR.out.2⟩
  · by_cases k5 : k = 5
    · subst k5
      have HC := hidIt (commit_any b t T _ HT1.out (hm.c rfl).1 (hm.c rfl).2.1 (hm.c rfl).2.2)
      clear hm k1
      go_enter Tryz.func77, Tryz.ntmps77
      go_wp2_with fail
      refine HC.out.mono ?_
      rintro r w1 h1
      obtain ⟨rfl, h2, h3⟩ := boolPost_hap hbx hlt h1
      have HR := hidIt (And.intro h2 h3)
      clear h1 h2 h3
      go_wp2_with fail
      go_end0
      exact ⟨rfl, HR.out.1, HR.out.2⟩
    · by_cases k6 : k = 6
      · subst k6
        have HC := hidIt (abort_any b t T _ HT1.out (hm.x rfl).1 (hm.x rfl).2 hm.p)
        clear hm k1 k5
        go_enter Tryz.func77, Tryz.ntmps77
        go_wp2_with fail
        refine HC.out.mono ?_
        rintro r w1 h1
        obtain ⟨rfl, h2, h3⟩ := boolPost_hap hbx hlt h1
        have HR := hidIt (And.intro h2 h3)
        clear h1 h2 h3
        go_wp2_with fail
        go_end0
        exact ⟨rfl, HR.out.1, HR.out.2⟩
      · have q1 : (k == 1) = false := by simpa using k1
        have q5 : (k == 5) = false := by simpa using k5
        have q6 : (k == 6) = false := by simpa using k6
        have HR : Hid (stepT T k t a = T) := by show _ = _; unfold stepT; rw [if_neg k1, if_neg k5, if_neg k6]
        clear hm k1 k5 k6
        go_enter Tryz.func77, Tryz.ntmps77
        go_wp2_with fail
        go_end0
        exact ⟨rfl, by rw [HR.out]; exact HT1.out, hbl, fun k _ hk => hbx.block k hk⟩

end Go.Proofs.YtfdalbmopaemgabGreatDoor
