import Derived.Test.YtfdalbmopaemgaaW4
namespace Go.Proofs.Ytfdalbmopaemgaa
open Go.RowKit

/-! ### A number read -/
theorem hit_true (s : ByteArray) (p : Nat) (x : Int) (h : hit (s.data.toList.drop p) x = true) : p < s.size := by
  by_cases hp : p < s.size
  · exact hp
  · rw [hit_end s p x (by omega)] at h
    cases h

def NumSpec (low high : Int) (l : List UInt8) (p q : Nat) (n : Int) (bad bad' : Bool) : Prop :=
  (bad' = false → bad = false ∧ numR low high l = some (n, q - p) ∧ p ≤ q) ∧ (bad' = true → bad = true ∨ numR low high l = none)

theorem hit_minus (l : List UInt8) : hit l 45 = isMinus l := by
  cases l with
  | nil => rfl
  | cons c l =>
    simp only [hit, isMinus]
    by_cases e : c = 45
    · subst e; rfl
    · have : (c.toNat : Int) ≠ 45 := fun h => e (UInt8.toNat_inj.1 (Int.ofNat_inj.1 h))
      rw [beq_eq_false_iff_ne.2 this, beq_eq_false_iff_ne.2 e]

/-- What a number comes to, out of what the three steps gave. -/
theorem numR_steps {s : ByteArray} {p q1 q2 q3 m : Nat} {sp mi ok : Bool} {low high : Int} 
    (h1 : hit (s.data.toList.drop p) 32 = sp ∧ q1 = if sp then p + 1 else p) (h2 : hit (s.data.toList.drop q1) 45 = mi ∧ q2 = if mi then q1 + 1 else q1)
    (h3 : m = valL ((s.data.toList.drop q2).take (digN 10 (s.data.toList.drop q2))) ∧ ok = okD (s.data.toList.drop q2) ∧ q3 = q2 + digN 10 (s.data.toList.drop q2)) :
    p ≤ q3 ∧ numR low high (s.data.toList.drop p) = if (sp && (ok && !(mi && decide ((if mi then -(m : Int) else (m : Int)) = 0)) && decide (low ≤ (if mi then -(m : Int) else (m : Int))) && decide ((if mi then -(m : Int) else (m : Int)) ≤ high))) = true then some (if mi then -(m : Int) else (m : Int), q3 - p) else none := by
  obtain ⟨h1a, h1b⟩ := h1
  obtain ⟨h2a, h2b⟩ := h2
  obtain ⟨h3a, h3b, h3c⟩ := h3
  have hsz : s.data.toList.length = s.size := by simp
  rw [hit_minus] at h2a
  refine ⟨by split at h1b <;> split at h2b <;> omega, ?_⟩
  cases hsp : sp with
  | false =>
    rw [hsp] at h1a
    simp only [Bool.false_and, Bool.false_eq_true, if_false]
    cases hd : s.data.toList.drop p with
    | nil => rfl
    | cons c l =>
      rw [hd] at h1a
      simp only [hit] at h1a
      simp only [numR]
      rw [if_neg]
      rintro ⟨rfl, _⟩
      exact absurd h1a (by decide)
  | true =>
    rw [hsp] at h1a h1b
    simp only [if_true] at h1b
    have hlt := hit_true s p 32 h1a
    have hd : s.data.toList.drop p = s[p] :: s.data.toList.drop q1 := by rw [h1b, List.drop_eq_getElem_cons (by simpa using hlt)]; rfl
    rw [hit_in s p 32 hlt] at h1a
    have hc : s[p] = 32 := UInt8.toNat_inj.1 (Int.ofNat_inj.1 (by simpa using h1a))
    have hbh : behind (s.data.toList.drop q1) = s.data.toList.drop q2 := by
      unfold behind
      rw [h2a]
      cases mi with
      | true => simp only [if_true] at h2b ⊢; rw [h2b, ← List.drop_drop]; simp
      | false => simp only [Bool.false_eq_true, if_false] at h2b ⊢; rw [h2b]
    have hw : worth (s.data.toList.drop q1) = if mi then -(m : Int) else (m : Int) := by
      unfold worth
      rw [h2a, hbh, ← h3a]
    have hg : goodNum low high (s.data.toList.drop q1) = (true && (ok && !(mi && decide ((if mi then -(m : Int) else (m : Int)) = 0)) && decide (low ≤ (if mi then -(m : Int) else (m : Int))) && decide ((if mi then -(m : Int) else (m : Int)) ≤ high))) := by
      unfold goodNum
      rw [hw, h2a, hbh, h3b]
      unfold okD
      rw [Bool.true_and]
    rw [hd, hc]
    simp only [numR, true_and]
    rw [hg, hw, h2a, hbh]
    congr 3
    cases mi <;> simp at h2b ⊢ <;> omega

theorem spec_bad {low high n n' : Int} {l : List UInt8} {p q : Nat} {bad c : Bool} (h : p ≤ q ∧ numR low high l = if c = true then some (n', q - p) else none) (hc : c = false) : Hid (NumSpec low high l p q n bad true) := by
  unfold Hid NumSpec
  refine ⟨fun h => (by cases h), fun _ => Or.inr ?_⟩
  rw [h.2, hc]
  rfl
theorem spec_good {low high n : Int} {l : List UInt8} {p q : Nat} {bad c : Bool} (h : p ≤ q ∧ numR low high l = if c = true then some (n, q - p) else none) (hc : c = true) : Hid (NumSpec low high l p q n bad bad) := by
  unfold Hid NumSpec
  refine ⟨fun hb => ⟨hb, ?_, h.1⟩, fun hb => Or.inl hb⟩
  rw [h.2, if_pos hc]

end Go.Proofs.Ytfdalbmopaemgaa
