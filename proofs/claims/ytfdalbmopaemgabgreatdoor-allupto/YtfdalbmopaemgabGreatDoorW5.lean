import Derived.Test.YtfdalbmopaemgabGreatDoorW4
namespace Go.Proofs.YtfdalbmopaemgabGreatDoor
open Go.RowKit

/-! ### A number read -/
theorem hit_true (s : ByteArray) (p : Nat) (x : Int) (h : hit (s.data.toList.drop p) x = true) : p < s.size := by
  by_cases hp : p < s.size
  · exact hp
  · rw [hit_end s p x (by omega)] at h
    cases h

theorem take_r (b : Nat) (s : ByteArray) (p : Nat) (bad : Bool) (x : Int) (w : World) (h : Rd w b s p bad) (hs : s.size ≤ 9223372036854775000) (hp : p ≤ s.size) :
    Calls Tryz.prog 117 #[.pointer (some ⟨b, 0, none⟩), .int .u8 x] w fun r w' => ∃ (t : Bool) (q : Nat), r = .returned (.bool t) ∧ q ≤ s.size ∧ Rd w' b s q bad ∧ Below b w w' ∧ Hid (hit (s.data.toList.drop p) x = t ∧ q = if t then p + 1 else p) := by
  refine (take_any b s p bad x w h (by omega)).mono ?_
  rintro r w' ⟨rfl, h1, h2⟩
  refine ⟨_, _, rfl, ?_, h1, h2, rfl, rfl⟩
  split
  · rename_i h3
    exact hit_true s p x h3
  · exact hp

theorem digits_r (b : Nat) (s : ByteArray) (p : Nat) (bad : Bool) (w : World) (h : Rd w b s p bad) (hs : s.size ≤ 9223372036854775000) (hp : p ≤ s.size) :
    Calls Tryz.prog 118 #[.pointer (some ⟨b, 0, none⟩)] w fun r w' => ∃ (m q : Nat) (ok : Bool), r = .returned (.tuple #[.int .i64 m, .bool ok]) ∧ m ≤ 9999999999 ∧ q ≤ s.size ∧ Rd w' b s q bad ∧ Below b w w' ∧
      Hid (m = valL ((s.data.toList.drop p).take (digN 10 (s.data.toList.drop p))) ∧ ok = okD (s.data.toList.drop p) ∧ q = p + digN 10 (s.data.toList.drop p)) := by
  refine (digits_any b s p bad w h hs hp).mono ?_
  rintro r w' ⟨rfl, h1, h2⟩
  have hle := digN_le 10 (s.data.toList.drop p)
  have hsz : s.data.toList.length = s.size := by simp
  rw [List.length_drop] at hle
  refine ⟨_, _, _, rfl, ?_, by omega, h1, h2, rfl, rfl, rfl⟩
  have hv := val_lt _ (digN_all 10 (s.data.toList.drop p))
  have hl : ((s.data.toList.drop p).take (digN 10 (s.data.toList.drop p))).length ≤ 10 := by rw [List.length_take]; omega
  have := Nat.pow_le_pow_right (n := 10) (by decide) hl
  omega

def NumSpec (low high : Int) (l : List UInt8) (p q : Nat) (n : Int) (bad bad' : Bool) : Prop :=
  (bad' = false → bad = false ∧ numR low high l = some (n, q - p) ∧ p ≤ q) ∧ (bad' = true → bad = true ∨ numR low high l = none)

theorem hit_minus (l : List UInt8) : hit l 45 = isMinus l := by
  cases l with
  | nil => rfl
  | cons c l =>
    simp only [hit, isMinus]
    by_cases e : c = 45
    · subst e; rfl
    · have : (c.toNat : Int) ≠ 45 := fun h => e (UInt8.toNat_inj.1 (Int.ofNat_inj.1 h))
      rw [beq_eq_false_iff_ne.2 this, beq_eq_false_iff_ne.2 e]

/-- What a number comes to, out of what the three steps gave. -/
theorem numR_steps {s : ByteArray} {p q1 q2 q3 m : Nat} {sp mi ok : Bool} {low high : Int} 
    (h1 : hit (s.data.toList.drop p) 32 = sp ∧ q1 = if sp then p + 1 else p) (h2 : hit (s.data.toList.drop q1) 45 = mi ∧ q2 = if mi then q1 + 1 else q1)
    (h3 : m = valL ((s.data.toList.drop q2).take (digN 10 (s.data.toList.drop q2))) ∧ ok = okD (s.data.toList.drop q2) ∧ q3 = q2 + digN 10 (s.data.toList.drop q2)) :
    p ≤ q3 ∧ numR low high (s.data.toList.drop p) = if (sp && (ok && !(mi && decide ((if mi then -(m : Int) else (m : Int)) = 0)) && decide (low ≤ (if mi then -(m : Int) else (m : Int))) && decide ((if mi then -(m : Int) else (m : Int)) ≤ high))) = true then some (if mi then -(m : Int) else (m : Int), q3 - p) else none := by
  obtain ⟨h1a, h1b⟩ := h1
  obtain ⟨h2a, h2b⟩ := h2
  obtain ⟨h3a, h3b, h3c⟩ := h3
  have hsz : s.data.toList.length = s.size := by simp
  rw [hit_minus] at h2a
  refine ⟨by split at h1b <;> split at h2b <;> omega, ?_⟩
  cases hsp : sp with
  | false =>
    rw [hsp] at h1a
    simp only [Bool.false_and, Bool.false_eq_true, if_false]
    cases hd : s.data.toList.drop p with
    | nil => rfl
    | cons c l =>
      rw [hd] at h1a
      simp only [hit] at h1a
      simp only [numR]
      rw [if_neg]
      rintro ⟨rfl, _⟩
      exact absurd h1a (by decide)
  | true =>
    rw [hsp] at h1a h1b
    simp only [if_true] at h1b
    have hlt := hit_true s p 32 h1a
    have hd : s.data.toList.drop p = s[p] :: s.data.toList.drop q1 := by rw [h1b, List.drop_eq_getElem_cons (by simpa using hlt)]; rfl
    rw [hit_in s p 32 hlt] at h1a
    have hc : s[p] = 32 := UInt8.toNat_inj.1 (Int.ofNat_inj.1 (by simpa using h1a))
    have hbh : behind (s.data.toList.drop q1) = s.data.toList.drop q2 := by
      unfold behind
      rw [h2a]
      cases mi with
      | true => simp only [if_true] at h2b ⊢; rw [h2b, ← List.drop_drop]; simp
      | false => simp only [Bool.false_eq_true, if_false] at h2b ⊢; rw [h2b]
    have hw : worth (s.data.toList.drop q1) = if mi then -(m : Int) else (m : Int) := by
      unfold worth
      rw [h2a, hbh, ← h3a]
    have hg : goodNum low high (s.data.toList.drop q1) = (true && (ok && !(mi && decide ((if mi then -(m : Int) else (m : Int)) = 0)) && decide (low ≤ (if mi then -(m : Int) else (m : Int))) && decide ((if mi then -(m : Int) else (m : Int)) ≤ high))) := by
      unfold goodNum
      rw [hw, h2a, hbh, h3b]
      unfold okD
      rw [Bool.true_and]
    rw [hd, hc]
    simp only [numR, true_and]
    rw [hg, hw, h2a, hbh]
    congr 3
    cases mi <;> simp at h2b ⊢ <;> omega

theorem spec_bad {low high n n' : Int} {l : List UInt8} {p q : Nat} {bad c : Bool} (h : p ≤ q ∧ numR low high l = if c = true then some (n', q - p) else none) (hc : c = false) : Hid (NumSpec low high l p q n bad true) := by
  unfold Hid NumSpec
  refine ⟨fun h => (by cases h), fun _ => Or.inr ?_⟩
  rw [h.2, hc]
  rfl
theorem spec_good {low high n : Int} {l : List UInt8} {p q : Nat} {bad c : Bool} (h : p ≤ q ∧ numR low high l = if c = true then some (n, q - p) else none) (hc : c = true) : Hid (NumSpec low high l p q n bad bad) := by
  unfold Hid NumSpec
  refine ⟨fun hb => ⟨hb, ?_, h.1⟩, fun hb => Or.inl hb⟩
  rw [h.2, if_pos hc]

set_option maxHeartbeats 1000000 in
theorem rnum_any (b : Nat) (s : ByteArray) (p : Nat) (bad : Bool) (low high : Int) (w : World) (h : Rd w b s p bad) (hs : s.size ≤ 9223372036854775000) (hp : p ≤ s.size) (hl : low ≤ 0) (hh : 0 ≤ high) (hl' : -2147483648 ≤ low) (hh' : high ≤ 2147483647) :
    Calls Tryz.prog 108 #[.pointer (some ⟨b, 0, none⟩), .int .i64 low, .int .i64 high] w fun r w' => ∃ (n : Int) (q : Nat) (bad' : Bool), r = .returned (.int .i64 n) ∧ low ≤ n ∧ n ≤ high ∧ q ≤ s.size ∧ Rd w' b s q bad' ∧ Below b w w' ∧ Hid (NumSpec low high (s.data.toList.drop p) p q n bad bad') := by
  go_enter Tryz.func108, Tryz.ntmps108
  go_wp2_with fail
  refine (take_r b s p bad 32 _ h hs hp).mono ?_
  rintro r w1 ⟨sp, q1, rfl, hq1, hr1, hb1, H1⟩
  go_wp2_with fail
  refine (take_r b s q1 bad 45 _ hr1 hs hq1).mono ?_
  rintro r w2 ⟨mi, q2, rfl, hq2, hr2, hb2, H2⟩
  go_wp2_with fail
  refine (digits_r b s q2 bad _ hr2 hs hq2).mono ?_
  rintro r w3 ⟨m, q3, ok, rfl, hm, hq3, hr3, hb3, H3⟩
  have hbb := (hb1.trans hb2).trans hb3
  clear hb1 hb2 hb3 hr1 hr2 h
  have HR : Hid (Rd w3 b s q3 bad) := hr3
  obtain ⟨c0, c1, c2, f1, f2⟩ := hr3
  cases mi
  all_goals cases sp
  all_goals cases ok
  all_goals go_wp2_with fail
  all_goals go_ret
  · exact ⟨0, q3, true, rfl, hl, hh, hq3, HR.out.setBad, hbb.setCell (p := ⟨b, 2, none⟩) (Nat.le_refl b) _, spec_bad (numR_steps H1.out H2.out H3.out) rfl⟩
  · exact ⟨0, q3, true, rfl, hl, hh, hq3, HR.out.setBad, hbb.setCell (p := ⟨b, 2, none⟩) (Nat.le_refl b) _, spec_bad (numR_steps H1.out H2.out H3.out) rfl⟩
  · exact ⟨0, q3, true, rfl, hl, hh, hq3, HR.out.setBad, hbb.setCell (p := ⟨b, 2, none⟩) (Nat.le_refl b) _, spec_bad (numR_steps H1.out H2.out H3.out) rfl⟩
  · exact ⟨0, q3, true, rfl, hl, hh, hq3, HR.out.setBad, hbb.setCell (p := ⟨b, 2, none⟩) (Nat.le_refl b) _, spec_bad (numR_steps H1.out H2.out H3.out) (by simp; omega)⟩
  · exact ⟨m, q3, bad, rfl, by omega, by omega, hq3, HR.out, hbb, spec_good (numR_steps H1.out H2.out H3.out) (by simp; omega)⟩
  · exact ⟨0, q3, true, rfl, hl, hh, hq3, HR.out.setBad, hbb.setCell (p := ⟨b, 2, none⟩) (Nat.le_refl b) _, spec_bad (numR_steps H1.out H2.out H3.out) rfl⟩
  · exact ⟨0, q3, true, rfl, hl, hh, hq3, HR.out.setBad, hbb.setCell (p := ⟨b, 2, none⟩) (Nat.le_refl b) _, spec_bad (numR_steps H1.out H2.out H3.out) rfl⟩
  · exact ⟨0, q3, true, rfl, hl, hh, hq3, HR.out.setBad, hbb.setCell (p := ⟨b, 2, none⟩) (Nat.le_refl b) _, spec_bad (numR_steps H1.out H2.out H3.out) rfl⟩
  · exact ⟨0, q3, true, rfl, hl, hh, hq3, HR.out.setBad, hbb.setCell (p := ⟨b, 2, none⟩) (Nat.le_refl b) _, spec_bad (numR_steps H1.out H2.out H3.out) (by simp; omega)⟩
  · exfalso
    have hx : ((-(m : Int) == 0) = true ∨ -(m : Int) < low) ∨ high < -(m : Int) := by assumption
    rcases hx with (hx | hx) | hx
    · have := beq_iff_eq.1 hx
      omega
    · omega
    · omega
  · exact ⟨-(m : Int), q3, bad, rfl, by omega, by omega, hq3, HR.out, hbb, spec_good (numR_steps H1.out H2.out H3.out) (by simp; omega)⟩
  · exact ⟨0, rfl, hl, hh, q3, hq3, Or.inr ⟨HR.out.setBad, hbb.setCell (p := ⟨b, 2, none⟩) (Nat.le_refl b) _, spec_bad (numR_steps H1.out H2.out H3.out) (by simp; omega)⟩⟩

end Go.Proofs.YtfdalbmopaemgabGreatDoor
