import Derived.Test.YtfdalbmopaemgabGreatDoorW3
namespace Go.Proofs.YtfdalbmopaemgabGreatDoor
open Go.RowKit

theorem tup_int_bool {n m : Int} {a b : Bool} (h : n = m) (h' : a = b) : Ending.returned (.tuple #[.int .i64 n, .bool a]) = .returned (.tuple #[.int .i64 m, .bool b]) := by rw [h, h']

theorem okD_two (s : ByteArray) (p q : Nat) (hp : p < s.size) (h : p + 2 ≤ q) (hc : digN 10 (s.data.toList.drop p) = q - p) : ((s[p].toNat : Int) != 48) = okD (s.data.toList.drop p) := by
  unfold okD
  rw [hc, decide_eq_true (by omega : 1 ≤ q - p), decide_eq_false (by omega : ¬ q - p = 1), Bool.true_and, Bool.false_or, List.drop_eq_getElem_cons (by simpa using hp)]
  have hp' : s.data.toList[p]'(by simpa using hp) = s[p] := rfl
  simp only [List.head?_cons, ne_eq, Option.some.injEq, hp']
  by_cases e : s[p] = 48
  · rw [e]
    rfl
  · have : (s[p].toNat : Int) ≠ 48 := fun h => e (UInt8.toNat_inj.1 (Int.ofNat_inj.1 h))
    simp [e, this]

theorem meas_lt {w1 w : World} {b : Nat} {s : ByteArray} {p q : Nat} {bad : Bool} (h : Rd w1 b s (q + 1) bad) (hat : atOf b w = q) (hq : q < p + 10) : p + 10 - atOf b w1 < p + 10 - atOf b w := by
  rw [h.atOf, hat]
  omega

set_option maxHeartbeats 1000000 in
theorem digits_any (b : Nat) (s : ByteArray) (p : Nat) (bad : Bool) (w : World) (h : Rd w b s p bad) (hs : s.size ≤ 9223372036854775000) (hp : p ≤ s.size) :
    Calls Tryz.prog 118 #[.pointer (some ⟨b, 0, none⟩)] w fun r w' => r = .returned (.tuple #[.int .i64 (valL ((s.data.toList.drop p).take (digN 10 (s.data.toList.drop p))) : Nat), .bool (okD (s.data.toList.drop p))]) ∧
      Rd w' b s (p + digN 10 (s.data.toList.drop p)) bad ∧ Below b w w' := by
  have h0 := h.c1
  go_enter Tryz.func118, Tryz.ntmps118
  go_wp2
  go_loopw [5] (fun n wr => ∃ q : Nat, p ≤ q ∧ q ≤ p + 10 ∧ q ≤ s.size ∧ (∀ c ∈ sub s p q, isDig c = true) ∧ n = .int .i64 (valL (sub s p q) : Nat) ∧ Rd wr b s q bad ∧ Below b w wr) (fun _ wr => p + 10 - atOf b wr)
  case atStart => exact ⟨p, Nat.le_refl _, by omega, hp, by simp [sub], by simp [sub, valL], h, Below.refl _ _⟩
  case round =>
    obtain ⟨q, hq1, hq2, hq3, hdig, rfl, hrd, hnx⟩ := hrel
    have hval := val_lt _ hdig
    rw [sub_length s p q hq3] at hval
    obtain ⟨m, hm⟩ : ∃ m, valL (sub s p q) = m := ⟨_, rfl⟩
    have HM : Hid (valL (sub s p q) = m) := hm
    have HD : Hid (∀ c ∈ sub s p q, isDig c = true) := hdig
    have HR : Hid (Rd wr b s q bad) := hrd
    have hat := hrd.atOf
    obtain ⟨c0, c1, c2, f1, f2⟩ := hrd
    rw [hm] at hval ⊢
    clear hm hdig h h0
    by_cases hgo : ∃ h : q < s.size, q < p + 10 ∧ isDig s[q] = true
    · obtain ⟨h1, h2, h3⟩ := hgo
      have hm9 : m ≤ 999999999 := by
        have := Nat.pow_le_pow_right (n := 10) (by decide) (show q - p ≤ 9 by omega)
        omega
      have hc := h3
      unfold isDig at hc
      simp at hc
      have g1 : decide ((q : Int) < (s.size : Int)) = true := by simp; omega
      have g2 : decide ((q : Int) - (p : Int) < 10) = true := by simp; omega
      have g3 : (q : Int) < (s.size : Int) := by omega
      obtain ⟨hc1, hc2⟩ := hc
      have hc3 : (48 : Int) ≤ (s[q].toNat : Int) := by omega
      have hc4 : (s[q].toNat : Int) ≤ 57 := by omega
      clear hval
      go_wp2_with fail
      go_quiet ((go_at_call 120; exact Calls.quiet_of_same (isDigit_any _ _)))
      go_wp2_with fail
      go_quiet (fail)
      go_wp2_with fail
      have hsn := sub_snoc s p q hq1 h1
      go_roundw
      case rel =>
        refine ⟨q + 1, by omega, by omega, by omega, ?_, ?_, (HR.out.drewN _).setAt (q + 1), ?_⟩
        · intro c hc'
          rw [hsn, List.mem_append, List.mem_singleton] at hc'
          rcases hc' with hc' | rfl
          · exact HD.out c hc'
          · exact h3
        · rw [hsn, valL_snoc, HM.out]
          congr 1
          omega
        · exact (below_drewN hnx _).setCell (p := ⟨b, 1, none⟩) (Nat.le_refl b) _
      case measure =>
        exact meas_lt ((HR.out.drewN _).setAt (q + 1)) hat (by omega)
    · have hex : q = p + 10 ∨ q = s.size ∨ ∃ h : q < s.size, isDig s[q] = false := by
        by_cases h1 : q < s.size
        · by_cases h2 : q < p + 10
          · refine Or.inr (Or.inr ⟨h1, ?_⟩)
            cases h3 : isDig s[q] with
            | true => exact absurd ⟨h1, h2, h3⟩ hgo
            | false => rfl
          · exact Or.inl (by omega)
        · exact Or.inr (Or.inl (by omega))
      have hcnt := digN_sub s p q hq1 hq2 hq3 HD.out hex
      have HC : Hid (digN 10 (s.data.toList.drop p) = q - p) := hcnt
      have HS : Hid ((s.data.toList.drop p).take (digN 10 (s.data.toList.drop p)) = sub s p q) := by show _ = _; rw [hcnt]; rfl
      have hrest : q = s.size ∨ (q < s.size ∧ q = p + 10) ∨ ∃ h : q < s.size, q < p + 10 ∧ isDig s[q] = false := by
        by_cases h1 : q < s.size
        · by_cases h2 : q < p + 10
          · rcases hex with h | h | ⟨h, h'⟩
            · omega
            · omega
            · exact Or.inr (Or.inr ⟨h, h2, h'⟩)
          · exact Or.inr (Or.inl ⟨h1, by omega⟩)
        · exact Or.inl (by omega)
      clear hgo hex hcnt hval
      have HCO : Hid (q = p ∨ q = p + 1 ∨ p + 2 ≤ q) := by show _ ∨ _; omega
      have hmb : m ≤ 9999999999 := by
        have h1 := val_lt _ HD.out
        rw [sub_length s p q hq3, HM.out] at h1
        have := Nat.pow_le_pow_right (n := 10) (by decide) (show q - p ≤ 10 by omega)
        omega
      have hend : ∀ x : Bool, x = okD (s.data.toList.drop p) → Ending.returned (.tuple #[.int .i64 (m : Int), .bool x]) = .returned (.tuple #[.int .i64 (valL ((s.data.toList.drop p).take (digN 10 (s.data.toList.drop p))) : Nat), .bool (okD (s.data.toList.drop p))]) := fun x hx => tup_int_bool (by rw [HS.out, HM.out]) hx
      have HE : Hid (∀ x : Bool, x = okD (s.data.toList.drop p) → Ending.returned (.tuple #[.int .i64 (m : Int), .bool x]) = .returned (.tuple #[.int .i64 (valL ((s.data.toList.drop p).take (digN 10 (s.data.toList.drop p))) : Nat), .bool (okD (s.data.toList.drop p))])) := hend
      clear hend
      have hpq : ∀ w', Rd w' b s q bad → Rd w' b s (p + digN 10 (s.data.toList.drop p)) bad := fun w' h => by rw [HC.out, show p + (q - p) = q by omega]; exact h
      have HP : Hid (∀ w', Rd w' b s q bad → Rd w' b s (p + digN 10 (s.data.toList.drop p)) bad) := hpq
      clear hpq
      rcases HCO.out with h | h | h
      · have e0 : ((q : Int) - (p : Int) == 0) = true := by simp; omega
        have HQ : Hid (q = p) := h
        clear h
        rcases hrest with h1 | ⟨h1, h2⟩ | ⟨h1, h2, h3⟩
        · have g1 : decide ((q : Int) < (s.size : Int)) = false := by simp; omega
          have g1n : decide (q < s.size) = false := by simp; omega
          clear h1
          go_wp2_with fail
          go_quiet ((go_at_call 120; exact Calls.quiet_of_same (isDigit_any _ _)))
          go_wp2_with fail
          go_ret2
          refine ⟨?_, HP.out _ (HR.out.drewN _), below_drewN hnx _⟩
          have hm0 : m = 0 := by rw [← HM.out, HQ.out]; simp [sub, valL]
          have := HE.out false (by unfold okD; rw [HC.out, HQ.out]; simp)
          rw [hm0] at this
          exact this
        · have g1 : decide ((q : Int) < (s.size : Int)) = true := by simp; omega
          have g2 : decide ((q : Int) - (p : Int) < 10) = false := by simp; omega
          have g3 : (q : Int) < (s.size : Int) := by omega
          clear h2
          go_wp2_with fail
          go_quiet ((go_at_call 120; exact Calls.quiet_of_same (isDigit_any _ _)))
          go_wp2_with fail
          go_ret2
          refine ⟨?_, HP.out _ (HR.out.drewN _), below_drewN hnx _⟩
          have hm0 : m = 0 := by rw [← HM.out, HQ.out]; simp [sub, valL]
          have := HE.out false (by unfold okD; rw [HC.out, HQ.out]; simp)
          rw [hm0] at this
          exact this
        · have g1 : decide ((q : Int) < (s.size : Int)) = true := by simp; omega
          have g2 : decide ((q : Int) - (p : Int) < 10) = true := by simp; omega
          have g3 : (q : Int) < (s.size : Int) := by omega
          go_wp2_with fail
          go_quiet ((go_at_call 120; exact Calls.quiet_of_same (isDigit_any _ _)))
          go_wp2_with fail
          go_ret2
          refine ⟨?_, HP.out _ (HR.out.drewN _), below_drewN hnx _⟩
          have hm0 : m = 0 := by rw [← HM.out, HQ.out]; simp [sub, valL]
          have := HE.out false (by unfold okD; rw [HC.out, HQ.out]; simp)
          rw [hm0] at this
          exact this
      · have e0 : ((q : Int) - (p : Int) == 0) = false := by simp; omega
        have e1 : ((q : Int) - (p : Int) == 1) = true := by simp; omega
        have HQ : Hid (q = p + 1) := h
        clear h
        rcases hrest with h1 | ⟨h1, h2⟩ | ⟨h1, h2, h3⟩
        · have g1 : decide ((q : Int) < (s.size : Int)) = false := by simp; omega
          have g1n : decide (q < s.size) = false := by simp; omega
          clear h1
          go_wp2_with fail
          go_quiet ((go_at_call 120; exact Calls.quiet_of_same (isDigit_any _ _)))
          go_wp2_with fail
          go_quiet (fail)
          go_wp2_with fail
          go_ret2
          refine ⟨HE.out true (by unfold okD; rw [HC.out, HQ.out]; simp), HP.out _ ((HR.out.drewN _).drewN _), below_drewN (below_drewN hnx _) _⟩
        · have g1 : decide ((q : Int) < (s.size : Int)) = true := by simp; omega
          have g2 : decide ((q : Int) - (p : Int) < 10) = false := by simp; omega
          have g3 : (q : Int) < (s.size : Int) := by omega
          clear h2
          go_wp2_with fail
          go_quiet ((go_at_call 120; exact Calls.quiet_of_same (isDigit_any _ _)))
          go_wp2_with fail
          go_quiet (fail)
          go_wp2_with fail
          go_ret2
          refine ⟨HE.out true (by unfold okD; rw [HC.out, HQ.out]; simp), HP.out _ ((HR.out.drewN _).drewN _), below_drewN (below_drewN hnx _) _⟩
        · have g1 : decide ((q : Int) < (s.size : Int)) = true := by simp; omega
          have g2 : decide ((q : Int) - (p : Int) < 10) = true := by simp; omega
          have g3 : (q : Int) < (s.size : Int) := by omega
          go_wp2_with fail
          go_quiet ((go_at_call 120; exact Calls.quiet_of_same (isDigit_any _ _)))
          go_wp2_with fail
          go_quiet (fail)
          go_wp2_with fail
          go_ret2
          refine ⟨HE.out true (by unfold okD; rw [HC.out, HQ.out]; simp), HP.out _ ((HR.out.drewN _).drewN _), below_drewN (below_drewN hnx _) _⟩
      · have e0 : ((q : Int) - (p : Int) == 0) = false := by simp; omega
        have e1 : ((q : Int) - (p : Int) == 1) = false := by simp; omega
        have HQ : Hid (p + 2 ≤ q) := h
        have hq2' : p < s.size := by omega
        have hq2i : (p : Int) < (s.size : Int) := by omega
        rcases hrest with h1 | ⟨h1, h2⟩ | ⟨h1, h2, h3⟩
        · have g1 : decide ((q : Int) < (s.size : Int)) = false := by simp; omega
          have g1n : decide (q < s.size) = false := by simp; omega
          clear h1
          go_wp2_with fail
          go_quiet ((go_at_call 120; exact Calls.quiet_of_same (isDigit_any _ _)))
          go_wp2_with fail
          go_quiet (fail)
          go_wp2_with fail
          go_ret2
          refine ⟨HE.out _ ?_, HP.out _ ((HR.out.drewN _).drewN _), below_drewN (below_drewN hnx _) _⟩
          exact okD_two s p q hq2' HQ.out HC.out
        · have g1 : decide ((q : Int) < (s.size : Int)) = true := by simp; omega
          have g2 : decide ((q : Int) - (p : Int) < 10) = false := by simp; omega
          have g3 : (q : Int) < (s.size : Int) := by omega
          clear h2
          go_wp2_with fail
          go_quiet ((go_at_call 120; exact Calls.quiet_of_same (isDigit_any _ _)))
          go_wp2_with fail
          go_quiet (fail)
          go_wp2_with fail
          go_ret2
          refine ⟨HE.out _ ?_, HP.out _ ((HR.out.drewN _).drewN _), below_drewN (below_drewN hnx _) _⟩
          exact okD_two s p q hq2' HQ.out HC.out
        · have g1 : decide ((q : Int) < (s.size : Int)) = true := by simp; omega
          have g2 : decide ((q : Int) - (p : Int) < 10) = true := by simp; omega
          have g3 : (q : Int) < (s.size : Int) := by omega
          go_wp2_with fail
          go_quiet ((go_at_call 120; exact Calls.quiet_of_same (isDigit_any _ _)))
          go_wp2_with fail
          go_quiet (fail)
          go_wp2_with fail
          go_ret2
          refine ⟨HE.out _ ?_, HP.out _ ((HR.out.drewN _).drewN _), below_drewN (below_drewN hnx _) _⟩
          exact okD_two s p q hq2' HQ.out HC.out

end Go.Proofs.YtfdalbmopaemgabGreatDoor
