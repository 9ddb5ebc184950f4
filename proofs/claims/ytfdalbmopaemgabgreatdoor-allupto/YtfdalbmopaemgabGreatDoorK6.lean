import Derived.Test.YtfdalbmopaemgabGreatDoorK5
namespace Go.Proofs.YtfdalbmopaemgabGreatDoor
open Go.RowKit

def txL (T : Tr) (k : Int) (t a : Nat) : Int := if k ≠ 1 then (if isO T.op t then 0 else 4) else if 15 < t ∨ t ≠ T.n + 1 then 4 else if mayO T.op (a : Int) then 0 else 5

set_option maxRecDepth 100000 in
set_option maxHeartbeats 4000000 in
theorem tx_any (b : Nat) (T : Tr) (k : Int) (t a : Nat) (v s : Int) (w : World) (h : TrAt w b T) (hn : T.n ≤ 15) (ht : t ≤ 255) (ha : a ≤ 255) :
    Calls Tryz.prog 109 #[.pointer (some ⟨b, 0, none⟩), evV ⟨k, (t : Int), (a : Int), v, s⟩] w fun r w' => r = .returned (.int .i64 (txL T k t a)) ∧ Below w.heap.size w w' := by
  have hbx := (Below.refl w.heap.size w).alloc (Nat.le_refl _) (.cells #[.int .u8 k, .int .u8 (t : Int), .int .u8 (a : Int), .int .i32 v, .int .i32 s] 45)
  have h1 := h.below hbx
  have HO := hidIt (isOpen_any b t T _ h1 ht)
  have HT1 := hidIt h1
  clear h1 h
  cases hk : (k == 1) with
  | false =>
    have hkn : (k != 1) = true := by simp [bne, hk]
    have hk' : k ≠ 1 := by simpa using hk
    have HV : Hid (txL T k t a = if isO T.op t then 0 else 4) := by show _ = _; unfold txL; rw [if_pos hk']
    obtain ⟨o, ho⟩ : ∃ o, isO T.op t = o := ⟨_, rfl⟩
    have HOV := hidIt ho
    rw [ho] at HV
    clear ho hk hk'
    cases o
    all_goals
      go_enter Tryz.func109, Tryz.ntmps109
      go_wp2_with (go_at_call 96; refine HO.out.mono ?_; rintro r w1 ⟨rfl, rfl⟩; rw [HOV.out])
      go_ret
      exact ⟨ret_int HV.out.symm, hbx⟩
  | true =>
    have hkn : (k != 1) = false := by simp [bne, hk]
    have hk' : k = 1 := by simpa using hk
    clear hk
    by_cases h15 : 15 < t
    · have h15' : (15 : Int) < (t : Int) := by omega
      have HV : Hid (txL T k t a = 4) := by show _ = _; unfold txL; rw [if_neg (by simp [hk']), if_pos (Or.inl h15)]
      clear hk'
      go_enter Tryz.func109, Tryz.ntmps109
      go_wp2_with fail
      go_quiet ((go_at_call 87; exact Calls.quiet_of_same (begun_any b T _ (HT1.out.drewN _))))
      go_wp2_with fail
      go_ret
      exact ⟨ret_int HV.out.symm, below_drewN hbx _⟩
    · have h15' : ¬ (15 : Int) < (t : Int) := by omega
      have h15d : decide ((15 : Int) < (t : Int)) = false := decide_eq_false h15'
      cases ht1 : ((t : Int) == (T.n : Int) + 1) with
      | false =>
        have htn : ((t : Int) != (T.n : Int) + 1) = true := by simp [bne, ht1]
        have ht2 : (t : Int) ≠ (T.n : Int) + 1 := by simpa using ht1
        have HV : Hid (txL T k t a = 4) := by show _ = _; unfold txL; rw [if_neg (by simp [hk']), if_pos (Or.inr (by omega))]
        clear hk' ht1 ht2
        go_enter Tryz.func109, Tryz.ntmps109
        go_wp2_with fail
        go_quiet ((go_at_call 87; exact Calls.quiet_of_same (begun_any b T _ (HT1.out.drewN _))))
        go_wp2_with fail
        go_ret
        exact ⟨ret_int HV.out.symm, below_drewN hbx _⟩
      | true =>
        have htn : ((t : Int) != (T.n : Int) + 1) = false := by simp [bne, ht1]
        have ht2 : (t : Int) = (T.n : Int) + 1 := by simpa using ht1
        have HV : Hid (txL T k t a = if mayO T.op (a : Int) then 0 else 5) := by show _ = _; unfold txL; rw [if_neg (by simp [hk']), if_neg (by omega)]
        obtain ⟨o, ho⟩ : ∃ o, mayO T.op (a : Int) = o := ⟨_, rfl⟩
        have HOV := hidIt ho
        rw [ho] at HV
        clear hk' ht1 ht2 ho
        cases o
        all_goals
          go_enter Tryz.func109, Tryz.ntmps109
          go_wp2_with fail
          go_quiet ((go_at_call 87; exact Calls.quiet_of_same (begun_any b T _ (HT1.out.drewN _))))
          go_wp2_with (go_at_call 86; refine (may_any b a T _ (HT1.out.drewN _) ha).mono ?_; rintro r w1 ⟨rfl, rfl⟩; rw [HOV.out])
          go_ret
          exact ⟨ret_int HV.out.symm, below_drewN hbx _⟩

end Go.Proofs.YtfdalbmopaemgabGreatDoor
