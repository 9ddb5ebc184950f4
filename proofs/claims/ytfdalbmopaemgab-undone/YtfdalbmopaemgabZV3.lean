import Derived.Test.YtfdalbmopaemgabZV2
import Derived.Test.YtfdalbmopaemgabZK4
import Derived.Test.YtfdalbmopaemgabZG2
namespace Go.Proofs.Ytfdalbmopaemgab
open Go.RowKit

/-! ### Bits, in the code -/
theorem wrap_pow (t : Nat) (h1 : t ≤ 15) : IntKind.u16.wrap ((2 : Int) ^ t) = ((2 ^ t : Nat) : Int) := by
  have hp := pow16 (t := t) h1
  rw [show ((2 : Int) ^ t) = ((2 ^ t : Nat) : Int) by simp]
  generalize 2 ^ t = z at hp ⊢
  simp [IntKind.wrap, IntKind.bits, IntKind.signed]
  omega

theorem ret_u16 {a b : Int} (h : a = b) : Ending.returned (.int .u16 a) = .returned (.int .u16 b) := by rw [h]
theorem ret_i32 {a b : Int} (h : a = b) : Ending.returned (.int .i32 a) = .returned (.int .i32 b) := by rw [h]

set_option maxHeartbeats 1000000 in
theorem bit_any (t : Nat) (w : World) (ht : t ≤ 255) : Calls Try.prog 55 #[.int .u8 (t : Int)] w fun r w' => r = .returned (.int .u16 (bitN t : Int)) ∧ w' = w := by
  by_cases h0 : t = 0
  · subst h0
    have e1 : (((0 : Nat) : Int) == 0) = true := rfl
    go_enter Try.func55, Try.ntmps55
    go_wp2_with fail
    go_ret
    exact ⟨rfl, rfl⟩
  · have e1 : ((t : Int) == 0) = false := by simp; omega
    by_cases h15 : 15 < t
    · have e2 : (15 : Int) < (t : Int) := by omega
      have HV : Hid (bitN t = 0) := by show _ = _; unfold bitN; rw [if_pos (by omega)]
      clear h0
      go_enter Try.func55, Try.ntmps55
      go_wp2_with fail
      go_ret
      exact ⟨ret_u16 (by rw [HV.out]; rfl), rfl⟩
    · have e2 : ¬ (15 : Int) < (t : Int) := by omega
      have HV : Hid (bitN t = 2 ^ t) := by show _ = _; unfold bitN; rw [if_neg (by omega)]
      have HW := hidIt (wrap_pow t (by omega))
      clear h0
      go_enter Try.func55, Try.ntmps55
      go_wp2_with fail
      go_ret
      refine ⟨ret_u16 ?_, rfl⟩
      rw [HV.out, ← HW.out]

theorem orBit (a t : Nat) (ha : a < 65536) : bits BinOp.or IntKind.u16 (a : Int) (bitN t : Int) = ((a ||| bitN t : Nat) : Int) := u16_or_nat a _ ha (bitN_lt t)

theorem andBit (a t : Nat) (ha : a < 65536) (ht : t ≠ 0) (h15 : t ≤ 15) : (bits BinOp.and IntKind.u16 (a : Int) (bitN t : Int) != 0) = a.testBit t := by
  rw [u16_and_nat a _ ha (bitN_lt t)]
  have : (a &&& bitN t = 0) ↔ a.testBit t = false := by
    constructor
    · intro h
      have h2 := congrArg (fun z => z.testBit t) h
      simp only [Nat.testBit_and, Nat.zero_testBit] at h2
      rwa [(bitN_bit t t).2 ⟨rfl, ht, h15⟩, Bool.and_true] at h2
    · intro h
      apply Nat.eq_of_testBit_eq
      intro c
      rw [Nat.testBit_and, Nat.zero_testBit]
      by_cases hc : c = t
      · rw [hc, h, Bool.false_and]
      · have : (bitN t).testBit c = false := by rw [← Bool.not_eq_true, bitN_bit]; exact fun q => hc q.1
        rw [this, Bool.and_false]
  cases hb : a.testBit t with
  | false => rw [this.2 hb]; rfl
  | true =>
    have hne : a &&& bitN t ≠ 0 := fun h => by rw [this.1 h] at hb; cases hb
    generalize a &&& bitN t = z at hne ⊢
    simp
    omega

/-! ### The line and the open ones -/
set_option maxRecDepth 100000 in
set_option maxHeartbeats 2000000 in
theorem open_any (b : Nat) (T : Tr) (w : World) (h : TrAt w b T) :
    Calls Try.prog 47 #[.pointer (some ⟨b, 0, none⟩)] w fun r w' => r = .returned (.int .u16 (openD T.op 15 0 : Int)) ∧ w' = w := by
  have HT := hidIt h
  clear h
  go_enter Try.func47, Try.ntmps47
  go_wp2_with fail
  go_loop [3, 4] (fun o i => ∃ k a : Nat, k ≤ 15 ∧ i = .int .u8 (k : Int) ∧ o = .int .u16 (a : Int) ∧ a < 65536 ∧ Hid (openD T.op 15 0 = openD T.op k a)) (fun _ i => (intOf i).toNat)
  case atStart => exact ⟨15, 0, by omega, rfl, rfl, by omega, rfl⟩
  case round =>
    obtain ⟨k, a, hk, rfl, rfl, ha, HX⟩ := hrel
    by_cases hlt : 0 < k
    · have hlt' : (0 : Int) < (k : Int) := by omega
      have hlt2 : (k : Int) < 16 := by omega
      have hk0 : (0 : Int) ≤ (k : Int) := by omega
      have g1 := HT.out.op k (by omega)
      have HB := hidIt (bit_any k w (by omega))
      have HO := hidIt (orBit a k ha)
      have HL : Hid (a ||| bitN k < 65536) := or16 ha (bitN_lt k)
      have HS : Hid (openD T.op k a = openD T.op (k - 1) (if T.op k then a ||| bitN k else a)) := by
        show _ = _
        obtain ⟨j, rfl⟩ : ∃ j, k = j + 1 := ⟨k - 1, by omega⟩
        rw [openD]
        rfl
      cases ho : T.op k with
      | false =>
        rw [ho] at g1
        have HN : Hid (openD T.op 15 0 = openD T.op (k - 1) a) := by show _ = _; rw [HX.out, HS.out, ho, if_neg (by decide)]
        clear ho
        go_wp2_with fail
        go_round
        case rel => exact ⟨k - 1, a, by omega, by congr 1; go_num, rfl, ha, HN⟩
        case measure => simp [intOf]; omega
      | true =>
        rw [ho] at g1
        have HN : Hid (openD T.op 15 0 = openD T.op (k - 1) (a ||| bitN k)) := by show _ = _; rw [HX.out, HS.out, ho, if_pos rfl]
        clear ho
        go_wp2_with fail
        refine HB.out.mono ?_
        rintro r w1 ⟨rfl, rfl⟩
        go_wp2_with fail
        go_round
        case rel => exact ⟨k - 1, a ||| bitN k, by omega, by congr 1; go_num, by rw [HO.out], HL.out, HN⟩
        case measure => simp [intOf]; omega
    · have hk0 : k = 0 := by omega
      subst hk0
      have HN : Hid (openD T.op 15 0 = a) := by show _ = _; rw [HX.out, openD]
      go_wp2_with fail
      go_ret
      exact ⟨ret_u16 (by rw [HN.out]), rfl⟩

set_option maxRecDepth 100000 in
set_option maxHeartbeats 2000000 in
theorem line_any (b t : Nat) (T : Tr) (w : World) (h : TrAt w b T) (ht : t ≤ 15) (hpar : ∀ i, i ≤ 15 → 0 ≤ T.par i ∧ T.par i ≤ 255) :
    Calls Try.prog 52 #[.pointer (some ⟨b, 0, none⟩), .int .u8 (t : Int)] w fun r w' => r = .returned (.int .u16 (lineN T t : Int)) ∧ w' = w := by
  have HT := hidIt h
  have HP := hidIt hpar
  clear h hpar
  go_enter Try.func52, Try.ntmps52
  go_wp2_with fail
  go_loop [5, 6, 7] (fun o n i => ∃ k a nx : Nat, k ≤ 15 ∧ nx ≤ 255 ∧ i = .int .u8 (k : Int) ∧ o = .int .u16 (a : Int) ∧ n = .int .u8 (nx : Int) ∧ a < 65536 ∧ Hid (lineN T t = lineD T.par k nx a)) (fun _ _ i => (intOf i).toNat)
  case atStart => exact ⟨15, 0, t, by omega, by omega, rfl, rfl, rfl, by omega, rfl⟩
  case round =>
    obtain ⟨k, a, nx, hk, hnx, rfl, rfl, rfl, ha, HX⟩ := hrel
    by_cases hlt : 0 < k
    · have hlt' : (0 : Int) < (k : Int) := by omega
      have hlt2 : (k : Int) < 16 := by omega
      have hk0 : (0 : Int) ≤ (k : Int) := by omega
      have g1 := HT.out.par k (by omega)
      obtain ⟨p, hp⟩ : ∃ p : Nat, T.par k = (p : Int) := ⟨(T.par k).toNat, by have := (HP.out k (by omega)).1; omega⟩
      have hp255 : p ≤ 255 := by have := (HP.out k (by omega)).2; omega
      rw [hp] at g1
      have HB := hidIt (bit_any k w (by omega))
      have HO := hidIt (orBit a k ha)
      have HL : Hid (a ||| bitN k < 65536) := or16 ha (bitN_lt k)
      have HS : Hid (lineD T.par k nx a = if k = nx then lineD T.par (k - 1) p (a ||| bitN k) else lineD T.par (k - 1) nx a) := by
        show _ = _
        obtain ⟨j, rfl⟩ : ∃ j, k = j + 1 := ⟨k - 1, by omega⟩
        rw [lineD, hp]
        rfl
      clear hp
      by_cases he : k = nx
      · have e1 : ((k : Int) == (nx : Int)) = true := by simp; omega
        have HN : Hid (lineN T t = lineD T.par (k - 1) p (a ||| bitN k)) := by show _ = _; rw [HX.out, HS.out, if_pos he]
        clear he
        go_wp2_with fail
        refine HB.out.mono ?_
        rintro r w1 ⟨rfl, rfl⟩
        go_wp2_with fail
        go_round
        case rel => exact ⟨k - 1, a ||| bitN k, p, by omega, hp255, by congr 1; go_num, by rw [HO.out], rfl, HL.out, HN⟩
        case measure => simp [intOf]; omega
      · have e1 : ((k : Int) == (nx : Int)) = false := by simp; omega
        have HN : Hid (lineN T t = lineD T.par (k - 1) nx a) := by show _ = _; rw [HX.out, HS.out, if_neg he]
        clear he
        go_wp2_with fail
        go_round
        case rel => exact ⟨k - 1, a, nx, by omega, hnx, by congr 1; go_num, rfl, rfl, ha, HN⟩
        case measure => simp [intOf]; omega
    · have hk0 : k = 0 := by omega
      subst hk0
      have HN : Hid (lineN T t = a) := by show _ = _; rw [HX.out, lineD]
      go_wp2_with fail
      go_ret
      exact ⟨ret_u16 (by rw [HN.out]), rfl⟩

end Go.Proofs.Ytfdalbmopaemgab
