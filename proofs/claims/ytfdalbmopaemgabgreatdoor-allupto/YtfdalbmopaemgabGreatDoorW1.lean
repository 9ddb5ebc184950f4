import Derived.Test.YtfdalbmopaemgabGreatDoorChecked
import Derived.Test.YtfdalbmopaemgabGreatDoorShelf
import Derived.Test.YtfdalbmopaemgabGreatDoorPlain
import Derived.WalkKit
import Derived.WalkSpells
import Derived.WalkLawsBesides
namespace Go.Proofs.YtfdalbmopaemgabGreatDoor
open Go.RowKit

theorem ret_bool {a b : Bool} (h : a = b) : Ending.returned (.bool a) = .returned (.bool b) := by rw [h]
theorem ret_int {k : IntKind} {a b : Int} (h : a = b) : Ending.returned (.int k a) = .returned (.int k b) := by rw [h]
theorem ret_str {a b : List UInt8} (h : a = b) : Ending.returned (.string ⟨a.toArray⟩) = .returned (.string ⟨b.toArray⟩) := by rw [h]

/-! ### The library's table -/
def Tab (w : World) : Prop := Lib.TabIs Tryz.prog w "internal/strconv.uint64pow10" .u64 Lib.pow10Tab ∧ 3 ≤ w.heap.size

theorem Tab.below {w w' : World} {B : Nat} (h : Tab w) (hB : 3 ≤ B) (hb : Below B w w') : Tab w' :=
  ⟨var?_below (g := 0) hb (by kernel_rfl) (by omega) h.1, Nat.le_trans h.2 hb.size⟩

theorem below_grow (w : World) (k : Nat) (os : Array Obj) : Below w.heap.size w (Sort.grow (w.drewN k) os) :=
  ⟨rfl, rfl, rfl, by simp, fun _ h => Sort.heap_grow_old (w.drewN k) os h⟩

/-! ### Small functions of the kinds -/
set_option maxHeartbeats 400000 in
theorem onObject_any (k : Int) (w : World) :
    Calls Tryz.prog 110 #[.int .u8 k] w fun e w' => e = .returned (.bool (onObj k)) ∧ w' = w := by
  unfold onObj
  go_enter Tryz.func110, Tryz.ntmps110
  go_wp2
  all_goals (go_ret; exact ⟨by simp [*], rfl⟩)

set_option maxHeartbeats 400000 in
theorem isDigit_any (c : UInt8) (w : World) :
    Calls Tryz.prog 120 #[.int .u8 c.toNat] w fun e w' => e = .returned (.bool (isDig c)) ∧ w' = w := by
  unfold isDig
  go_enter Tryz.func120, Tryz.ntmps120
  go_wp2
  · go_ret
    refine ⟨ret_bool ?_, rfl⟩
    rw [decide_eq_true (by omega : 48 ≤ c.toNat), Bool.true_and]
    simp
    omega
  · go_ret
    refine ⟨ret_bool ?_, rfl⟩
    rw [decide_eq_false (by omega : ¬ 48 ≤ c.toNat), Bool.false_and]

set_option maxHeartbeats 400000 in
theorem namesArg_any (k : Int) (w : World) :
    Calls Tryz.prog 105 #[.int .u8 k] w fun e w' => e = .returned (.bool (nArg k)) ∧ w' = w := by
  unfold nArg
  go_enter Tryz.func105, Tryz.ntmps105
  go_wp2_with (go_at_call 110; refine (onObject_any _ _).mono ?_; rintro e w' ⟨rfl, rfl⟩)
  all_goals (go_ret; exact ⟨by simp [*], rfl⟩)

set_option maxHeartbeats 400000 in
theorem namesValue_any (k : Int) (w : World) :
    Calls Tryz.prog 106 #[.int .u8 k] w fun e w' => e = .returned (.bool (nVal k)) ∧ w' = w := by
  unfold nVal
  go_enter Tryz.func106, Tryz.ntmps106
  go_wp2
  all_goals (go_ret; exact ⟨by simp [*], rfl⟩)

set_option maxHeartbeats 400000 in
theorem namesSeen_any (k : Int) (w : World) :
    Calls Tryz.prog 80 #[.int .u8 k] w fun e w' => e = .returned (.bool (nSeen k)) ∧ w' = w := by
  unfold nSeen
  go_enter Tryz.func80, Tryz.ntmps80
  go_wp2
  all_goals (go_ret; exact ⟨by simp [*], rfl⟩)

set_option maxHeartbeats 400000 in
theorem letter_any (k : Int) (w : World) (h0 : 0 ≤ k) (h1 : k ≤ 255) :
    Calls Tryz.prog 69 #[.int .u8 k] w fun e w' => e = .returned (.string ⟨(letterL k).toArray⟩) ∧ w' = w := by
  have hc : k = 0 ∨ k = 1 ∨ k = 2 ∨ k = 3 ∨ k = 4 ∨ k = 5 ∨ k = 6 ∨ 7 ≤ k := by omega
  rcases hc with rfl | rfl | rfl | rfl | rfl | rfl | rfl | hc
  all_goals try (go_enter Tryz.func69, Tryz.ntmps69; go_wp2; go_ret; exact ⟨rfl, rfl⟩)
  have e : letterL k = [] := by unfold letterL; rw [if_neg (by omega), if_neg (by omega), if_neg (by omega), if_neg (by omega), if_neg (by omega), if_neg (by omega)]
  rw [e]
  clear e
  go_enter Tryz.func69, Tryz.ntmps69
  go_wp2
  go_ret
  exact ⟨rfl, rfl⟩

theorem letters_at (k : Nat) (c : UInt8) (hp : k < (⟨#[66, 82, 87, 65, 67, 88]⟩ : ByteArray).size) : (((((⟨#[66, 82, 87, 65, 67, 88]⟩ : ByteArray)[k]'hp).toNat : Int) == (c.toNat : Int)) = true → kindOfL c = (k : Int) + 1) ∧
    (((((⟨#[66, 82, 87, 65, 67, 88]⟩ : ByteArray)[k]'hp).toNat : Int) == (c.toNat : Int)) = false → c ≠ ([66, 82, 87, 65, 67, 88] : List UInt8).getD k 0) := by
  have hk : k < 6 := hp
  have hm : k = 0 ∨ k = 1 ∨ k = 2 ∨ k = 3 ∨ k = 4 ∨ k = 5 := by omega
  constructor
  · intro h
    have hc : (⟨#[66, 82, 87, 65, 67, 88]⟩ : ByteArray)[k]'hp = c := UInt8.toNat_inj.1 (by have := beq_iff_eq.1 h; omega)
    subst hc
    rcases hm with rfl | rfl | rfl | rfl | rfl | rfl <;> rfl
  · intro h e
    subst e
    rcases hm with rfl | rfl | rfl | rfl | rfl | rfl <;> simp at h <;> exact absurd rfl h

theorem kindOf_none (c : UInt8) (h : ∀ j, j < 6 → c ≠ ([66, 82, 87, 65, 67, 88] : List UInt8).getD j 0) : kindOfL c = 0 := by
  have h0 := h 0 (by omega)
  have h1 := h 1 (by omega)
  have h2 := h 2 (by omega)
  have h3 := h 3 (by omega)
  have h4 := h 4 (by omega)
  have h5 := h 5 (by omega)
  simp at h0 h1 h2 h3 h4 h5
  simp [kindOfL, *]

set_option maxHeartbeats 400000 in
theorem kindOf_any (c : UInt8) (w : World) :
    Calls Tryz.prog 107 #[.int .u8 c.toNat] w fun e w' => e = .returned (.int .u8 (kindOfL c)) ∧ w' = w := by
  have hlt := c.toNat_lt
  go_enter Tryz.func107, Tryz.ntmps107
  go_wp2
  go_loop [3] (fun i => ∃ k : Nat, k ≤ 6 ∧ i = .int .i64 k ∧ ∀ j, j < k → c ≠ ([66, 82, 87, 65, 67, 88] : List UInt8).getD j 0) (fun i => 6 - (intOf i).toNat)
  case atStart => exact ⟨0, by omega, rfl, by intro j h; omega⟩
  case round =>
    obtain ⟨k, hk, rfl, hn⟩ := hrel
    have HN : Hid (∀ j, j < k → c ≠ ([66, 82, 87, 65, 67, 88] : List UInt8).getD j 0) := hn
    clear hn
    go_wp2
    · go_ret
      exact ⟨ret_int ((letters_at k c _).1 ‹_›).symm, rfl⟩
    · have hlt6 : (k : Int) < 6 := by assumption
      have hne := (letters_at k c (by simp [ByteArray.size]; omega)).2 ‹_›
      go_round
      case rel =>
        refine ⟨k + 1, by omega, by go_num, fun j hj => ?_⟩
        by_cases e : j = k
        · subst e; exact hne
        · exact HN.out j (by omega)
      case measure => simp [intOf]; omega
    · go_ret
      have hge : 6 ≤ (k : Int) := by assumption
      exact ⟨ret_int (kindOf_none c fun j hj => HN.out j (by omega)).symm, rfl⟩

theorem app_str (a b : List UInt8) : (⟨a.toArray⟩ ++ ⟨b.toArray⟩ : ByteArray) = ⟨(a ++ b).toArray⟩ := by
  apply ByteArray.ext
  simp

set_option maxHeartbeats 400000 in
theorem number_any (n : Int) (w : World) (h0 : -9223372036854775808 ≤ n) (h1 : n ≤ 9223372036854775807) (ht : Tab w) :
    Calls Tryz.prog 104 #[.int .i64 n] w fun e w' => e = .returned (.string ⟨(numL n).toArray⟩) ∧ Below w.heap.size w w' := by
  have hlen := itoa_length 18 n (by omega) (by omega)
  go_enter Tryz.func104, Tryz.ntmps104
  go_wp2_with (go_at_call 116; refine (Tryz.strconv_FormatInt_10 _ h0 h1 _ ht.1).mono ?_; rintro e w' ⟨rfl, kk, os, rfl⟩)
  go_ret
  exact ⟨congrArg (fun s => Ending.returned (.string s)) (app_str [32] (Lib.itoa n)), below_grow _ _ _⟩

/-! ### The numbers of an event -/
abbrev evV (e : Ev) : Value := .agg #[.int .u8 e.k, .int .u8 e.t, .int .u8 e.a, .int .i32 e.v, .int .i32 e.s]

theorem bcells {B : Nat} {W w1 : World} (hb : Below B W w1) : ∀ b o, b < B → w1.cell? ⟨b, o, none⟩ = W.cell? ⟨b, o, none⟩ := fun b o h => hb.cell (p := ⟨b, o, none⟩) h
theorem bfroz {B : Nat} {W w1 : World} (hb : Below B W w1) : ∀ b o, b < B → w1.frozen? ⟨b, o, none⟩ = W.frozen? ⟨b, o, none⟩ := fun b o h => hb.frozen (p := ⟨b, o, none⟩) h

theorem number_r (w0 : World) (n : Int) (W : World) (h0 : -9223372036854775808 ≤ n) (h1 : n ≤ 9223372036854775807) (ht : Tab w0) (hb : Below w0.heap.size w0 W) :
    Calls Tryz.prog 104 #[.int .i64 n] W fun e w' => e = .returned (.string ⟨(numL n).toArray⟩) ∧ Below w0.heap.size w0 w' ∧ W.heap.size ≤ w'.heap.size ∧ ∀ b o, b < W.heap.size → w'.cell? ⟨b, o, none⟩ = W.cell? ⟨b, o, none⟩ := by
  refine (number_any n W h0 h1 (ht.below ht.2 hb)).mono ?_
  rintro e w' ⟨rfl, h⟩
  exact ⟨rfl, hb.trans (h.mono hb.size), h.size, bcells h⟩

theorem numL_pos (n : Int) : 0 < (numL n).length := by simp [numL]

set_option maxHeartbeats 1000000 in
theorem numbers_any (e : Ev) (w : World) (he : e.Ok) (ht : Tab w) :
    Calls Tryz.prog 70 #[evV e] w fun r w' => r = .returned (.string ⟨(numbersL e).toArray⟩) ∧ Below w.heap.size w w' := by
  have lt := numL_len8 e.t he.t0 he.t1
  have la := numL_len8 e.a he.a0 he.a1
  have lv := numL_len32 e.v he.v0 he.v1
  have ls := numL_len32 e.s he.s0 he.s1
  obtain ⟨k0, k1, t0, t1, a0, a1, v0, v1, s0, s1⟩ := he
  have hba : ∀ o, Below w.heap.size w (w.alloc o) := fun o => (Below.refl _ _).alloc (Nat.le_refl _) o
  cases hA : nArg e.k <;> cases hV : nVal e.k <;> cases hS : nSeen e.k
  all_goals
    go_enter Tryz.func70, Tryz.ntmps70
    go_wp2_with (first | (go_at_call 105; refine (namesArg_any _ _).mono ?_; rintro r w' ⟨rfl, rfl⟩) | (go_at_call 106; refine (namesValue_any _ _).mono ?_; rintro r w' ⟨rfl, rfl⟩) | (go_at_call 80; refine (namesSeen_any _ _).mono ?_; rintro r w' ⟨rfl, rfl⟩) | (go_at_call 104; refine (number_r w _ _ (by omega) (by omega) ht (by first | assumption | exact hba _)).mono ?_; rintro r w1 ⟨rfl, hb, hz, hc⟩; (try simp at hz); have hzz : w.heap.size < w1.heap.size := by omega))
    go_ret
    refine ⟨?_, by assumption⟩
    simp [app_str, numbersL, optL, hA, hV, hS]
end Go.Proofs.YtfdalbmopaemgabGreatDoor
