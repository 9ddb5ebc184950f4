import Derived.Test.YtfdalbmopaemgaaGreatDoorChecked
import Derived.Test.YtfdalbmopaemgaaGreatDoorZShelf
import Derived.Test.YtfdalbmopaemgaaGreatDoorZPlain
import Derived.WalkKit
import Derived.WalkSpells
import Derived.WalkLawsBesides
import Derived.Deep.QuietTactic
import Derived.BigQuiet
namespace Go.Proofs.YtfdalbmopaemgaaGreatDoor
open Go.RowKit

theorem ret_bool {a b : Bool} (h : a = b) : Ending.returned (.bool a) = .returned (.bool b) := by rw [h]
theorem ret_int {k : IntKind} {a b : Int} (h : a = b) : Ending.returned (.int k a) = .returned (.int k b) := by rw [h]
theorem ret_str {a b : List UInt8} (h : a = b) : Ending.returned (.string ⟨a.toArray⟩) = .returned (.string ⟨b.toArray⟩) := by rw [h]

/-! ### The library's table -/
def Tab (w : World) : Prop := Lib.TabIs Tryz.prog w "internal/strconv.uint64pow10" .u64 Lib.pow10Tab ∧ 3 ≤ w.heap.size

theorem Tab.below {w w' : World} {B : Nat} (h : Tab w) (hB : 3 ≤ B) (hb : Below B w w') : Tab w' :=
  ⟨var?_below (g := 0) hb (by kernel_rfl) (by omega) h.1, Nat.le_trans h.2 hb.size⟩

theorem below_grow (w : World) (k : Nat) (os : Array Obj) : Below w.heap.size w (Sort.grow (w.drewN k) os) :=
  ⟨rfl, rfl, rfl, by simp, fun _ h => Sort.heap_grow_old (w.drewN k) os h⟩

/-! ### Small functions of the kinds -/
set_option maxHeartbeats 400000 in
theorem onObject_any (k : Int) (w : World) :
    Calls Tryz.prog 115 #[.int .u8 k] w fun e w' => e = .returned (.bool (onObj k)) ∧ w' = w := by
  unfold onObj
  go_enter Tryz.func115, Tryz.ntmps115
  go_wp2
  all_goals (go_ret; exact ⟨by simp [*], rfl⟩)

set_option maxHeartbeats 400000 in
theorem isDigit_any (c : UInt8) (w : World) :
    Calls Tryz.prog 125 #[.int .u8 c.toNat] w fun e w' => e = .returned (.bool (isDig c)) ∧ w' = w := by
  unfold isDig
  go_enter Tryz.func125, Tryz.ntmps125
  go_wp2
  · go_ret
    refine ⟨ret_bool ?_, rfl⟩
    rw [decide_eq_true (by omega : 48 ≤ c.toNat), Bool.true_and]
    simp
    omega
  · go_ret
    refine ⟨ret_bool ?_, rfl⟩
    rw [decide_eq_false (by omega : ¬ 48 ≤ c.toNat), Bool.false_and]

set_option maxHeartbeats 400000 in
theorem namesArg_any (k : Int) (w : World) :
    Calls Tryz.prog 110 #[.int .u8 k] w fun e w' => e = .returned (.bool (nArg k)) ∧ w' = w := by
  unfold nArg
  go_enter Tryz.func110, Tryz.ntmps110
  go_wp2_with (go_at_call 115; refine (onObject_any _ _).mono ?_; rintro e w' ⟨rfl, rfl⟩)
  all_goals (go_ret; exact ⟨by simp [*], rfl⟩)

set_option maxHeartbeats 400000 in
theorem namesValue_any (k : Int) (w : World) :
    Calls Tryz.prog 111 #[.int .u8 k] w fun e w' => e = .returned (.bool (nVal k)) ∧ w' = w := by
  unfold nVal
  go_enter Tryz.func111, Tryz.ntmps111
  go_wp2
  all_goals (go_ret; exact ⟨by simp [*], rfl⟩)

set_option maxHeartbeats 400000 in
theorem namesSeen_any (k : Int) (w : World) :
    Calls Tryz.prog 85 #[.int .u8 k] w fun e w' => e = .returned (.bool (nSeen k)) ∧ w' = w := by
  unfold nSeen
  go_enter Tryz.func85, Tryz.ntmps85
  go_wp2
  all_goals (go_ret; exact ⟨by simp [*], rfl⟩)

set_option maxHeartbeats 400000 in
theorem letter_any (k : Int) (w : World) (h0 : 0 ≤ k) (h1 : k ≤ 255) :
    Calls Tryz.prog 74 #[.int .u8 k] w fun e w' => e = .returned (.string ⟨(letterL k).toArray⟩) ∧ w' = w := by
  have hc : k = 0 ∨ k = 1 ∨ k = 2 ∨ k = 3 ∨ k = 4 ∨ k = 5 ∨ k = 6 ∨ 7 ≤ k := by omega
  rcases hc with rfl | rfl | rfl | rfl | rfl | rfl | rfl | hc
  all_goals try (go_enter Tryz.func74, Tryz.ntmps74; go_wp2; go_ret; exact ⟨rfl, rfl⟩)
  have e : letterL k = [] := by unfold letterL; rw [if_neg (by omega), if_neg (by omega), if_neg (by omega), if_neg (by omega), if_neg (by omega), if_neg (by omega)]
  rw [e]
  clear e
  go_enter Tryz.func74, Tryz.ntmps74
  go_wp2
  go_ret
  exact ⟨rfl, rfl⟩

theorem letters_at (k : Nat) (c : UInt8) (hp : k < (⟨#[66, 82, 87, 65, 67, 88]⟩ : ByteArray).size) : (((((⟨#[66, 82, 87, 65, 67, 88]⟩ : ByteArray)[k]'hp).toNat : Int) == (c.toNat : Int)) = true → kindOfL c = (k : Int) + 1) ∧
    (((((⟨#[66, 82, 87, 65, 67, 88]⟩ : ByteArray)[k]'hp).toNat : Int) == (c.toNat : Int)) = false → c ≠ ([66, 82, 87, 65, 67, 88] : List UInt8).getD k 0) := by
  have hk : k < 6 := hp
  have hm : k = 0 ∨ k = 1 ∨ k = 2 ∨ k = 3 ∨ k = 4 ∨ k = 5 := by omega
  constructor
  · intro h
    have hc : (⟨#[66, 82, 87, 65, 67, 88]⟩ : ByteArray)[k]'hp = c := UInt8.toNat_inj.1 (by have := beq_iff_eq.1 h; omega)
    subst hc
    rcases hm with rfl | rfl | rfl | rfl | rfl | rfl <;> rfl
  · intro h e
    subst e
    rcases hm with rfl | rfl | rfl | rfl | rfl | rfl <;> simp at h <;> exact absurd rfl h

theorem kindOf_none (c : UInt8) (h : ∀ j, j < 6 → c ≠ ([66, 82, 87, 65, 67, 88] : List UInt8).getD j 0) : kindOfL c = 0 := by
  have h0 := h 0 (by omega)
  have h1 := h 1 (by omega)
  have h2 := h 2 (by omega)
  have h3 := h 3 (by omega)
  have h4 := h 4 (by omega)
  have h5 := h 5 (by omega)
  simp at h0 h1 h2 h3 h4 h5
  simp [kindOfL, *]

set_option maxHeartbeats 400000 in
theorem kindOf_any (c : UInt8) (w : World) :
    Calls Tryz.prog 112 #[.int .u8 c.toNat] w fun e w' => e = .returned (.int .u8 (kindOfL c)) ∧ w' = w := by
  have hlt := c.toNat_lt
  go_enter Tryz.func112, Tryz.ntmps112
  go_wp2
  go_loop [3] (fun i => ∃ k : Nat, k ≤ 6 ∧ i = .int .i64 k ∧ ∀ j, j < k → c ≠ ([66, 82, 87, 65, 67, 88] : List UInt8).getD j 0) (fun i => 6 - (intOf i).toNat)
  case atStart => exact ⟨0, by omega, rfl, by intro j h; omega⟩
  case round =>
    obtain ⟨k, hk, rfl, hn⟩ := hrel
    have HN : Hid (∀ j, j < k → c ≠ ([66, 82, 87, 65, 67, 88] : List UInt8).getD j 0) := hn
    clear hn
    go_wp2
    · go_ret
      exact ⟨ret_int ((letters_at k c _).1 ‹_›).symm, rfl⟩
    · have hlt6 : (k : Int) < 6 := by assumption
      have hne := (letters_at k c (by simp [ByteArray.size]; omega)).2 ‹_›
      go_round
      case rel =>
        refine ⟨k + 1, by omega, by go_num, fun j hj => ?_⟩
        by_cases e : j = k
        · subst e; exact hne
        · exact HN.out j (by omega)
      case measure => simp [intOf]; omega
    · go_ret
      have hge : 6 ≤ (k : Int) := by assumption
      exact ⟨ret_int (kindOf_none c fun j hj => HN.out j (by omega)).symm, rfl⟩

theorem app_str (a b : List UInt8) : (⟨a.toArray⟩ ++ ⟨b.toArray⟩ : ByteArray) = ⟨(a ++ b).toArray⟩ := by
  apply ByteArray.ext
  simp

set_option maxHeartbeats 400000 in
theorem number_any (n : Int) (w : World) (h0 : -9223372036854775808 ≤ n) (h1 : n ≤ 9223372036854775807) (ht : Tab w) :
    Calls Tryz.prog 109 #[.int .i64 n] w fun e w' => e = .returned (.string ⟨(numL n).toArray⟩) ∧ Below w.heap.size w w' := by
  have hlen := itoa_length 18 n (by omega) (by omega)
  go_enter Tryz.func109, Tryz.ntmps109
  go_wp2_with (go_at_call 121; refine (Tryz.strconv_FormatInt_10 _ h0 h1 _ ht.1).mono ?_; rintro e w' ⟨rfl, kk, os, rfl⟩)
  go_ret
  exact ⟨congrArg (fun s => Ending.returned (.string s)) (app_str [32] (Lib.itoa n)), below_grow _ _ _⟩

/-! ### The numbers of an event -/
abbrev evV (e : Ev) : Value := .agg #[.int .u8 e.k, .int .u8 e.t, .int .u8 e.a, .int .i32 e.v, .int .i32 e.s]

theorem bcells {B : Nat} {W w1 : World} (hb : Below B W w1) : ∀ b o, b < B → w1.cell? ⟨b, o, none⟩ = W.cell? ⟨b, o, none⟩ := fun b o h => hb.cell (p := ⟨b, o, none⟩) h
theorem bfroz {B : Nat} {W w1 : World} (hb : Below B W w1) : ∀ b o, b < B → w1.frozen? ⟨b, o, none⟩ = W.frozen? ⟨b, o, none⟩ := fun b o h => hb.frozen (p := ⟨b, o, none⟩) h

theorem number_r (w0 : World) (n : Int) (W : World) (h0 : -9223372036854775808 ≤ n) (h1 : n ≤ 9223372036854775807) (ht : Tab w0) (hb : Below w0.heap.size w0 W) :
    Calls Tryz.prog 109 #[.int .i64 n] W fun e w' => e = .returned (.string ⟨(numL n).toArray⟩) ∧ Below w0.heap.size w0 w' ∧ W.heap.size ≤ w'.heap.size ∧ ∀ b o, b < W.heap.size → w'.cell? ⟨b, o, none⟩ = W.cell? ⟨b, o, none⟩ := by
  refine (number_any n W h0 h1 (ht.below ht.2 hb)).mono ?_
  rintro e w' ⟨rfl, h⟩
  exact ⟨rfl, hb.trans (h.mono hb.size), h.size, bcells h⟩

theorem numL_pos (n : Int) : 0 < (numL n).length := by simp [numL]

set_option maxHeartbeats 1000000 in
theorem numbers_any (e : Ev) (w : World) (he : e.Ok) (ht : Tab w) :
    Calls Tryz.prog 75 #[evV e] w fun r w' => r = .returned (.string ⟨(numbersL e).toArray⟩) ∧ Below w.heap.size w w' := by
  have lt := numL_len8 e.t he.t0 he.t1
  have la := numL_len8 e.a he.a0 he.a1
  have lv := numL_len32 e.v he.v0 he.v1
  have ls := numL_len32 e.s he.s0 he.s1
  obtain ⟨k0, k1, t0, t1, a0, a1, v0, v1, s0, s1⟩ := he
  have hba : ∀ o, Below w.heap.size w (w.alloc o) := fun o => (Below.refl _ _).alloc (Nat.le_refl _) o
  cases hA : nArg e.k <;> cases hV : nVal e.k <;> cases hS : nSeen e.k
  all_goals
    go_enter Tryz.func75, Tryz.ntmps75
    go_wp2_with (first | (go_at_call 110; refine (namesArg_any _ _).mono ?_; rintro r w' ⟨rfl, rfl⟩) | (go_at_call 111; refine (namesValue_any _ _).mono ?_; rintro r w' ⟨rfl, rfl⟩) | (go_at_call 85; refine (namesSeen_any _ _).mono ?_; rintro r w' ⟨rfl, rfl⟩) | (go_at_call 109; refine (number_r w _ _ (by omega) (by omega) ht (by first | assumption | exact hba _)).mono ?_; rintro r w1 ⟨rfl, hb, hz, hc⟩; (try simp at hz); have hzz : w.heap.size < w1.heap.size := by omega))
    go_ret
    refine ⟨?_, by assumption⟩
    simp [app_str, numbersL, optL, hA, hV, hS]
end Go.Proofs.YtfdalbmopaemgaaGreatDoor

namespace Go.Proofs.YtfdalbmopaemgaaGreatDoor
open Go.RowKit

/-! ### Events in memory -/
structure EvAt (w : World) (b o : Nat) (e : Ev) : Prop where
  c0 : w.cell? ⟨b, o, none⟩ = some (.int .u8 e.k)
  c1 : w.cell? ⟨b, o + 1, none⟩ = some (.int .u8 e.t)
  c2 : w.cell? ⟨b, o + 2, none⟩ = some (.int .u8 e.a)
  c3 : w.cell? ⟨b, o + 3, none⟩ = some (.int .i32 e.v)
  c4 : w.cell? ⟨b, o + 4, none⟩ = some (.int .i32 e.s)

def EvsAt (w : World) (b off : Nat) (es : List Ev) : Prop := ∀ (i : Nat) (h : i < es.length), EvAt w b (off + i * 5) es[i]

/-- The slice value v holds the events es. -/
def SlEv (w : World) (v : Value) (es : List Ev) : Prop :=
  (es = [] ∧ ∃ a c, v = .slice a 0 c) ∨ (∃ b off cap, v = .slice (some ⟨b, off, none⟩) es.length cap ∧ b < w.heap.size ∧ EvsAt w b off es)

theorem EvAt.below {w w' : World} {B b o : Nat} {e : Ev} (h : EvAt w b o e) (hB : b < B) (hb : Below B w w') : EvAt w' b o e :=
  ⟨by rw [bcells hb _ _ hB]; exact h.c0, by rw [bcells hb _ _ hB]; exact h.c1, by rw [bcells hb _ _ hB]; exact h.c2, by rw [bcells hb _ _ hB]; exact h.c3, by rw [bcells hb _ _ hB]; exact h.c4⟩

theorem EvsAt.below {w w' : World} {B b o : Nat} {es : List Ev} (h : EvsAt w b o es) (hB : b < B) (hb : Below B w w') : EvsAt w' b o es := fun i hi => (h i hi).below hB hb

theorem SlEv.below {w w' : World} {v : Value} {es : List Ev} (h : SlEv w v es) (hb : Below w.heap.size w w') : SlEv w' v es := by
  rcases h with ⟨h1, h2⟩ | ⟨b, off, cap, h1, h2, h3⟩
  · exact Or.inl ⟨h1, h2⟩
  · exact Or.inr ⟨b, off, cap, h1, Nat.lt_of_lt_of_le h2 hb.size, h3.below h2 hb⟩

/-! ### Print -/
def allKinds (es : List Ev) : Bool := es.all fun e => isKind e.k
def printT (es : List Ev) : List UInt8 := if 60 < es.length then [] else if allKinds es then printL es else []
def printE (es : List Ev) : Int := if 60 < es.length then 1 else if allKinds es then 0 else 3

theorem allKinds_take (es : List Ev) (k : Nat) (h : k < es.length) (ha : allKinds (es.take k) = true) (hk : isKind es[k].k = true) : allKinds (es.take (k + 1)) = true := by
  unfold allKinds at ha ⊢
  rw [List.take_succ_eq_append_getElem h, List.all_append, ha]
  simp [hk]

theorem allKinds_no (es : List Ev) (k : Nat) (h : k < es.length) (hk : isKind es[k].k = false) : allKinds es = false := by
  unfold allKinds
  rw [List.all_eq_false]
  exact ⟨es[k], List.getElem_mem _, by simp [hk]⟩

theorem letterL_no (k : Int) (h : isKind k = false) : letterL k = [] := by
  unfold isKind at h
  simp at h
  unfold letterL
  rw [if_neg (by omega), if_neg (by omega), if_neg (by omega), if_neg (by omega), if_neg (by omega), if_neg (by omega)]

theorem tup_str_int {a b : List UInt8} {n m : Int} (h : a = b) (h' : n = m) : Ending.returned (.tuple #[.string ⟨a.toArray⟩, .int .i64 n]) = .returned (.tuple #[.string ⟨b.toArray⟩, .int .i64 m]) := by rw [h, h']

theorem numbers_r (w0 : World) (e : Ev) (W : World) (he : e.Ok) (ht : Tab w0) (hb : Below w0.heap.size w0 W) :
    Calls Tryz.prog 75 #[evV e] W fun r w' => r = .returned (.string ⟨(numbersL e).toArray⟩) ∧ Below w0.heap.size w0 w' := by
  refine (numbers_any e W he (ht.below ht.2 hb)).mono ?_
  rintro r w' ⟨rfl, h⟩
  exact ⟨rfl, hb.trans (h.mono hb.size)⟩

theorem numbersL_len (e : Ev) (he : e.Ok) : (numbersL e).length ≤ 33 := by
  have := lineL_len e he
  unfold lineL at this
  simp only [List.length_append] at this
  omega

theorem text_step (es : List Ev) (k : Nat) (h : k < es.length) (c : UInt8) (ev : Ev) (he : es[k] = ev) (hc : letterL ev.k = [c]) :
    (⟨(printL (es.take k)).toArray⟩ ++ (⟨#[c]⟩ ++ ⟨(numbersL ev).toArray⟩ ++ ⟨#[10]⟩) : ByteArray) = ⟨(printL (es.take (k + 1))).toArray⟩ := by
  rw [List.take_succ_eq_append_getElem h, printL_snoc, he, lineL, hc]
  show (⟨(printL (es.take k)).toArray⟩ ++ (⟨[c].toArray⟩ ++ ⟨(numbersL ev).toArray⟩ ++ ⟨[10].toArray⟩) : ByteArray) = _
  rw [app_str, app_str, app_str]

set_option maxHeartbeats 1000000 in
theorem histPrint_any (b off cap : Nat) (es : List Ev) (w : World) (hbw : b < w.heap.size) (hev : EvsAt w b off es) (hok : ∀ e ∈ es, e.Ok) (hmax : es.length ≤ 9223372036854775807) (ht : Tab w) :
    Calls Tryz.prog 50 #[.slice (some ⟨b, off, none⟩) es.length cap] w fun r w' => r = .returned (.tuple #[.string ⟨(printT es).toArray⟩, .int .i64 (printE es)]) ∧ Below w.heap.size w w' := by
  by_cases hl : 60 < es.length
  · have hl' : (60 : Int) < (es.length : Int) := by omega
    go_enter Tryz.func50, Tryz.ntmps50
    go_wp2
    go_ret2
    exact ⟨tup_str_int (by simp [printT, hl]) (by simp [printE, hl]), Below.refl _ _⟩
  · have hl' : ¬ (60 : Int) < (es.length : Int) := by omega
    go_enter Tryz.func50, Tryz.ntmps50
    go_wp2
    go_loopw [4, 13] (fun t i wr => ∃ k : Nat, k ≤ es.length ∧ i = .int .i64 k ∧ t = .string ⟨(printL (es.take k)).toArray⟩ ∧ allKinds (es.take k) = true ∧ Below w.heap.size w wr) (fun _ i _ => es.length - (intOf i).toNat)
    case atStart => exact ⟨0, by omega, rfl, rfl, rfl, Below.refl _ _⟩
    case round =>
      obtain ⟨k, hk, rfl, rfl, hall, hnx⟩ := hrel
      by_cases hlt : k < es.length
      · obtain ⟨g0, g1, g2, g3, g4⟩ := (hev k hlt).below hbw hnx
        have heok := hok es[k] (List.getElem_mem _)
        have hlen := printL_len (es.take k) (fun e he => hok e (List.mem_of_mem_take he))
        have hlen2 : (printL (es.take k)).length ≤ 2040 := by rw [List.length_take] at hlen; omega
        have hlen3 := numbersL_len es[k] heok
        have HA : Hid (allKinds (es.take k) = true) := hall
        obtain ⟨ev, hev'⟩ : ∃ ev, es[k] = ev := ⟨_, rfl⟩
        have HE : Hid (es[k] = ev) := hev'
        rw [hev'] at g0 g1 g2 g3 g4 heok hlen3
        clear hall hev' hlen
        have hk0 := heok.k0
        have hk1 := heok.k1
        have hlt' : (k : Int) < (es.length : Int) := by omega
        have hba : ∀ o, Below w.heap.size w (wr.alloc o) := fun o => hnx.alloc hnx.size o
        cases hkd : isKind ev.k with
        | true =>
          obtain ⟨c, hc1, _, _⟩ := kindOf_letterL ev.k hkd
          go_wp2_with (first | (go_at_call 74; refine (letter_any _ _ (by omega) (by omega)).mono ?_; rintro r w' ⟨rfl, rfl⟩) | (go_at_call 75; refine (numbers_r w ev _ heok ht (hba _)).mono ?_; rintro r w1 ⟨rfl, hb⟩))
          go_roundw
          case rel => exact ⟨k + 1, by omega, by go_num, congrArg Value.string (text_step es k hlt c ev HE.out hc1), allKinds_take es k hlt HA.out (by rw [HE.out]; exact hkd), hb⟩
          case measure => simp [intOf]; omega
        | false =>
          have hc1 := letterL_no ev.k hkd
          go_wp2_with (first | (go_at_call 74; refine (letter_any _ _ (by omega) (by omega)).mono ?_; rintro r w' ⟨rfl, rfl⟩))
          go_ret2
          have hno := allKinds_no es k hlt (by rw [HE.out]; exact hkd)
          exact ⟨tup_str_int (by simp [printT, hno]) (by simp [printE, hno, hl]), hba _⟩
      · have hge : ¬ (k : Int) < (es.length : Int) := by omega
        have hke : k = es.length := by omega
        subst hke
        rw [List.take_length] at hall ⊢
        go_wp2
        go_ret2
        exact ⟨tup_str_int (by simp [printT, hall, hl]) (by simp [printE, hall, hl]), hnx⟩

set_option maxHeartbeats 400000 in
theorem histPrint_nil (a : Option Addr) (cap : Nat) (w : World) :
    Calls Tryz.prog 50 #[.slice a 0 cap] w fun r w' => r = .returned (.tuple #[.string ⟨(printT []).toArray⟩, .int .i64 (printE [])]) ∧ w' = w := by
  go_enter Tryz.func50, Tryz.ntmps50
  go_wp2
  go_loop [4, 13] (fun t i => i = .int .i64 0 ∧ t = .string ⟨#[]⟩) (fun _ _ => 0)
  case atStart => exact ⟨rfl, rfl⟩
  case round =>
    obtain ⟨rfl, rfl⟩ := hrel
    go_wp2
    go_ret2
    exact ⟨rfl, rfl⟩

theorem histPrint_all (v : Value) (es : List Ev) (w : World) (hs : SlEv w v es) (hok : ∀ e ∈ es, e.Ok) (hmax : es.length ≤ 9223372036854775807) (ht : Tab w) :
    Calls Tryz.prog 50 #[v] w fun r w' => r = .returned (.tuple #[.string ⟨(printT es).toArray⟩, .int .i64 (printE es)]) ∧ Below w.heap.size w w' := by
  rcases hs with ⟨rfl, a, c, rfl⟩ | ⟨b, off, cap, rfl, h2, h3⟩
  · refine (histPrint_nil a c w).mono ?_
    rintro r w' ⟨rfl, rfl⟩
    exact ⟨rfl, Below.refl _ _⟩
  · exact histPrint_any b off cap es w h2 h3 hok hmax ht

set_option maxHeartbeats 400000 in
theorem print_all (v : Value) (es : List Ev) (w : World) (hs : SlEv w v es) (hok : ∀ e ∈ es, e.Ok) (hmax : es.length ≤ 9223372036854775807) (ht : Tab w) :
    Calls Tryz.prog 24 #[v] w fun r w' => r = .returned (.tuple #[.string ⟨(printT es).toArray⟩, .int .i64 (printE es)]) ∧ Below w.heap.size w w' := by
  go_enter Tryz.func24, Tryz.ntmps24
  go_wp2_with (go_at_call 50; refine (histPrint_all v es _ hs hok hmax ht).mono ?_; rintro r w1 ⟨rfl, hb⟩)
  go_ret2
  exact ⟨rfl, hb⟩

end Go.Proofs.YtfdalbmopaemgaaGreatDoor

namespace Go.Proofs.YtfdalbmopaemgaaGreatDoor
open Go.RowKit

/-! ### The reader -/
structure Rd (w : World) (b : Nat) (s : ByteArray) (p : Nat) (bad : Bool) : Prop where
  c0 : w.cell? ⟨b, 0, none⟩ = some (.string s)
  c1 : w.cell? ⟨b, 1, none⟩ = some (.int .i64 p)
  c2 : w.cell? ⟨b, 2, none⟩ = some (.bool bad)
  f1 : w.frozen? ⟨b, 1, none⟩ = false
  f2 : w.frozen? ⟨b, 2, none⟩ = false

def hit (l : List UInt8) (x : Int) : Bool := match l with
  | [] => false
  | c :: _ => (c.toNat : Int) == x

theorem hit_end (s : ByteArray) (p : Nat) (x : Int) (h : s.size ≤ p) : hit (s.data.toList.drop p) x = false := by
  rw [List.drop_eq_nil_of_le (by simpa using h)]
  rfl
theorem hit_in (s : ByteArray) (p : Nat) (x : Int) (h : p < s.size) : hit (s.data.toList.drop p) x = ((s[p].toNat : Int) == x) := by
  rw [List.drop_eq_getElem_cons (by simpa using h)]
  rfl

set_option maxHeartbeats 400000 in
theorem take_end (b : Nat) (s : ByteArray) (p : Nat) (bad : Bool) (x : Int) (w : World) (h : Rd w b s p bad) (hp : s.size ≤ p) :
    Calls Tryz.prog 122 #[.pointer (some ⟨b, 0, none⟩), .int .u8 x] w fun r w' => r = .returned (.bool false) ∧ ∃ n, w' = w.drewN n := by
  obtain ⟨c0, c1, c2, f1, f2⟩ := h
  have hd : decide ((s.size : Int) ≤ (p : Int)) = true := by simp; omega
  go_enter Tryz.func122, Tryz.ntmps122
  go_wp2
  go_quiet (fail)
  go_wp2
  go_ret
  exact ⟨rfl, _, rfl⟩

set_option maxHeartbeats 400000 in
theorem take_no (b : Nat) (s : ByteArray) (p : Nat) (bad : Bool) (x : Int) (w : World) (h : Rd w b s p bad) (hp : p < s.size) (hx : ((s[p].toNat : Int) != x) = true) :
    Calls Tryz.prog 122 #[.pointer (some ⟨b, 0, none⟩), .int .u8 x] w fun r w' => r = .returned (.bool false) ∧ ∃ n, w' = w.drewN n := by
  obtain ⟨c0, c1, c2, f1, f2⟩ := h
  have hd : decide ((s.size : Int) ≤ (p : Int)) = false := by simp; omega
  have hd2 : decide (s.size ≤ p) = false := by simp; omega
  have hp' : (p : Int) < (s.size : Int) := by omega
  go_enter Tryz.func122, Tryz.ntmps122
  go_wp2
  go_quiet (fail)
  go_wp2
  go_ret
  exact ⟨rfl, _, rfl⟩

set_option maxHeartbeats 400000 in
theorem take_yes (b : Nat) (s : ByteArray) (p : Nat) (bad : Bool) (x : Int) (w : World) (h : Rd w b s p bad) (hs : s.size ≤ 9223372036854775807) (hp : p < s.size) (hx : ((s[p].toNat : Int) != x) = false) :
    Calls Tryz.prog 122 #[.pointer (some ⟨b, 0, none⟩), .int .u8 x] w fun r w' => r = .returned (.bool true) ∧ ∃ n, w' = (w.setCell ⟨b, 1, none⟩ (.int .i64 (p + 1 : Nat))).drewN n := by
  obtain ⟨c0, c1, c2, f1, f2⟩ := h
  have hd : decide ((s.size : Int) ≤ (p : Int)) = false := by simp; omega
  have hd2 : decide (s.size ≤ p) = false := by simp; omega
  have hp' : (p : Int) < (s.size : Int) := by omega
  go_enter Tryz.func122, Tryz.ntmps122
  go_wp2
  go_quiet (fail)
  go_wp2
  go_ret
  exact ⟨rfl, _, rfl⟩

theorem Rd.drewN {w : World} {b : Nat} {s : ByteArray} {p : Nat} {bad : Bool} (h : Rd w b s p bad) (n : Nat) : Rd (w.drewN n) b s p bad := ⟨h.c0, h.c1, h.c2, h.f1, h.f2⟩

theorem Rd.setAt {w : World} {b : Nat} {s : ByteArray} {p : Nat} {bad : Bool} (h : Rd w b s p bad) (q : Nat) : Rd (w.setCell ⟨b, 1, none⟩ (.int .i64 q)) b s q bad :=
  ⟨by rw [World.cell?_setCell_other _ _ _ _ (by simp)]; exact h.c0, World.cell?_setCell_same _ _ _ h.c1, by rw [World.cell?_setCell_other _ _ _ _ (by simp)]; exact h.c2, by rw [World.frozen?_setCell]; exact h.f1, by rw [World.frozen?_setCell]; exact h.f2⟩

theorem Rd.setBad {w : World} {b : Nat} {s : ByteArray} {p : Nat} {bad : Bool} (h : Rd w b s p bad) : Rd (w.setCell ⟨b, 2, none⟩ (.bool true)) b s p true :=
  ⟨by rw [World.cell?_setCell_other _ _ _ _ (by simp)]; exact h.c0, by rw [World.cell?_setCell_other _ _ _ _ (by simp)]; exact h.c1, World.cell?_setCell_same _ _ _ h.c2, by rw [World.frozen?_setCell]; exact h.f1, by rw [World.frozen?_setCell]; exact h.f2⟩

theorem below_drewN {B : Nat} {a w : World} (h : Below B a w) (n : Nat) : Below B a (w.drewN n) := ⟨h.os, h.tape, h.output, h.size, h.block⟩

theorem take_any (b : Nat) (s : ByteArray) (p : Nat) (bad : Bool) (x : Int) (w : World) (h : Rd w b s p bad) (hs : s.size ≤ 9223372036854775807) :
    Calls Tryz.prog 122 #[.pointer (some ⟨b, 0, none⟩), .int .u8 x] w fun r w' => r = .returned (.bool (hit (s.data.toList.drop p) x)) ∧ Rd w' b s (if hit (s.data.toList.drop p) x then p + 1 else p) bad ∧ Below b w w' := by
  by_cases hp : p < s.size
  · rw [hit_in s p x hp]
    cases hx : ((s[p].toNat : Int) == x) with
    | true =>
      refine (take_yes b s p bad x w h hs hp (by simpa using hx)).mono ?_
      rintro r w' ⟨rfl, n, rfl⟩
      exact ⟨rfl, (h.setAt (p + 1)).drewN n, below_drewN ((Below.refl b w).setCell (p := ⟨b, 1, none⟩) (Nat.le_refl b) _) n⟩
    | false =>
      refine (take_no b s p bad x w h hp (by simpa using hx)).mono ?_
      rintro r w' ⟨rfl, n, rfl⟩
      exact ⟨rfl, h.drewN n, below_drewN (Below.refl _ _) n⟩
  · rw [hit_end s p x (by omega)]
    refine (take_end b s p bad x w h (by omega)).mono ?_
    rintro r w' ⟨rfl, n, rfl⟩
    exact ⟨rfl, h.drewN n, below_drewN (Below.refl _ _) n⟩

/-! ### digits -/
def atOf (b : Nat) (w : World) : Nat := match w.cell? ⟨b, 1, none⟩ with
  | some v => (intOf v).toNat
  | none => 0
theorem Rd.atOf {w : World} {b : Nat} {s : ByteArray} {p : Nat} {bad : Bool} (h : Rd w b s p bad) : atOf b w = p := by
  unfold YtfdalbmopaemgaaGreatDoor.atOf
  rw [h.c1]
  simp [intOf]

def sub (s : ByteArray) (p q : Nat) : List UInt8 := (s.data.toList.drop p).take (q - p)

theorem sub_length (s : ByteArray) (p q : Nat) (h2 : q ≤ s.size) : (sub s p q).length = q - p := by
  have : s.data.toList.length = s.size := by simp
  unfold sub
  rw [List.length_take, List.length_drop]
  omega

theorem sub_snoc (s : ByteArray) (p q : Nat) (h1 : p ≤ q) (h2 : q < s.size) : sub s p (q + 1) = sub s p q ++ [s[q]] := by
  unfold sub
  rw [show q + 1 - p = (q - p) + 1 by omega, List.take_succ_eq_append_getElem (by simp; omega)]
  congr 2
  rw [List.getElem_drop]
  simp only [show p + (q - p) = q by omega]
  rfl

def okD (l : List UInt8) : Bool := decide (1 ≤ digN 10 l) && (decide (digN 10 l = 1) || decide (l.head? ≠ some 48))

theorem digN_sub (s : ByteArray) (p q : Nat) (h1 : p ≤ q) (h2 : q ≤ p + 10) (h3 : q ≤ s.size) (hd : ∀ c ∈ sub s p q, isDig c = true) (he : q = p + 10 ∨ q = s.size ∨ ∃ h : q < s.size, isDig s[q] = false) : digN 10 (s.data.toList.drop p) = q - p := by
  have hsz : s.data.toList.length = s.size := by simp
  refine digN_eq 10 (q - p) _ (by omega) (by rw [List.length_drop]; omega) (fun i hi hij => ?_) ?_
  · apply hd
    unfold sub
    exact List.mem_take_iff_getElem.2 ⟨i, by rw [List.length_drop] at hi ⊢; omega, rfl⟩
  · rcases he with he | he | ⟨h, he⟩
    · exact Or.inl (by omega)
    · exact Or.inr (Or.inl (by rw [List.length_drop]; omega))
    · refine Or.inr (Or.inr ⟨by rw [List.length_drop]; omega, ?_⟩)
      rw [List.getElem_drop]
      simp only [show p + (q - p) = q by omega]
      exact he

end Go.Proofs.YtfdalbmopaemgaaGreatDoor
