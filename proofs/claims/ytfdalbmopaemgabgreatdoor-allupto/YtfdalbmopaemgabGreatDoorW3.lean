import Derived.Test.YtfdalbmopaemgabGreatDoorW2
import Derived.Deep.QuietTactic
import Derived.BigQuiet
namespace Go.Proofs.YtfdalbmopaemgabGreatDoor
open Go.RowKit

/-! ### The reader -/
structure Rd (w : World) (b : Nat) (s : ByteArray) (p : Nat) (bad : Bool) : Prop where
  c0 : w.cell? ⟨b, 0, none⟩ = some (.string s)
  c1 : w.cell? ⟨b, 1, none⟩ = some (.int .i64 p)
  c2 : w.cell? ⟨b, 2, none⟩ = some (.bool bad)
  f1 : w.frozen? ⟨b, 1, none⟩ = false
  f2 : w.frozen? ⟨b, 2, none⟩ = false

def hit (l : List UInt8) (x : Int) : Bool := match l with
  | [] => false
  | c :: _ => (c.toNat : Int) == x

theorem hit_end (s : ByteArray) (p : Nat) (x : Int) (h : s.size ≤ p) : hit (s.data.toList.drop p) x = false := by
  rw [List.drop_eq_nil_of_le (by simpa using h)]
  rfl
theorem hit_in (s : ByteArray) (p : Nat) (x : Int) (h : p < s.size) : hit (s.data.toList.drop p) x = ((s[p].toNat : Int) == x) := by
  rw [List.drop_eq_getElem_cons (by simpa using h)]
  rfl

set_option maxHeartbeats 400000 in
theorem take_end (b : Nat) (s : ByteArray) (p : Nat) (bad : Bool) (x : Int) (w : World) (h : Rd w b s p bad) (hp : s.size ≤ p) :
    Calls Tryz.prog 117 #[.pointer (some ⟨b, 0, none⟩), .int .u8 x] w fun r w' => r = .returned (.bool false) ∧ ∃ n, w' = w.drewN n := by
  obtain ⟨c0, c1, c2, f1, f2⟩ := h
  have hd : decide ((s.size : Int) ≤ (p : Int)) = true := by simp; omega
  go_enter Tryz.func117, Tryz.ntmps117
  go_wp2
  go_quiet (fail)
  go_wp2
  go_ret
  exact ⟨rfl, _, rfl⟩

set_option maxHeartbeats 400000 in
theorem take_no (b : Nat) (s : ByteArray) (p : Nat) (bad : Bool) (x : Int) (w : World) (h : Rd w b s p bad) (hp : p < s.size) (hx : ((s[p].toNat : Int) != x) = true) :
    Calls Tryz.prog 117 #[.pointer (some ⟨b, 0, none⟩), .int .u8 x] w fun r w' => r = .returned (.bool false) ∧ ∃ n, w' = w.drewN n := by
  obtain ⟨c0, c1, c2, f1, f2⟩ := h
  have hd : decide ((s.size : Int) ≤ (p : Int)) = false := by simp; omega
  have hd2 : decide (s.size ≤ p) = false := by simp; omega
  have hp' : (p : Int) < (s.size : Int) := by omega
  go_enter Tryz.func117, Tryz.ntmps117
  go_wp2
  go_quiet (fail)
  go_wp2
  go_ret
  exact ⟨rfl, _, rfl⟩

set_option maxHeartbeats 400000 in
theorem take_yes (b : Nat) (s : ByteArray) (p : Nat) (bad : Bool) (x : Int) (w : World) (h : Rd w b s p bad) (hs : s.size ≤ 9223372036854775807) (hp : p < s.size) (hx : ((s[p].toNat : Int) != x) = false) :
    Calls Tryz.prog 117 #[.pointer (some ⟨b, 0, none⟩), .int .u8 x] w fun r w' => r = .returned (.bool true) ∧ ∃ n, w' = (w.setCell ⟨b, 1, none⟩ (.int .i64 (p + 1 : Nat))).drewN n := by
  obtain ⟨c0, c1, c2, f1, f2⟩ := h
  have hd : decide ((s.size : Int) ≤ (p : Int)) = false := by simp; omega
  have hd2 : decide (s.size ≤ p) = false := by simp; omega
  have hp' : (p : Int) < (s.size : Int) := by omega
  go_enter Tryz.func117, Tryz.ntmps117
  go_wp2
  go_quiet (fail)
  go_wp2
  go_ret
  exact ⟨rfl, _, rfl⟩

theorem Rd.drewN {w : World} {b : Nat} {s : ByteArray} {p : Nat} {bad : Bool} (h : Rd w b s p bad) (n : Nat) : Rd (w.drewN n) b s p bad := ⟨h.c0, h.c1, h.c2, h.f1, h.f2⟩

theorem Rd.setAt {w : World} {b : Nat} {s : ByteArray} {p : Nat} {bad : Bool} (h : Rd w b s p bad) (q : Nat) : Rd (w.setCell ⟨b, 1, none⟩ (.int .i64 q)) b s q bad :=
  ⟨by rw [World.cell?_setCell_other _ _ _ _ (by simp)]; exact h.c0, World.cell?_setCell_same _ _ _ h.c1, by rw [World.cell?_setCell_other _ _ _ _ (by simp)]; exact h.c2, by rw [World.frozen?_setCell]; exact h.f1, by rw [World.frozen?_setCell]; exact h.f2⟩

theorem Rd.setBad {w : World} {b : Nat} {s : ByteArray} {p : Nat} {bad : Bool} (h : Rd w b s p bad) : Rd (w.setCell ⟨b, 2, none⟩ (.bool true)) b s p true :=
  ⟨by rw [World.cell?_setCell_other _ _ _ _ (by simp)]; exact h.c0, by rw [World.cell?_setCell_other _ _ _ _ (by simp)]; exact h.c1, World.cell?_setCell_same _ _ _ h.c2, by rw [World.frozen?_setCell]; exact h.f1, by rw [World.frozen?_setCell]; exact h.f2⟩

theorem below_drewN {B : Nat} {a w : World} (h : Below B a w) (n : Nat) : Below B a (w.drewN n) := ⟨h.os, h.tape, h.output, h.size, h.block⟩

theorem take_any (b : Nat) (s : ByteArray) (p : Nat) (bad : Bool) (x : Int) (w : World) (h : Rd w b s p bad) (hs : s.size ≤ 9223372036854775807) :
    Calls Tryz.prog 117 #[.pointer (some ⟨b, 0, none⟩), .int .u8 x] w fun r w' => r = .returned (.bool (hit (s.data.toList.drop p) x)) ∧ Rd w' b s (if hit (s.data.toList.drop p) x then p + 1 else p) bad ∧ Below b w w' := by
  by_cases hp : p < s.size
  · rw [hit_in s p x hp]
    cases hx : ((s[p].toNat : Int) == x) with
    | true =>
      refine (take_yes b s p bad x w h hs hp (by simpa using hx)).mono ?_
      rintro r w' ⟨rfl, n, rfl⟩
      exact ⟨rfl, (h.setAt (p + 1)).drewN n, below_drewN ((Below.refl b w).setCell (p := ⟨b, 1, none⟩) (Nat.le_refl b) _) n⟩
    | false =>
      refine (take_no b s p bad x w h hp (by simpa using hx)).mono ?_
      rintro r w' ⟨rfl, n, rfl⟩
      exact ⟨rfl, h.drewN n, below_drewN (Below.refl _ _) n⟩
  · rw [hit_end s p x (by omega)]
    refine (take_end b s p bad x w h (by omega)).mono ?_
    rintro r w' ⟨rfl, n, rfl⟩
    exact ⟨rfl, h.drewN n, below_drewN (Below.refl _ _) n⟩

/-! ### digits -/
def atOf (b : Nat) (w : World) : Nat := match w.cell? ⟨b, 1, none⟩ with
  | some v => (intOf v).toNat
  | none => 0
theorem Rd.atOf {w : World} {b : Nat} {s : ByteArray} {p : Nat} {bad : Bool} (h : Rd w b s p bad) : atOf b w = p := by
  unfold YtfdalbmopaemgabGreatDoor.atOf
  rw [h.c1]
  simp [intOf]

def sub (s : ByteArray) (p q : Nat) : List UInt8 := (s.data.toList.drop p).take (q - p)

theorem sub_length (s : ByteArray) (p q : Nat) (h2 : q ≤ s.size) : (sub s p q).length = q - p := by
  have : s.data.toList.length = s.size := by simp
  unfold sub
  rw [List.length_take, List.length_drop]
  omega

theorem sub_snoc (s : ByteArray) (p q : Nat) (h1 : p ≤ q) (h2 : q < s.size) : sub s p (q + 1) = sub s p q ++ [s[q]] := by
  unfold sub
  rw [show q + 1 - p = (q - p) + 1 by omega, List.take_succ_eq_append_getElem (by simp; omega)]
  congr 2
  rw [List.getElem_drop]
  simp only [show p + (q - p) = q by omega]
  rfl

def okD (l : List UInt8) : Bool := decide (1 ≤ digN 10 l) && (decide (digN 10 l = 1) || decide (l.head? ≠ some 48))

theorem digN_sub (s : ByteArray) (p q : Nat) (h1 : p ≤ q) (h2 : q ≤ p + 10) (h3 : q ≤ s.size) (hd : ∀ c ∈ sub s p q, isDig c = true) (he : q = p + 10 ∨ q = s.size ∨ ∃ h : q < s.size, isDig s[q] = false) : digN 10 (s.data.toList.drop p) = q - p := by
  have hsz : s.data.toList.length = s.size := by simp
  refine digN_eq 10 (q - p) _ (by omega) (by rw [List.length_drop]; omega) (fun i hi hij => ?_) ?_
  · apply hd
    unfold sub
    exact List.mem_take_iff_getElem.2 ⟨i, by rw [List.length_drop] at hi ⊢; omega, rfl⟩
  · rcases he with he | he | ⟨h, he⟩
    · exact Or.inl (by omega)
    · exact Or.inr (Or.inl (by rw [List.length_drop]; omega))
    · refine Or.inr (Or.inr ⟨by rw [List.length_drop]; omega, ?_⟩)
      rw [List.getElem_drop]
      simp only [show p + (q - p) = q by omega]
      exact he

end Go.Proofs.YtfdalbmopaemgabGreatDoor
