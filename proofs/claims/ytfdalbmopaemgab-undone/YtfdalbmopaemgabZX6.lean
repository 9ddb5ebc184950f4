import Derived.Test.YtfdalbmopaemgabZX5
namespace Go.Proofs.Ytfdalbmopaemgab
open Go.RowKit

/-! ### Apart -/
theorem jj_live {es : List Ev} {T T' : Tr} (j : JJ es T) (j' : JJ es T') (c : Nat) : Live T c ↔ Live T' c := by
  unfold Live
  constructor
  · rintro (h | ⟨h1, h2, h3⟩)
    · exact Or.inl h
    · exact Or.inr ⟨h1, h2, by rw [j'.op c h2, ← j.op c h2]; exact h3⟩
  · rintro (h | ⟨h1, h2, h3⟩)
    · exact Or.inl h
    · exact Or.inr ⟨h1, h2, by rw [j.op c h2, ← j'.op c h2]; exact h3⟩

theorem jj_pth {es : List Ev} {T T' : Tr} (j : JJ es T) (j' : JJ es T') (c : Nat) (hc : c ≤ T.n) : pth T'.par c = pth T.par c :=
  pth_same (jj_par j) (fun i h1 h2 => by have := j.n15; rw [j'.par i (by omega), j.par i (by omega)]) c hc

theorem bitAnd1 (s n : Nat) (hs : s < 65536) : (bits BinOp.and IntKind.u16 ((s : Int) / 2 ^ n) 1 == 1) = s.testBit n := by
  rw [Bool.eq_iff_iff, beq_iff_eq]
  exact and16 s n hs

theorem bitAnd0 (s n : Nat) (hs : s < 65536) : (bits BinOp.and IntKind.u16 ((s : Int) / 2 ^ n) 1 == 0) = !s.testBit n := by
  have h1 : ((s : Int) / 2 ^ n) = ((s / 2 ^ n : Nat) : Int) := by simp
  have h2 : s / 2 ^ n < 65536 := Nat.lt_of_le_of_lt (Nat.div_le_self _ _) hs
  have h3 := u16_and_nat (s / 2 ^ n) 1 h2 (by omega)
  rw [h1, show (1 : Int) = ((1 : Nat) : Int) from rfl, h3, Nat.and_one_is_mod, Nat.testBit_eq_decide_div_mod_eq]
  have : s / 2 ^ n % 2 = 0 ∨ s / 2 ^ n % 2 = 1 := by omega
  rcases this with h | h <;> rw [h] <;> rfl

theorem bitAndOne (s : Nat) (hs : s < 65536) (h0 : s.testBit 0 = false) : (bits BinOp.and IntKind.u16 (s : Int) 1 != 0) = false := by
  have h3 := u16_and_nat s 1 hs (by omega)
  rw [show (1 : Int) = ((1 : Nat) : Int) from rfl, h3, Nat.and_one_is_mod]
  rw [Nat.testBit_eq_decide_div_mod_eq] at h0
  simp at h0
  rw [h0]
  rfl

def ApW (w : World) (b fb : Nat) (es : List Ev) (T : Tr) (wr : World) : Prop := StC wr b es ∧ FamAt wr fb (upT T) (opT T) ∧ Below w.heap.size w wr

theorem ApW.drewN {w : World} {b fb : Nat} {es : List Ev} {T : Tr} {wr : World} (h : ApW w b fb es T wr) (n : Nat) : ApW w b fb es T (wr.drewN n) :=
  ⟨h.1.drewN n, h.2.1.of_heap rfl (Nat.le_refl _), below_drewN h.2.2 n⟩

end Go.Proofs.Ytfdalbmopaemgab
