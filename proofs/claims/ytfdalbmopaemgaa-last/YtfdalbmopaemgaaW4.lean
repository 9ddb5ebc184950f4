import Derived.Test.YtfdalbmopaemgaaW3
namespace Go.Proofs.Ytfdalbmopaemgaa
open Go.RowKit

theorem tup_int_bool {n m : Int} {a b : Bool} (h : n = m) (h' : a = b) : Ending.returned (.tuple #[.int .i64 n, .bool a]) = .returned (.tuple #[.int .i64 m, .bool b]) := by rw [h, h']

theorem okD_two (s : ByteArray) (p q : Nat) (hp : p < s.size) (h : p + 2 ≤ q) (hc : digN 10 (s.data.toList.drop p) = q - p) : ((s[p].toNat : Int) != 48) = okD (s.data.toList.drop p) := by
  unfold okD
  rw [hc, decide_eq_true (by omega : 1 ≤ q - p), decide_eq_false (by omega : ¬ q - p = 1), Bool.true_and, Bool.false_or, List.drop_eq_getElem_cons (by simpa using hp)]
  have hp' : s.data.toList[p]'(by simpa using hp) = s[p] := rfl
  simp only [List.head?_cons, ne_eq, Option.some.injEq, hp']
  by_cases e : s[p] = 48
  · rw [e]
    rfl
  · have : (s[p].toNat : Int) ≠ 48 := fun h => e (UInt8.toNat_inj.1 (Int.ofNat_inj.1 h))
    simp [e, this]

theorem meas_lt {w1 w : World} {b : Nat} {s : ByteArray} {p q : Nat} {bad : Bool} (h : Rd w1 b s (q + 1) bad) (hat : atOf b w = q) (hq : q < p + 10) : p + 10 - atOf b w1 < p + 10 - atOf b w := by
  rw [h.atOf, hat]
  omega

end Go.Proofs.Ytfdalbmopaemgaa
