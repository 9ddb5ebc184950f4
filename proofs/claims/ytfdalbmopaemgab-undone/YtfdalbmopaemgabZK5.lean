import Derived.Test.YtfdalbmopaemgabZK4
namespace Go.Proofs.Ytfdalbmopaemgab
open Go.RowKit

def strayL (e : Ev) : Bool := (e.a != 0 && !nArg e.k) || (e.v != 0 && !nVal e.k) || (e.s != 0 && !nSeen e.k)

theorem three (x : Int) (n : Bool) : (x != 0) = false ∨ ((x != 0) = true ∧ n = true) ∨ ((x != 0) = true ∧ n = false) := by
  cases (x != 0) <;> cases n <;> simp

end Go.Proofs.Ytfdalbmopaemgab

namespace Go.Proofs.Ytfdalbmopaemgab
open Go.RowKit

def txL (T : Tr) (k : Int) (t a : Nat) : Int := if k ≠ 1 then (if isO T.op t then 0 else 4) else if 15 < t ∨ t ≠ T.n + 1 then 4 else if mayO T.op (a : Int) then 0 else 5

end Go.Proofs.Ytfdalbmopaemgab
