import Derived.Test.YtfdalbmopaemgaaR7
namespace Go.Proofs.Ytfdalbmopaemgaa
open Go.RowKit

def emptyL (e : Ev) : Bool :=
  if e.k = 1 then e.v == 0 && e.s == 0 else if e.k = 2 then e.v == 0 else if e.k = 3 then e.s == 0 else if e.k = 4 then true else e.a == 0 && e.v == 0 && e.s == 0

def wrongL (h : List Ev) (e : Ev) : Int :=
  if 60 ≤ h.length then 1
  else if isKind e.k = false then 3
  else if e.k = 1 ∧ (15 ≤ countL h ∨ e.t ≠ (countL h : Int) + 1) then 4
  else if e.k = 1 ∧ e.a ≠ 0 ∧ openL h e.a = false then 5
  else if e.k ≠ 1 ∧ openL h e.t = false then 4
  else if 2 ≤ e.k ∧ e.k ≤ 4 ∧ 4 ≤ e.a then 6
  else if emptyL e = false then 7
  else if e.k = 5 ∧ childL h e.t = true then 8
  else 0

def checkG : List Ev → List Ev → Int × Int
  | _, [] => (0, 0)
  | pre, e :: l => if wrongL pre e = 0 then checkG (pre ++ [e]) l else (wrongL pre e, (pre.length : Int))

theorem kinds6 {k : Int} (h : isKind k = true) : k = 1 ∨ k = 2 ∨ k = 3 ∨ k = 4 ∨ k = 5 ∨ k = 6 := by
  unfold isKind at h
  simp at h
  omega

end Go.Proofs.Ytfdalbmopaemgaa
