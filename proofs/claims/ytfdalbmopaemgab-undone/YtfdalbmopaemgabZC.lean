import Derived.Test.YtfdalbmopaemgabZB
namespace Go.Proofs.Ytfdalbmopaemgab
open Go.RowKit

/-! ### The document's own answers about transactions -/
def isB (t : Int) (e : Ev) : Bool := e.k == 1 && e.t == t

def begunN : Int → List Ev → Option Nat
  | _, [] => none
  | t, e :: l => if isB t e then some 0 else (begunN t l).map (· + 1)

def begunI (h : List Ev) (t : Int) : Int := match begunN t h with
  | none => -1
  | some i => (i : Int)

def countL (h : List Ev) : Nat := (h.filter (fun e => e.k == 1)).length

def parentL (h : List Ev) (t : Int) : Int := match begunN t h with
  | none => 0
  | some i => (h[i]?.map (·.a)).getD 0

def withinG (h : List Ev) (a : Int) : Nat → Int → Bool
  | 0, t => t == a
  | f + 1, t => if t = a then true else if t = 0 then false else withinG h a f (parentL h t)

def isC (t : Int) (e : Ev) : Bool := e.k == 5 && e.t == t
def isX (h : List Ev) (t : Int) (e : Ev) : Bool := e.k == 6 && withinG h e.t 16 t && e.t != 0

def openL (h : List Ev) (t : Int) : Bool := match begunN t h with
  | none => false
  | some b => !h.any (isC t) && !(h.drop b).any (isX h t)

theorem begunN_app (t : Int) : ∀ (l m : List Ev), (∀ e ∈ l, isB t e = false) → begunN t (l ++ m) = (begunN t m).map (· + l.length)
  | [], m, _ => by simp
  | e :: l, m, h => by
    have h1 := h e (List.mem_cons_self ..)
    have h2 := begunN_app t l m fun x hx => h x (List.mem_cons_of_mem _ hx)
    simp only [List.cons_append, begunN, h1, h2]
    cases begunN t m <;> simp [Nat.add_assoc]

theorem begunN_none (t : Int) (l : List Ev) (h : ∀ e ∈ l, isB t e = false) : begunN t l = none := by
  have := begunN_app t l [] h
  simpa [begunN] using this

theorem mem_take_getElem {l : List Ev} {k : Nat} {e : Ev} (h : e ∈ l.take k) : ∃ (i : Nat) (hi : i < l.length), i < k ∧ l[i] = e := by
  obtain ⟨i, hi, rfl⟩ := List.getElem_of_mem h
  rw [List.length_take] at hi
  exact ⟨i, by omega, by omega, by simp⟩

theorem begunN_at (t : Int) (l : List Ev) (k : Nat) (hk : k < l.length) (h : ∀ (i : Nat) (hi : i < l.length), i < k → isB t l[i] = false) (hb : isB t l[k] = true) : begunN t l = some k := by
  have hs : l = l.take k ++ l.drop k := (List.take_append_drop k l).symm
  rw [List.drop_eq_getElem_cons hk] at hs
  rw [hs, begunN_app t _ _ (fun e he => by obtain ⟨i, hi, h1, rfl⟩ := mem_take_getElem he; exact h i hi h1)]
  simp [begunN, hb]
  omega

theorem begunN_lt (t : Int) : ∀ (l : List Ev) (i : Nat), begunN t l = some i → ∃ h : i < l.length, isB t l[i] = true
  | [], i, h => by cases h
  | e :: l, i, h => by
    unfold begunN at h
    split at h
    · rename_i hb
      cases h
      exact ⟨by simp, hb⟩
    · cases hq : begunN t l with
      | none => rw [hq] at h; cases h
      | some j =>
        rw [hq] at h
        cases h
        obtain ⟨h1, h2⟩ := begunN_lt t l j hq
        exact ⟨by simp; omega, by simpa using h2⟩

theorem SlEv.at_ {w : World} {a : Option Addr} {c : Nat} {es : List Ev} (h : SlEv w (.slice a es.length c) es) (k : Nat) (hk : k < es.length) : ∃ b off, a = some ⟨b, off, none⟩ ∧ b < w.heap.size ∧ EvAt w b (off + k * 5) es[k] := by
  rcases h with ⟨rfl, _⟩ | ⟨b, off, c', h1, h2, h3⟩
  · simp at hk
  · simp only [Value.slice.injEq] at h1
    exact ⟨b, off, h1.1, h2, h3 k hk⟩


end Go.Proofs.Ytfdalbmopaemgab

namespace Go.Proofs.Ytfdalbmopaemgab
open Go.RowKit

theorem countL_take (es : List Ev) (k : Nat) (h : k < es.length) : countL (es.take (k + 1)) = countL (es.take k) + (if es[k].k == 1 then 1 else 0) := by
  unfold countL
  rw [List.take_succ_eq_append_getElem h, List.filter_append, List.length_append]
  congr 1
  cases hq : (es[k].k == 1) <;> simp [List.filter, hq]

theorem countL_le (es : List Ev) : countL es ≤ es.length := List.length_filter_le ..

theorem ret_u8 {a b : Int} (h : a = b) : Ending.returned (.int .u8 a) = .returned (.int .u8 b) := by rw [h]

end Go.Proofs.Ytfdalbmopaemgab

namespace Go.Proofs.Ytfdalbmopaemgab
open Go.RowKit

theorem any_drop_at {p : Ev → Bool} (l : List Ev) (b k : Nat) (hb : b ≤ k) (hk : k < l.length) (h : p l[k] = true) : (l.drop b).any p = true := by
  rw [List.any_eq_true]
  refine ⟨l[k], ?_, h⟩
  have : (l.drop b)[k - b]'(by rw [List.length_drop]; omega) = l[k] := by
    rw [List.getElem_drop]
    congr 1
    omega
  rw [← this]
  exact List.getElem_mem _

theorem any_drop_none {p : Ev → Bool} (l : List Ev) (b : Nat) (h : ∀ (i : Nat) (hi : i < l.length), b ≤ i → p l[i] = false) : (l.drop b).any p = false := by
  rw [List.any_eq_false]
  intro e he
  obtain ⟨i, hi, rfl⟩ := List.getElem_of_mem he
  rw [List.getElem_drop, h _ _ (by omega)]
  decide

def childL (h : List Ev) (t : Int) : Bool := (List.range 15).any fun i => openL h ((i + 1 : Nat) : Int) && parentL h ((i + 1 : Nat) : Int) == t

end Go.Proofs.Ytfdalbmopaemgab

namespace Go.Proofs.Ytfdalbmopaemgab
open Go.RowKit

def emptyL (e : Ev) : Bool :=
  if e.k = 1 then e.v == 0 && e.s == 0 else if e.k = 2 then e.v == 0 else if e.k = 3 then e.s == 0 else if e.k = 4 then true else e.a == 0 && e.v == 0 && e.s == 0

def wrongL (h : List Ev) (e : Ev) : Int :=
  if 60 ≤ h.length then 1
  else if isKind e.k = false then 3
  else if e.k = 1 ∧ (15 ≤ countL h ∨ e.t ≠ (countL h : Int) + 1) then 4
  else if e.k = 1 ∧ e.a ≠ 0 ∧ openL h e.a = false then 5
  else if e.k ≠ 1 ∧ openL h e.t = false then 4
  else if 2 ≤ e.k ∧ e.k ≤ 4 ∧ 4 ≤ e.a then 6
  else if emptyL e = false then 7
  else if e.k = 5 ∧ childL h e.t = true then 8
  else 0

def checkG : List Ev → List Ev → Int × Int
  | _, [] => (0, 0)
  | pre, e :: l => if wrongL pre e = 0 then checkG (pre ++ [e]) l else (wrongL pre e, (pre.length : Int))

theorem kinds6 {k : Int} (h : isKind k = true) : k = 1 ∨ k = 2 ∨ k = 3 ∨ k = 4 ∨ k = 5 ∨ k = 6 := by
  unfold isKind at h
  simp at h
  omega

end Go.Proofs.Ytfdalbmopaemgab
