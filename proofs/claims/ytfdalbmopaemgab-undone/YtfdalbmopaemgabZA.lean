import Derived.Lib.ItoaMem
import Derived.Test.YtfdalbmopaemgabChecked
import Derived.WalkKit
import Derived.WalkSpells
import Derived.WalkLawsBesides
import Derived.Deep.QuietTactic
import Derived.BigQuiet
import Derived.Lib.Strings
namespace Go.Proofs.Ytfdalbmopaemgab
open Go.Lib (decDigits itoa)

/-- An event: its five numbers. -/
structure Ev where
  k : Int
  t : Int
  a : Int
  v : Int
  s : Int

/-- Its numbers fit their types. -/
structure Ev.Ok (e : Ev) : Prop where
  k0 : 0 ≤ e.k
  k1 : e.k ≤ 255
  t0 : 0 ≤ e.t
  t1 : e.t ≤ 255
  a0 : 0 ≤ e.a
  a1 : e.a ≤ 255
  v0 : -2147483648 ≤ e.v
  v1 : e.v ≤ 2147483647
  s0 : -2147483648 ≤ e.s
  s1 : e.s ≤ 2147483647

def onObj (k : Int) : Bool := k == 2 || k == 3 || k == 4
def nArg (k : Int) : Bool := k == 1 || onObj k
def nVal (k : Int) : Bool := k == 3 || k == 4
def nSeen (k : Int) : Bool := k == 2 || k == 4

/-- Is it one of the six kinds? -/
def isKind (k : Int) : Bool := decide (1 ≤ k) && decide (k ≤ 6)

def letterL (k : Int) : List UInt8 := if k = 1 then [66] else if k = 2 then [82] else if k = 3 then [87] else if k = 4 then [65] else if k = 5 then [67] else if k = 6 then [88] else []

def bare (e : Ev) : Ev := ⟨e.k, e.t, if nArg e.k then e.a else 0, if nVal e.k then e.v else 0, if nSeen e.k then e.s else 0⟩

def numL (n : Int) : List UInt8 := 32 :: itoa n
def optL (b : Bool) (n : Int) : List UInt8 := if b then numL n else []
def numbersL (e : Ev) : List UInt8 := numL e.t ++ (optL (nArg e.k) e.a ++ (optL (nVal e.k) e.v ++ optL (nSeen e.k) e.s))
def lineL (e : Ev) : List UInt8 := letterL e.k ++ numbersL e
def printL : List Ev → List UInt8
  | [] => []
  | e :: l => lineL e ++ 10 :: printL l

theorem printL_snoc (l : List Ev) (e : Ev) : printL (l ++ [e]) = printL l ++ (lineL e ++ [10]) := by
  induction l with
  | nil => simp [printL]
  | cons x l ih => simp [printL, ih]

theorem printL_append (l m : List Ev) : printL (l ++ m) = printL l ++ printL m := by
  induction l with
  | nil => simp [printL]
  | cons x l ih => simp [printL, ih]

/-! ### Numbers as text -/
def isDig (c : UInt8) : Bool := decide (48 ≤ c.toNat) && decide (c.toNat ≤ 57)

def valL (l : List UInt8) : Nat := l.foldl (fun n c => n * 10 + (c.toNat - 48)) 0

theorem valL_snoc (l : List UInt8) (c : UInt8) : valL (l ++ [c]) = valL l * 10 + (c.toNat - 48) := by simp [valL]

theorem dig_ofNat (d : Nat) (h : d < 10) : (UInt8.ofNat (48 + d)).toNat = 48 + d := by
  rw [UInt8.toNat_ofNat']
  omega

theorem isDig_ofNat (d : Nat) (h : d < 10) : isDig (UInt8.ofNat (48 + d)) = true := by
  unfold isDig
  rw [dig_ofNat d h]
  simp
  omega

theorem ofNat_dig (c : UInt8) (h : isDig c = true) : UInt8.ofNat (48 + (c.toNat - 48)) = c := by
  unfold isDig at h
  simp at h
  rw [show 48 + (c.toNat - 48) = c.toNat by omega]
  simp

theorem dec_small {u : Nat} (h : u < 10) : decDigits u = [UInt8.ofNat (48 + u)] := by rw [decDigits, dif_pos h]
theorem dec_big {u : Nat} (h : ¬ u < 10) : decDigits u = decDigits (u / 10) ++ [UInt8.ofNat (48 + u % 10)] := by rw [decDigits, dif_neg h]

theorem dec_digits (u : Nat) : ∀ c ∈ decDigits u, isDig c = true := by
  induction u using Nat.strongRecOn with
  | _ u ih =>
    intro c hc
    by_cases h : u < 10
    · rw [dec_small h, List.mem_singleton] at hc
      subst hc
      exact isDig_ofNat u h
    · rw [dec_big h, List.mem_append, List.mem_singleton] at hc
      rcases hc with hc | hc
      · exact ih (u / 10) (by omega) c hc
      · subst hc
        exact isDig_ofNat _ (by omega)

theorem dec_val (u : Nat) : valL (decDigits u) = u := by
  induction u using Nat.strongRecOn with
  | _ u ih =>
    by_cases h : u < 10
    · rw [dec_small h]
      simp [valL]
      omega
    · rw [dec_big h, valL_snoc, ih (u / 10) (by omega), dig_ofNat _ (by omega)]
      omega

theorem dec_ne (u : Nat) : decDigits u ≠ [] := by
  by_cases h : u < 10
  · rw [dec_small h]; simp
  · rw [dec_big h]; simp

theorem dec_head (u : Nat) (h : 1 ≤ u) : (decDigits u).head? ≠ some 48 := by
  induction u using Nat.strongRecOn with
  | _ u ih =>
    by_cases h' : u < 10
    · rw [dec_small h']
      simp only [List.head?_cons, ne_eq, Option.some.injEq]
      intro e
      have := congrArg UInt8.toNat e
      rw [dig_ofNat u h'] at this
      have h48 : (48 : UInt8).toNat = 48 := rfl
      omega
    · rw [dec_big h']
      have h2 := ih (u / 10) (by omega) (by omega)
      have h3 := dec_ne (u / 10)
      cases hd : decDigits (u / 10) with
      | nil => exact absurd hd h3
      | cons x y => rw [hd] at h2; simpa using h2

theorem dec_len1 (u : Nat) : 1 ≤ (decDigits u).length := by
  have := dec_ne u
  cases h : decDigits u with
  | nil => exact absurd h this
  | cons _ _ => simp

theorem dec_head_app (u : Nat) (r : List UInt8) (h : 1 ≤ u) : (decDigits u ++ r).head? ≠ some 48 := by
  have := dec_head u h
  cases h : decDigits u with
  | nil => exact absurd h (dec_ne u)
  | cons _ _ => rw [h] at this; simpa using this

theorem dec_length (k : Nat) : ∀ u, u < 10 ^ (k + 1) → (decDigits u).length ≤ k + 1 := by
  induction k with
  | zero => intro u h; rw [dec_small (by simpa using h)]; simp
  | succ k ih =>
    intro u h
    by_cases h' : u < 10
    · rw [dec_small h']; simp
    · rw [dec_big h']
      have := ih (u / 10) (by rw [Nat.pow_succ] at h; omega)
      simp
      omega

theorem dec_of_val (l : List UInt8) : l ≠ [] → (∀ c ∈ l, isDig c = true) → (l.length = 1 ∨ l.head? ≠ some 48) → decDigits (valL l) = l ∧ (l.head? ≠ some 48 → 1 ≤ valL l) := by
  obtain ⟨r, rfl⟩ : ∃ r : List UInt8, l = r.reverse := ⟨l.reverse, by simp⟩
  induction r with
  | nil => intro h; simp at h
  | cons c r ih =>
    intro _ hd hh
    simp only [List.reverse_cons] at hd hh ⊢
    have hc : isDig c = true := hd c (by simp)
    have hcb : c.toNat - 48 < 10 := by unfold isDig at hc; simp at hc; omega
    by_cases hr : r = []
    · subst hr
      simp only [List.reverse_nil, List.nil_append]
      have e : valL [c] = c.toNat - 48 := by simp [valL]
      rw [e]
      refine ⟨by rw [dec_small hcb, ofNat_dig c hc], fun h => ?_⟩
      simp at h
      have : c.toNat ≠ 48 := fun e => h (UInt8.toNat_inj.1 (by simpa using e))
      unfold isDig at hc
      simp at hc
      omega
    · have hrr : r.reverse ≠ [] := by simpa using hr
      obtain ⟨x, y, hxy⟩ : ∃ x y, r.reverse = x :: y := by
        cases hrv : r.reverse with
        | nil => exact absurd hrv hrr
        | cons x y => exact ⟨x, y, rfl⟩
      have hh' : r.reverse.head? ≠ some 48 := by
        rcases hh with hh | hh
        · simp at hh; exact absurd hh hr
        · rw [hxy] at hh ⊢; simpa using hh
      obtain ⟨i1, i2⟩ := ih hrr (fun d hd' => hd d (by simp at hd' ⊢; exact Or.inl hd')) (Or.inr hh')
      have hp := i2 hh'
      rw [valL_snoc]
      refine ⟨?_, fun _ => by omega⟩
      rw [dec_big (by omega), show (valL r.reverse * 10 + (c.toNat - 48)) / 10 = valL r.reverse by omega, show (valL r.reverse * 10 + (c.toNat - 48)) % 10 = c.toNat - 48 by omega, i1, ofNat_dig c hc]

theorem val_lt (l : List UInt8) (h : ∀ c ∈ l, isDig c = true) : valL l < 10 ^ l.length := by
  obtain ⟨r, rfl⟩ : ∃ r : List UInt8, l = r.reverse := ⟨l.reverse, by simp⟩
  induction r with
  | nil => simp [valL]
  | cons c r ih =>
    simp only [List.reverse_cons] at h ⊢
    have hc : isDig c = true := h c (by simp)
    unfold isDig at hc
    simp at hc
    have := ih (fun d hd => h d (by simp at hd ⊢; exact Or.inl hd))
    rw [valL_snoc]
    simp only [List.length_append, List.length_cons, List.length_nil, Nat.pow_succ]
    simp at this ⊢
    omega

theorem itoa_pos (u : Nat) : itoa (u : Int) = decDigits u := by unfold itoa; rw [if_neg (by omega)]; simp
theorem itoa_min (u : Nat) (h : 1 ≤ u) : itoa (-(u : Int)) = 45 :: decDigits u := by unfold itoa; rw [if_pos (by omega)]; simp

theorem itoa_length (k : Nat) (n : Int) (h0 : -(10 ^ (k + 1) : Nat) < n) (h1 : n < (10 ^ (k + 1) : Nat)) : (itoa n).length ≤ k + 2 := by
  by_cases hn : n < 0
  · obtain ⟨u, rfl⟩ : ∃ u : Nat, n = -(u : Int) := ⟨n.natAbs, by omega⟩
    rw [itoa_min u (by omega)]
    have := dec_length k u (by omega)
    simp
    omega
  · obtain ⟨u, rfl⟩ : ∃ u : Nat, n = u := ⟨n.toNat, by omega⟩
    rw [itoa_pos]
    have := dec_length k u (by omega)
    omega

/-! ### A number read -/

/-- How many digits stand at the head, so many at most. -/
def digN : Nat → List UInt8 → Nat
  | 0, _ => 0
  | _ + 1, [] => 0
  | f + 1, c :: l => if isDig c then digN f l + 1 else 0

theorem digN_le : ∀ (f : Nat) (l : List UInt8), digN f l ≤ f ∧ digN f l ≤ l.length
  | 0, _ => by simp [digN]
  | _ + 1, [] => by simp [digN]
  | f + 1, c :: l => by
    have := digN_le f l
    simp only [digN, List.length_cons]
    split <;> omega

theorem digN_all : ∀ (f : Nat) (l : List UInt8), ∀ c ∈ l.take (digN f l), isDig c = true
  | 0, _ => by simp [digN]
  | _ + 1, [] => by simp [digN]
  | f + 1, c :: l => by
    simp only [digN]
    split
    · rename_i h
      intro d hd
      simp at hd
      rcases hd with rfl | hd
      · exact h
      · exact digN_all f l d hd
    · simp

/-- Where a count stops: so many digits, and then none, or enough. -/
theorem digN_eq : ∀ (f j : Nat) (l : List UInt8), j ≤ f → j ≤ l.length → (∀ i (h : i < l.length), i < j → isDig l[i] = true) → (j = f ∨ j = l.length ∨ ∃ h : j < l.length, isDig l[j] = false) → digN f l = j
  | 0, j, l, h1, _, _, _ => by simp [digN]; omega
  | f + 1, j, [], _, h2, _, _ => by simp [digN]; simp at h2; omega
  | f + 1, 0, c :: l, _, _, _, h => by
    simp only [digN]
    rcases h with h | h | ⟨_, h⟩
    · omega
    · simp at h
    · simp at h; simp [h]
  | f + 1, j + 1, c :: l, h1, h2, h3, h => by
    have hc : isDig c = true := by have := h3 0 (by simp) (by omega); simpa using this
    simp only [digN, hc, if_true]
    have := digN_eq f j l (by omega) (by simpa using h2) (fun i hi hij => by have := h3 (i + 1) (by simpa using hi) (by omega); simpa using this) (by
      rcases h with h | h | ⟨h', h⟩
      · exact Or.inl (by omega)
      · exact Or.inr (Or.inl (by simp at h; omega))
      · exact Or.inr (Or.inr ⟨by simpa using h', by simpa using h⟩))
    omega

theorem digN_append (l r : List UInt8) (f : Nat) (hl : ∀ c ∈ l, isDig c = true) (hf : l.length ≤ f) (hr : ∀ c, r.head? = some c → isDig c = false) : digN f (l ++ r) = l.length := by
  refine digN_eq f l.length (l ++ r) hf (by simp) (fun i h hi => ?_) ?_
  · rw [List.getElem_append_left hi]
    exact hl _ (List.getElem_mem _)
  · cases r with
    | nil => exact Or.inr (Or.inl (by simp))
    | cons c r => exact Or.inr (Or.inr ⟨by simp, by simpa using hr c (by simp)⟩)

/-- A byte 45 at the head? -/
def isMinus : List UInt8 → Bool
  | c :: _ => c == 45
  | [] => false

def behind (l : List UInt8) : List UInt8 := if isMinus l then l.tail else l

/-- What the digits behind are worth, with their sign. -/
def worth (l : List UInt8) : Int := if isMinus l then -((valL ((behind l).take (digN 10 (behind l))) : Nat) : Int) else ((valL ((behind l).take (digN 10 (behind l))) : Nat) : Int)

/-- Is it a number as it is written, from low to high? -/
def goodNum (low high : Int) (l : List UInt8) : Bool :=
  decide (1 ≤ digN 10 (behind l)) && (decide (digN 10 (behind l) = 1) || decide ((behind l).head? ≠ some 48)) && !(isMinus l && decide (worth l = 0)) && decide (low ≤ worth l) && decide (worth l ≤ high)

/-- A byte 32 and a number: its worth, and how many bytes. -/
def numR (low high : Int) : List UInt8 → Option (Int × Nat)
  | [] => none
  | c :: l => if c = 32 ∧ goodNum low high l = true then some (worth l, 1 + (if isMinus l then 1 else 0) + digN 10 (behind l)) else none

theorem goodNum_itoa {low high : Int} {l : List UInt8} (h : goodNum low high l = true) : l.take ((if isMinus l then 1 else 0) + digN 10 (behind l)) = itoa (worth l) ∧ low ≤ worth l ∧ worth l ≤ high ∧ (if isMinus l then 1 else 0) + digN 10 (behind l) ≤ l.length := by
  unfold goodNum at h
  simp only [Bool.and_eq_true, Bool.or_eq_true, decide_eq_true_eq, Bool.not_eq_true', Bool.and_eq_false_iff, decide_eq_false_iff_not] at h
  obtain ⟨⟨⟨⟨h1, h2⟩, h3⟩, h4⟩, h5⟩ := h
  refine ⟨?_, h4, h5, ?_⟩
  · have hle := digN_le 10 (behind l)
    have hall := digN_all 10 (behind l)
    have hlen : ((behind l).take (digN 10 (behind l))).length = digN 10 (behind l) := by simp; omega
    have hne : (behind l).take (digN 10 (behind l)) ≠ [] := by intro e; rw [e] at hlen; simp at hlen; omega
    have hhd : ((behind l).take (digN 10 (behind l))).head? = (behind l).head? := by
      cases hb : behind l with
      | nil => simp
      | cons x y =>
        obtain ⟨m, hm⟩ : ∃ m, digN 10 (behind l) = m + 1 := ⟨digN 10 (behind l) - 1, by omega⟩
        rw [hb] at hm
        rw [hm]; simp
    have hdv := dec_of_val _ hne hall (by rw [hlen, hhd]; exact h2)
    by_cases hm : isMinus l = true
    · have hb : behind l = l.tail := by unfold behind; rw [if_pos hm]
      have hw : worth l = -((valL ((behind l).take (digN 10 (behind l))) : Nat) : Int) := by unfold worth; rw [if_pos hm]
      have hnz : worth l ≠ 0 := by rcases h3 with h3 | h3; · rw [hm] at h3; simp at h3
                                   · exact h3
      rw [if_pos hm, hw, itoa_min _ (by rw [hw] at hnz; omega), hdv.1]
      cases l with
      | nil => simp [isMinus] at hm
      | cons c l =>
        simp [isMinus] at hm
        subst hm
        rw [Nat.add_comm 1, List.take_succ_cons, hb, List.tail_cons]
    · have hb : behind l = l := by unfold behind; rw [if_neg hm]
      have hw : worth l = ((valL ((behind l).take (digN 10 (behind l))) : Nat) : Int) := by unfold worth; rw [if_neg hm]
      rw [if_neg hm, hw, itoa_pos, hdv.1, hb]
      simp
  · have hle := digN_le 10 (behind l)
    by_cases hm : isMinus l = true
    · have hb : behind l = l.tail := by unfold behind; rw [if_pos hm]
      rw [if_pos hm]
      rw [hb] at hle ⊢
      cases l with
      | nil => simp [isMinus] at hm
      | cons c l => simp at hle ⊢; omega
    · have hb : behind l = l := by unfold behind; rw [if_neg hm]
      rw [if_neg hm]
      rw [hb] at hle ⊢
      omega

theorem numR_some {low high : Int} {l : List UInt8} {n : Int} {c : Nat} (h : numR low high l = some (n, c)) : l.take c = numL n ∧ low ≤ n ∧ n ≤ high ∧ c ≤ l.length := by
  cases l with
  | nil => simp [numR] at h
  | cons x l =>
    simp only [numR] at h
    split at h
    · rename_i hg
      obtain ⟨rfl, hg⟩ := hg
      simp only [Option.some.injEq, Prod.mk.injEq] at h
      obtain ⟨rfl, rfl⟩ := h
      obtain ⟨g1, g2, g3, g4⟩ := goodNum_itoa hg
      refine ⟨?_, g2, g3, ?_⟩
      · rw [Nat.add_assoc, Nat.add_comm 1, List.take_succ_cons, g1]; rfl
      · simp; omega
    · simp at h

theorem not_minus_dec (u : Nat) (r : List UInt8) : isMinus (decDigits u ++ r) = false := by
  have hn := dec_ne u
  have hd := dec_digits u
  cases h : decDigits u with
  | nil => exact absurd h hn
  | cons c l =>
    rw [h] at hd
    have := hd c (by simp)
    unfold isDig at this
    simp at this
    simp only [List.cons_append, isMinus]
    simp
    intro e
    subst e
    simp at this

theorem numR_itoa (low high n : Int) (r : List UInt8) (h0 : low ≤ n) (h1 : n ≤ high) (hb : -10000000000 < n) (hb' : n < 10000000000) (hr : ∀ c, r.head? = some c → isDig c = false) : numR low high (numL n ++ r) = some (n, (numL n).length) := by
  unfold numL
  simp only [List.cons_append, numR, true_and]
  by_cases hn : n < 0
  · obtain ⟨u, rfl⟩ : ∃ u : Nat, n = -(u : Int) := ⟨n.natAbs, by omega⟩
    have hu : 1 ≤ u := by omega
    have hi := itoa_min u hu
    have hl := dec_length 9 u (by omega)
    have hm : isMinus (itoa (-(u : Int)) ++ r) = true := by rw [hi]; simp [isMinus]
    have hbh : behind (itoa (-(u : Int)) ++ r) = decDigits u ++ r := by unfold behind; rw [if_pos hm, hi]; rfl
    have hc : digN 10 (decDigits u ++ r) = (decDigits u).length := digN_append _ _ _ (dec_digits u) (by omega) hr
    have hw : worth (itoa (-(u : Int)) ++ r) = -(u : Int) := by unfold worth; rw [if_pos hm, hbh, hc]; simp [dec_val]
    have hlen := dec_len1 u
    have hhd := dec_head_app u r hu
    have hg : goodNum low high (itoa (-(u : Int)) ++ r) = true := by
      unfold goodNum
      rw [hw, hbh, hc, hm]
      simp only [decide_eq_true_eq, Bool.and_eq_true, Bool.or_eq_true, Bool.not_eq_true', Bool.and_eq_false_iff, decide_eq_false_iff_not]
      exact ⟨⟨⟨⟨hlen, Or.inr hhd⟩, Or.inr (by omega)⟩, h0⟩, h1⟩
    rw [if_pos hg, hw, hbh, hc, if_pos hm, hi]
    simp; omega
  · obtain ⟨u, rfl⟩ : ∃ u : Nat, n = u := ⟨n.toNat, by omega⟩
    have hi := itoa_pos u
    have hl := dec_length 9 u (by omega)
    have hm : isMinus (itoa (u : Int) ++ r) = false := by rw [hi]; exact not_minus_dec u r
    have hbh : behind (itoa (u : Int) ++ r) = decDigits u ++ r := by unfold behind; rw [hm, hi]; rfl
    have hc : digN 10 (decDigits u ++ r) = (decDigits u).length := digN_append _ _ _ (dec_digits u) (by omega) hr
    have hw : worth (itoa (u : Int) ++ r) = (u : Int) := by unfold worth; rw [hm, hbh, hc]; simp [dec_val]
    have hlen := dec_len1 u
    have hhd : (decDigits u).length = 1 ∨ (decDigits u ++ r).head? ≠ some 48 := by
      by_cases hu : 1 ≤ u
      · exact Or.inr (dec_head_app u r hu)
      · left
        rw [dec_small (by omega)]; rfl
    have hg : goodNum low high (itoa (u : Int) ++ r) = true := by
      unfold goodNum
      rw [hw, hbh, hc, hm]
      simp only [decide_eq_true_eq, Bool.and_eq_true, Bool.or_eq_true, Bool.not_eq_true', Bool.and_eq_false_iff, decide_eq_false_iff_not]
      exact ⟨⟨⟨⟨hlen, hhd⟩, Or.inl trivial⟩, h0⟩, h1⟩
    rw [if_pos hg, hw, hbh, hc, hm, hi]
    simp; omega

/-! ### A line read -/
def kindOfL (c : UInt8) : Int := if c = 66 then 1 else if c = 82 then 2 else if c = 87 then 3 else if c = 65 then 4 else if c = 67 then 5 else if c = 88 then 6 else 0

def optR (b : Bool) (low high : Int) (l : List UInt8) : Option (Int × Nat) := if b then numR low high l else some (0, 0)

def restR (k : Int) (l : List UInt8) : Option Ev :=
  (numR 0 255 l).bind fun t => (optR (nArg k) 0 255 (l.drop t.2)).bind fun a => (optR (nVal k) (-2147483648) 2147483647 (l.drop (t.2 + a.2))).bind fun v =>
    (optR (nSeen k) (-2147483648) 2147483647 (l.drop (t.2 + a.2 + v.2))).bind fun s => if t.2 + a.2 + v.2 + s.2 = l.length then some ⟨k, t.1, a.1, v.1, s.1⟩ else none

def parseLineL : List UInt8 → Option Ev
  | [] => none
  | c :: l => if kindOfL c = 0 then none else restR (kindOfL c) l

theorem optR_some {b : Bool} {low high : Int} {l : List UInt8} {n : Int} {c : Nat} (hl : low ≤ 0) (hh : 0 ≤ high) (h : optR b low high l = some (n, c)) : l.take c = optL b n ∧ low ≤ n ∧ n ≤ high ∧ c ≤ l.length ∧ (b = false → n = 0) := by
  unfold optR at h
  cases b with
  | true =>
    simp at h
    obtain ⟨h1, h2, h3, h4⟩ := numR_some h
    exact ⟨by simpa [optL] using h1, h2, h3, h4, by simp⟩
  | false =>
    simp at h
    obtain ⟨rfl, rfl⟩ := h
    exact ⟨by simp [optL], hl, hh, by simp, by simp⟩

theorem letterL_kindOf (c : UInt8) (h : kindOfL c ≠ 0) : letterL (kindOfL c) = [c] ∧ isKind (kindOfL c) = true := by
  unfold kindOfL at h ⊢
  repeat' split
  all_goals first | (subst_vars; exact ⟨rfl, rfl⟩) | simp_all

theorem kindOf_letterL (k : Int) (h : isKind k = true) : ∃ c, letterL k = [c] ∧ kindOfL c = k ∧ c ≠ 10 := by
  unfold isKind at h
  simp at h
  obtain ⟨h1, h2⟩ := h
  have : k = 1 ∨ k = 2 ∨ k = 3 ∨ k = 4 ∨ k = 5 ∨ k = 6 := by omega
  rcases this with rfl | rfl | rfl | rfl | rfl | rfl
  · exact ⟨66, rfl, rfl, by decide⟩
  · exact ⟨82, rfl, rfl, by decide⟩
  · exact ⟨87, rfl, rfl, by decide⟩
  · exact ⟨65, rfl, rfl, by decide⟩
  · exact ⟨67, rfl, rfl, by decide⟩
  · exact ⟨88, rfl, rfl, by decide⟩

theorem take_split (l a b : List UInt8) (m n : Nat) (h1 : l.take m = a) (h2 : (l.drop m).take n = b) : l.take (m + n) = a ++ b := by
  rw [List.take_add, h1, h2]

theorem restR_some {k : Int} {l : List UInt8} {e : Ev} (hk : isKind k = true) (h : restR k l = some e) : l = numbersL e ∧ e.k = k ∧ e.Ok ∧ bare e = e := by
  unfold restR at h
  simp only [Option.bind_eq_some_iff] at h
  obtain ⟨⟨t, c1⟩, ht, ⟨a, c2⟩, ha, ⟨v, c3⟩, hv, ⟨s, c4⟩, hs, h⟩ := h
  split at h
  · rename_i hl
    simp only [Option.some.injEq] at h
    subst h
    obtain ⟨t1, t2, t3, t4⟩ := numR_some ht
    obtain ⟨a1, a2, a3, a4, a5⟩ := optR_some (by decide) (by decide) ha
    obtain ⟨v1, v2, v3, v4, v5⟩ := optR_some (by decide) (by decide) hv
    obtain ⟨s1, s2, s3, s4, s5⟩ := optR_some (by decide) (by decide) hs
    simp only at a1 v1 s1 hl
    unfold isKind at hk
    simp at hk
    refine ⟨?_, rfl, ⟨by simp; omega, by simp; omega, t2, t3, a2, a3, v2, v3, s2, s3⟩, ?_⟩
    · unfold numbersL
      simp only
      have e1 := take_split l _ _ c1 c2 t1 a1
      have e2 := take_split l _ _ (c1 + c2) c3 e1 v1
      have e3 := take_split l _ _ (c1 + c2 + c3) c4 e2 s1
      rw [hl, List.take_length] at e3
      rw [e3]
      simp only [List.append_assoc]
    · unfold bare
      simp only
      cases h1 : nArg k <;> cases h2 : nVal k <;> cases h3 : nSeen k <;> simp_all
  · simp at h

theorem parseLineL_some {l : List UInt8} {e : Ev} (h : parseLineL l = some e) : l = lineL e ∧ e.Ok ∧ bare e = e ∧ isKind e.k = true := by
  cases l with
  | nil => simp [parseLineL] at h
  | cons c l =>
    simp only [parseLineL] at h
    split at h
    · simp at h
    · rename_i hk
      obtain ⟨g1, g2⟩ := letterL_kindOf c hk
      obtain ⟨r1, r2, r3, r4⟩ := restR_some g2 h
      refine ⟨?_, r3, r4, by rw [r2]; exact g2⟩
      unfold lineL
      rw [r2, g1, ← r1]
      rfl

theorem numL_head (n : Int) (r : List UInt8) (c : UInt8) (h : (numL n ++ r).head? = some c) : isDig c = false := by
  simp [numL] at h
  subst h
  decide

theorem optL_head (b : Bool) (n : Int) (r : List UInt8) (hr : ∀ c, r.head? = some c → isDig c = false) (c : UInt8) (h : (optL b n ++ r).head? = some c) : isDig c = false := by
  cases b with
  | true => exact numL_head n r c (by simpa [optL] using h)
  | false => exact hr c (by simpa [optL] using h)

theorem optR_optL (b : Bool) (low high n : Int) (r : List UInt8) (h0 : low ≤ n) (h1 : n ≤ high) (hb : -10000000000 < n) (hb' : n < 10000000000) (hr : ∀ c, r.head? = some c → isDig c = false) : optR b low high (optL b n ++ r) = some (if b then n else 0, (optL b n).length) := by
  cases b with
  | true => simpa [optR, optL] using numR_itoa low high n r h0 h1 hb hb' hr
  | false => simp [optR, optL]

theorem restR_numbers (e : Ev) (he : e.Ok) : restR e.k (numbersL e) = some (bare e) := by
  have hnil : ∀ c : UInt8, ([] : List UInt8).head? = some c → isDig c = false := by simp
  have hS : ∀ c, (optL (nSeen e.k) e.s).head? = some c → isDig c = false := by
    intro c h
    exact optL_head (nSeen e.k) e.s [] hnil c (by simpa using h)
  have hV := optL_head (nVal e.k) e.v _ hS
  have hA := optL_head (nArg e.k) e.a _ hV
  have := he.t0; have := he.t1; have := he.a0; have := he.a1; have := he.v0; have := he.v1; have := he.s0; have := he.s1
  have r1 := numR_itoa 0 255 e.t _ he.t0 he.t1 (by omega) (by omega) hA
  have r2 := optR_optL (nArg e.k) 0 255 e.a _ he.a0 he.a1 (by omega) (by omega) hV
  have r3 := optR_optL (nVal e.k) (-2147483648) 2147483647 e.v _ he.v0 he.v1 (by omega) (by omega) hS
  have r4 := optR_optL (nSeen e.k) (-2147483648) 2147483647 e.s [] he.s0 he.s1 (by omega) (by omega) hnil
  rw [List.append_nil] at r4
  unfold restR numbersL
  rw [r1]
  simp only [Option.bind_some]
  rw [List.drop_left, r2]
  simp only [Option.bind_some]
  rw [← List.drop_drop, List.drop_left, List.drop_left, r3]
  simp only [Option.bind_some]
  rw [← List.drop_drop, ← List.drop_drop, List.drop_left, List.drop_left, List.drop_left, r4]
  simp only [Option.bind_some, List.length_append]
  rw [if_pos (by omega)]
  rfl

theorem parseLineL_line (e : Ev) (he : e.Ok) (hk : isKind e.k = true) : parseLineL (lineL e) = some (bare e) := by
  obtain ⟨c, h1, h2, _⟩ := kindOf_letterL e.k hk
  unfold lineL
  rw [h1]
  simp only [List.cons_append, List.nil_append, parseLineL, h2]
  rw [if_neg (by unfold isKind at hk; simp at hk; omega)]
  exact restR_numbers e he

/-! ### No byte 10 in a line -/
theorem dig_ne10 (c : UInt8) (h : isDig c = true) : c ≠ 10 := by
  intro e
  subst e
  simp [isDig] at h

theorem numL_no10 (n : Int) : ∀ c ∈ numL n, c ≠ 10 := by
  intro c hc
  simp only [numL, List.mem_cons] at hc
  rcases hc with rfl | hc
  · decide
  · unfold itoa at hc
    split at hc
    · simp only [List.mem_cons] at hc
      rcases hc with rfl | hc
      · decide
      · exact dig_ne10 c (dec_digits _ c hc)
    · exact dig_ne10 c (dec_digits _ c hc)

theorem optL_no10 (b : Bool) (n : Int) : ∀ c ∈ optL b n, c ≠ 10 := by
  cases b with
  | true => simpa [optL] using numL_no10 n
  | false => simp [optL]

theorem lineL_no10 (e : Ev) (hk : isKind e.k = true) : ∀ c ∈ lineL e, c ≠ 10 := by
  obtain ⟨c0, h1, _, h3⟩ := kindOf_letterL e.k hk
  intro c hc
  unfold lineL numbersL at hc
  rw [h1] at hc
  simp only [List.mem_append, List.mem_cons, List.not_mem_nil, or_false] at hc
  rcases hc with rfl | hc | hc | hc | hc
  · exact h3
  · exact numL_no10 _ c hc
  · exact optL_no10 _ _ c hc
  · exact optL_no10 _ _ c hc
  · exact optL_no10 _ _ c hc

/-! ### How long -/
theorem numL_len8 (n : Int) (h0 : 0 ≤ n) (h1 : n ≤ 255) : (numL n).length ≤ 4 := by
  obtain ⟨u, rfl⟩ : ∃ u : Nat, n = u := ⟨n.toNat, by omega⟩
  unfold numL
  rw [itoa_pos]
  have := dec_length 2 u (by omega)
  simp; omega

theorem numL_len32 (n : Int) (h0 : -2147483648 ≤ n) (h1 : n ≤ 2147483647) : (numL n).length ≤ 12 := by
  unfold numL
  have := itoa_length 9 n (by omega) (by omega)
  simp; omega

theorem optL_len (b : Bool) (n : Int) : (optL b n).length ≤ (numL n).length := by
  cases b <;> simp [optL]

theorem letterL_len (k : Int) : (letterL k).length ≤ 1 := by
  unfold letterL
  repeat' split
  all_goals simp

theorem lineL_len (e : Ev) (he : e.Ok) : (lineL e).length ≤ 33 := by
  have h1 := letterL_len e.k
  have h2 := numL_len8 e.t he.t0 he.t1
  have h3 := numL_len8 e.a he.a0 he.a1
  have h4 := numL_len32 e.v he.v0 he.v1
  have h5 := numL_len32 e.s he.s0 he.s1
  have o1 := optL_len (nArg e.k) e.a
  have o2 := optL_len (nVal e.k) e.v
  have o3 := optL_len (nSeen e.k) e.s
  unfold lineL numbersL
  simp only [List.length_append]
  omega

theorem printL_len (l : List Ev) (hl : ∀ e ∈ l, e.Ok) : (printL l).length ≤ 34 * l.length := by
  induction l with
  | nil => simp [printL]
  | cons e l ih =>
    have := ih (fun x hx => hl x (by simp [hx]))
    have := lineL_len e (hl e (by simp))
    simp only [printL, List.length_append, List.length_cons]
    omega

/-! ### A text read -/
def upTo10 (l : List UInt8) : List UInt8 := l.takeWhile fun c => c != 10

theorem upTo10_le (l : List UInt8) : (upTo10 l).length ≤ l.length := by
  unfold upTo10
  exact (List.takeWhile_prefix _).length_le

theorem upTo10_append (a r : List UInt8) (h : ∀ c ∈ a, c ≠ 10) : upTo10 (a ++ 10 :: r) = a := by
  unfold upTo10
  induction a with
  | nil => simp
  | cons c a ih =>
    have hc := h c (by simp)
    simp only [List.cons_append]
    rw [List.takeWhile_cons_of_pos (by simpa using hc), ih (fun d hd => h d (by simp [hd]))]

theorem upTo10_split (l : List UInt8) (h : (upTo10 l).length ≠ l.length) : l = upTo10 l ++ 10 :: l.drop ((upTo10 l).length + 1) := by
  unfold upTo10 at h ⊢
  induction l with
  | nil => simp at h
  | cons c l ih =>
    by_cases hc : c = 10
    · subst hc
      simp
    · rw [List.takeWhile_cons_of_pos (by simpa using hc)] at h ⊢
      simp only [List.length_cons, List.cons_append, List.drop_succ_cons]
      rw [← ih (by simpa using h)]

/-- The events, the error, the place. -/
def parseG : Nat → List UInt8 → List Ev → List Ev × Int × Int
  | 0, _, acc => (acc, 0, 0)
  | f + 1, l, acc =>
    if l = [] then (acc, 0, 0)
    else if (upTo10 l).length = l.length ∨ 60 ≤ acc.length then ([], 2, (acc.length : Int))
    else match parseLineL (upTo10 l) with
      | none => ([], 2, (acc.length : Int))
      | some e => parseG f (l.drop ((upTo10 l).length + 1)) (acc ++ [e])

def parseL (l : List UInt8) : List Ev × Int × Int := if 2100 < l.length then ([], 1, 0) else parseG (l.length + 1) l []

/-- What has been read, is printed as it was. -/
def Read (l : List Ev) : Prop := ∀ e ∈ l, e.Ok ∧ isKind e.k = true ∧ bare e = e

theorem parseG_sound : ∀ (f : Nat) (l : List UInt8) (acc : List Ev), l.length < f → acc.length ≤ 60 → Read acc →
    ((parseG f l acc).2.1 = 0 → (parseG f l acc).2.2 = 0 ∧ printL (parseG f l acc).1 = printL acc ++ l ∧ Read (parseG f l acc).1 ∧ (parseG f l acc).1.length ≤ 60) ∧
    ((parseG f l acc).2.1 ≠ 0 → (parseG f l acc).1 = [] ∧ (parseG f l acc).2.1 = 2 ∧ 0 ≤ (parseG f l acc).2.2 ∧ (parseG f l acc).2.2 ≤ 60)
  | 0, l, acc, h, _, _ => by omega
  | f + 1, l, acc, h, ha, hr => by
    unfold parseG
    by_cases hl : l = []
    · subst hl
      simp [ha, hr]
    · rw [if_neg hl]
      have hpos : 0 < l.length := List.length_pos_iff.2 hl
      by_cases hx : (upTo10 l).length = l.length ∨ 60 ≤ acc.length
      · rw [if_pos hx]
        simp
        omega
      · rw [if_neg hx]
        have hx1 : (upTo10 l).length ≠ l.length := fun e => hx (Or.inl e)
        have hx2 : acc.length < 60 := by omega
        cases hp : parseLineL (upTo10 l) with
        | none => simp; omega
        | some e =>
          simp only
          obtain ⟨p1, p2, p3, p4⟩ := parseLineL_some hp
          have hs := upTo10_split l hx1
          have ih := parseG_sound f (l.drop ((upTo10 l).length + 1)) (acc ++ [e]) (by simp; omega) (by simp; omega) (by
            intro x hx
            simp at hx
            rcases hx with hx | rfl
            · exact hr x hx
            · exact ⟨p2, p4, p3⟩)
          refine ⟨fun h0 => ?_, ih.2⟩
          obtain ⟨i1, i2, i3, i4⟩ := ih.1 h0
          refine ⟨i1, ?_, i3, i4⟩
          rw [i2, printL_snoc, ← p1]
          conv => rhs; rw [hs]
          simp

theorem parseL_sound (l : List UInt8) :
    ((parseL l).2.1 = 0 → (parseL l).2.2 = 0 ∧ printL (parseL l).1 = l ∧ Read (parseL l).1 ∧ (parseL l).1.length ≤ 60) ∧
    ((parseL l).2.1 ≠ 0 → (parseL l).1 = [] ∧ 0 ≤ (parseL l).2.2 ∧ (parseL l).2.2 ≤ 60) := by
  unfold parseL
  split
  · simp
  · have := parseG_sound (l.length + 1) l [] (by omega) (by simp) (by intro x hx; simp at hx)
    refine ⟨fun h => ?_, fun h => ?_⟩
    · have := this.1 h
      simpa [printL] using this
    · have := this.2 h
      exact ⟨this.1, this.2.2⟩

theorem parseG_print : ∀ (h : List Ev) (f : Nat) (acc : List Ev), (∀ e ∈ h, e.Ok ∧ isKind e.k = true) → h.length < f → acc.length + h.length ≤ 60 → parseG f (printL h) acc = (acc ++ h.map bare, 0, 0)
  | [], f, acc, _, hf, _ => by
    obtain ⟨f, rfl⟩ : ∃ g, f = g + 1 := ⟨f - 1, by simp at hf; omega⟩
    simp [parseG, printL]
  | e :: h, f, acc, he, hf, hl => by
    obtain ⟨f, rfl⟩ : ∃ g, f = g + 1 := ⟨f - 1, by simp at hf; omega⟩
    obtain ⟨e1, e2⟩ := he e (by simp)
    have hu := upTo10_append (lineL e) (printL h) (lineL_no10 e e2)
    simp only [List.length_cons] at hl hf
    unfold parseG
    rw [printL, hu, if_neg (by simp), if_neg (by simp; omega), parseLineL_line e e1 e2]
    simp only
    rw [show List.drop ((lineL e).length + 1) (lineL e ++ 10 :: printL h) = printL h from by rw [← List.drop_drop, List.drop_left]; rfl]
    rw [parseG_print h f (acc ++ [bare e]) (fun x hx => he x (by simp [hx])) (by omega) (by simp; omega)]
    simp

theorem parseL_print (h : List Ev) (he : ∀ e ∈ h, e.Ok ∧ isKind e.k = true) (hl : h.length ≤ 60) : parseL (printL h) = (h.map bare, 0, 0) := by
  have := printL_len h (fun e hx => (he e hx).1)
  have hge : h.length ≤ (printL h).length := by
    clear this hl he
    induction h with
    | nil => simp
    | cons e h ih => simp only [printL, List.length_append, List.length_cons]; omega
  unfold parseL
  rw [if_neg (by omega), parseG_print h _ [] he (by omega) (by simpa using hl)]
  simp

theorem printL_nil_iff (h : List Ev) : printL h = [] ↔ h = [] := by
  cases h with
  | nil => simp [printL]
  | cons e h => simp [printL]

end Go.Proofs.Ytfdalbmopaemgab

namespace Go.Proofs.Ytfdalbmopaemgab
open Go.RowKit

theorem ret_bool {a b : Bool} (h : a = b) : Ending.returned (.bool a) = .returned (.bool b) := by rw [h]
theorem ret_int {k : IntKind} {a b : Int} (h : a = b) : Ending.returned (.int k a) = .returned (.int k b) := by rw [h]
theorem ret_str {a b : List UInt8} (h : a = b) : Ending.returned (.string ⟨a.toArray⟩) = .returned (.string ⟨b.toArray⟩) := by rw [h]

/-! ### The library's table -/
theorem below_grow (w : World) (k : Nat) (os : Array Obj) : Below w.heap.size w (Sort.grow (w.drewN k) os) :=
  ⟨rfl, rfl, rfl, by simp, fun _ h => Sort.heap_grow_old (w.drewN k) os h⟩

/-! ### Small functions of the kinds -/
theorem letters_at (k : Nat) (c : UInt8) (hp : k < (⟨#[66, 82, 87, 65, 67, 88]⟩ : ByteArray).size) : (((((⟨#[66, 82, 87, 65, 67, 88]⟩ : ByteArray)[k]'hp).toNat : Int) == (c.toNat : Int)) = true → kindOfL c = (k : Int) + 1) ∧
    (((((⟨#[66, 82, 87, 65, 67, 88]⟩ : ByteArray)[k]'hp).toNat : Int) == (c.toNat : Int)) = false → c ≠ ([66, 82, 87, 65, 67, 88] : List UInt8).getD k 0) := by
  have hk : k < 6 := hp
  have hm : k = 0 ∨ k = 1 ∨ k = 2 ∨ k = 3 ∨ k = 4 ∨ k = 5 := by omega
  constructor
  · intro h
    have hc : (⟨#[66, 82, 87, 65, 67, 88]⟩ : ByteArray)[k]'hp = c := UInt8.toNat_inj.1 (by have := beq_iff_eq.1 h; omega)
    subst hc
    rcases hm with rfl | rfl | rfl | rfl | rfl | rfl <;> rfl
  · intro h e
    subst e
    rcases hm with rfl | rfl | rfl | rfl | rfl | rfl <;> simp at h <;> exact absurd rfl h

theorem kindOf_none (c : UInt8) (h : ∀ j, j < 6 → c ≠ ([66, 82, 87, 65, 67, 88] : List UInt8).getD j 0) : kindOfL c = 0 := by
  have h0 := h 0 (by omega)
  have h1 := h 1 (by omega)
  have h2 := h 2 (by omega)
  have h3 := h 3 (by omega)
  have h4 := h 4 (by omega)
  have h5 := h 5 (by omega)
  simp at h0 h1 h2 h3 h4 h5
  simp [kindOfL, *]

theorem app_str (a b : List UInt8) : (⟨a.toArray⟩ ++ ⟨b.toArray⟩ : ByteArray) = ⟨(a ++ b).toArray⟩ := by
  apply ByteArray.ext
  simp

/-! ### The numbers of an event -/
abbrev evV (e : Ev) : Value := .agg #[.int .u8 e.k, .int .u8 e.t, .int .u8 e.a, .int .i32 e.v, .int .i32 e.s]

theorem bcells {B : Nat} {W w1 : World} (hb : Below B W w1) : ∀ b o, b < B → w1.cell? ⟨b, o, none⟩ = W.cell? ⟨b, o, none⟩ := fun b o h => hb.cell (p := ⟨b, o, none⟩) h
theorem bfroz {B : Nat} {W w1 : World} (hb : Below B W w1) : ∀ b o, b < B → w1.frozen? ⟨b, o, none⟩ = W.frozen? ⟨b, o, none⟩ := fun b o h => hb.frozen (p := ⟨b, o, none⟩) h

theorem numL_pos (n : Int) : 0 < (numL n).length := by simp [numL]

end Go.Proofs.Ytfdalbmopaemgab

namespace Go.Proofs.Ytfdalbmopaemgab
open Go.RowKit

/-! ### Events in memory -/
structure EvAt (w : World) (b o : Nat) (e : Ev) : Prop where
  c0 : w.cell? ⟨b, o, none⟩ = some (.int .u8 e.k)
  c1 : w.cell? ⟨b, o + 1, none⟩ = some (.int .u8 e.t)
  c2 : w.cell? ⟨b, o + 2, none⟩ = some (.int .u8 e.a)
  c3 : w.cell? ⟨b, o + 3, none⟩ = some (.int .i32 e.v)
  c4 : w.cell? ⟨b, o + 4, none⟩ = some (.int .i32 e.s)

def EvsAt (w : World) (b off : Nat) (es : List Ev) : Prop := ∀ (i : Nat) (h : i < es.length), EvAt w b (off + i * 5) es[i]

/-- The slice value v holds the events es. -/
def SlEv (w : World) (v : Value) (es : List Ev) : Prop :=
  (es = [] ∧ ∃ a c, v = .slice a 0 c) ∨ (∃ b off cap, v = .slice (some ⟨b, off, none⟩) es.length cap ∧ b < w.heap.size ∧ EvsAt w b off es)

theorem EvAt.below {w w' : World} {B b o : Nat} {e : Ev} (h : EvAt w b o e) (hB : b < B) (hb : Below B w w') : EvAt w' b o e :=
  ⟨by rw [bcells hb _ _ hB]; exact h.c0, by rw [bcells hb _ _ hB]; exact h.c1, by rw [bcells hb _ _ hB]; exact h.c2, by rw [bcells hb _ _ hB]; exact h.c3, by rw [bcells hb _ _ hB]; exact h.c4⟩

theorem EvsAt.below {w w' : World} {B b o : Nat} {es : List Ev} (h : EvsAt w b o es) (hB : b < B) (hb : Below B w w') : EvsAt w' b o es := fun i hi => (h i hi).below hB hb

theorem SlEv.below {w w' : World} {v : Value} {es : List Ev} (h : SlEv w v es) (hb : Below w.heap.size w w') : SlEv w' v es := by
  rcases h with ⟨h1, h2⟩ | ⟨b, off, cap, h1, h2, h3⟩
  · exact Or.inl ⟨h1, h2⟩
  · exact Or.inr ⟨b, off, cap, h1, Nat.lt_of_lt_of_le h2 hb.size, h3.below h2 hb⟩

/-! ### Print -/
def allKinds (es : List Ev) : Bool := es.all fun e => isKind e.k
def printT (es : List Ev) : List UInt8 := if 60 < es.length then [] else if allKinds es then printL es else []
def printE (es : List Ev) : Int := if 60 < es.length then 1 else if allKinds es then 0 else 3

theorem allKinds_take (es : List Ev) (k : Nat) (h : k < es.length) (ha : allKinds (es.take k) = true) (hk : isKind es[k].k = true) : allKinds (es.take (k + 1)) = true := by
  unfold allKinds at ha ⊢
  rw [List.take_succ_eq_append_getElem h, List.all_append, ha]
  simp [hk]

theorem allKinds_no (es : List Ev) (k : Nat) (h : k < es.length) (hk : isKind es[k].k = false) : allKinds es = false := by
  unfold allKinds
  rw [List.all_eq_false]
  exact ⟨es[k], List.getElem_mem _, by simp [hk]⟩

theorem letterL_no (k : Int) (h : isKind k = false) : letterL k = [] := by
  unfold isKind at h
  simp at h
  unfold letterL
  rw [if_neg (by omega), if_neg (by omega), if_neg (by omega), if_neg (by omega), if_neg (by omega), if_neg (by omega)]

theorem tup_str_int {a b : List UInt8} {n m : Int} (h : a = b) (h' : n = m) : Ending.returned (.tuple #[.string ⟨a.toArray⟩, .int .i64 n]) = .returned (.tuple #[.string ⟨b.toArray⟩, .int .i64 m]) := by rw [h, h']

theorem numbersL_len (e : Ev) (he : e.Ok) : (numbersL e).length ≤ 33 := by
  have := lineL_len e he
  unfold lineL at this
  simp only [List.length_append] at this
  omega

theorem text_step (es : List Ev) (k : Nat) (h : k < es.length) (c : UInt8) (ev : Ev) (he : es[k] = ev) (hc : letterL ev.k = [c]) :
    (⟨(printL (es.take k)).toArray⟩ ++ (⟨#[c]⟩ ++ ⟨(numbersL ev).toArray⟩ ++ ⟨#[10]⟩) : ByteArray) = ⟨(printL (es.take (k + 1))).toArray⟩ := by
  rw [List.take_succ_eq_append_getElem h, printL_snoc, he, lineL, hc]
  show (⟨(printL (es.take k)).toArray⟩ ++ (⟨[c].toArray⟩ ++ ⟨(numbersL ev).toArray⟩ ++ ⟨[10].toArray⟩) : ByteArray) = _
  rw [app_str, app_str, app_str]

end Go.Proofs.Ytfdalbmopaemgab

namespace Go.Proofs.Ytfdalbmopaemgab
open Go.RowKit

/-! ### The reader -/
structure Rd (w : World) (b : Nat) (s : ByteArray) (p : Nat) (bad : Bool) : Prop where
  c0 : w.cell? ⟨b, 0, none⟩ = some (.string s)
  c1 : w.cell? ⟨b, 1, none⟩ = some (.int .i64 p)
  c2 : w.cell? ⟨b, 2, none⟩ = some (.bool bad)
  f1 : w.frozen? ⟨b, 1, none⟩ = false
  f2 : w.frozen? ⟨b, 2, none⟩ = false

def hit (l : List UInt8) (x : Int) : Bool := match l with
  | [] => false
  | c :: _ => (c.toNat : Int) == x

theorem hit_end (s : ByteArray) (p : Nat) (x : Int) (h : s.size ≤ p) : hit (s.data.toList.drop p) x = false := by
  rw [List.drop_eq_nil_of_le (by simpa using h)]
  rfl
theorem hit_in (s : ByteArray) (p : Nat) (x : Int) (h : p < s.size) : hit (s.data.toList.drop p) x = ((s[p].toNat : Int) == x) := by
  rw [List.drop_eq_getElem_cons (by simpa using h)]
  rfl

theorem Rd.drewN {w : World} {b : Nat} {s : ByteArray} {p : Nat} {bad : Bool} (h : Rd w b s p bad) (n : Nat) : Rd (w.drewN n) b s p bad := ⟨h.c0, h.c1, h.c2, h.f1, h.f2⟩

theorem Rd.setAt {w : World} {b : Nat} {s : ByteArray} {p : Nat} {bad : Bool} (h : Rd w b s p bad) (q : Nat) : Rd (w.setCell ⟨b, 1, none⟩ (.int .i64 q)) b s q bad :=
  ⟨by rw [World.cell?_setCell_other _ _ _ _ (by simp)]; exact h.c0, World.cell?_setCell_same _ _ _ h.c1, by rw [World.cell?_setCell_other _ _ _ _ (by simp)]; exact h.c2, by rw [World.frozen?_setCell]; exact h.f1, by rw [World.frozen?_setCell]; exact h.f2⟩

theorem Rd.setBad {w : World} {b : Nat} {s : ByteArray} {p : Nat} {bad : Bool} (h : Rd w b s p bad) : Rd (w.setCell ⟨b, 2, none⟩ (.bool true)) b s p true :=
  ⟨by rw [World.cell?_setCell_other _ _ _ _ (by simp)]; exact h.c0, by rw [World.cell?_setCell_other _ _ _ _ (by simp)]; exact h.c1, World.cell?_setCell_same _ _ _ h.c2, by rw [World.frozen?_setCell]; exact h.f1, by rw [World.frozen?_setCell]; exact h.f2⟩

theorem below_drewN {B : Nat} {a w : World} (h : Below B a w) (n : Nat) : Below B a (w.drewN n) := ⟨h.os, h.tape, h.output, h.size, h.block⟩

/-! ### digits -/
def atOf (b : Nat) (w : World) : Nat := match w.cell? ⟨b, 1, none⟩ with
  | some v => (intOf v).toNat
  | none => 0
theorem Rd.atOf {w : World} {b : Nat} {s : ByteArray} {p : Nat} {bad : Bool} (h : Rd w b s p bad) : atOf b w = p := by
  unfold Ytfdalbmopaemgab.atOf
  rw [h.c1]
  simp [intOf]

def sub (s : ByteArray) (p q : Nat) : List UInt8 := (s.data.toList.drop p).take (q - p)

theorem sub_length (s : ByteArray) (p q : Nat) (h2 : q ≤ s.size) : (sub s p q).length = q - p := by
  have : s.data.toList.length = s.size := by simp
  unfold sub
  rw [List.length_take, List.length_drop]
  omega

theorem sub_snoc (s : ByteArray) (p q : Nat) (h1 : p ≤ q) (h2 : q < s.size) : sub s p (q + 1) = sub s p q ++ [s[q]] := by
  unfold sub
  rw [show q + 1 - p = (q - p) + 1 by omega, List.take_succ_eq_append_getElem (by simp; omega)]
  congr 2
  rw [List.getElem_drop]
  simp only [show p + (q - p) = q by omega]
  rfl

def okD (l : List UInt8) : Bool := decide (1 ≤ digN 10 l) && (decide (digN 10 l = 1) || decide (l.head? ≠ some 48))

theorem digN_sub (s : ByteArray) (p q : Nat) (h1 : p ≤ q) (h2 : q ≤ p + 10) (h3 : q ≤ s.size) (hd : ∀ c ∈ sub s p q, isDig c = true) (he : q = p + 10 ∨ q = s.size ∨ ∃ h : q < s.size, isDig s[q] = false) : digN 10 (s.data.toList.drop p) = q - p := by
  have hsz : s.data.toList.length = s.size := by simp
  refine digN_eq 10 (q - p) _ (by omega) (by rw [List.length_drop]; omega) (fun i hi hij => ?_) ?_
  · apply hd
    unfold sub
    exact List.mem_take_iff_getElem.2 ⟨i, by rw [List.length_drop] at hi ⊢; omega, rfl⟩
  · rcases he with he | he | ⟨h, he⟩
    · exact Or.inl (by omega)
    · exact Or.inr (Or.inl (by rw [List.length_drop]; omega))
    · refine Or.inr (Or.inr ⟨by rw [List.length_drop]; omega, ?_⟩)
      rw [List.getElem_drop]
      simp only [show p + (q - p) = q by omega]
      exact he

end Go.Proofs.Ytfdalbmopaemgab

namespace Go.Proofs.Ytfdalbmopaemgab
open Go.RowKit

theorem tup_int_bool {n m : Int} {a b : Bool} (h : n = m) (h' : a = b) : Ending.returned (.tuple #[.int .i64 n, .bool a]) = .returned (.tuple #[.int .i64 m, .bool b]) := by rw [h, h']

theorem okD_two (s : ByteArray) (p q : Nat) (hp : p < s.size) (h : p + 2 ≤ q) (hc : digN 10 (s.data.toList.drop p) = q - p) : ((s[p].toNat : Int) != 48) = okD (s.data.toList.drop p) := by
  unfold okD
  rw [hc, decide_eq_true (by omega : 1 ≤ q - p), decide_eq_false (by omega : ¬ q - p = 1), Bool.true_and, Bool.false_or, List.drop_eq_getElem_cons (by simpa using hp)]
  have hp' : s.data.toList[p]'(by simpa using hp) = s[p] := rfl
  simp only [List.head?_cons, ne_eq, Option.some.injEq, hp']
  by_cases e : s[p] = 48
  · rw [e]
    rfl
  · have : (s[p].toNat : Int) ≠ 48 := fun h => e (UInt8.toNat_inj.1 (Int.ofNat_inj.1 h))
    simp [e, this]

theorem meas_lt {w1 w : World} {b : Nat} {s : ByteArray} {p q : Nat} {bad : Bool} (h : Rd w1 b s (q + 1) bad) (hat : atOf b w = q) (hq : q < p + 10) : p + 10 - atOf b w1 < p + 10 - atOf b w := by
  rw [h.atOf, hat]
  omega

end Go.Proofs.Ytfdalbmopaemgab

namespace Go.Proofs.Ytfdalbmopaemgab
open Go.RowKit

/-! ### A number read -/
theorem hit_true (s : ByteArray) (p : Nat) (x : Int) (h : hit (s.data.toList.drop p) x = true) : p < s.size := by
  by_cases hp : p < s.size
  · exact hp
  · rw [hit_end s p x (by omega)] at h
    cases h

def NumSpec (low high : Int) (l : List UInt8) (p q : Nat) (n : Int) (bad bad' : Bool) : Prop :=
  (bad' = false → bad = false ∧ numR low high l = some (n, q - p) ∧ p ≤ q) ∧ (bad' = true → bad = true ∨ numR low high l = none)

theorem hit_minus (l : List UInt8) : hit l 45 = isMinus l := by
  cases l with
  | nil => rfl
  | cons c l =>
    simp only [hit, isMinus]
    by_cases e : c = 45
    · subst e; rfl
    · have : (c.toNat : Int) ≠ 45 := fun h => e (UInt8.toNat_inj.1 (Int.ofNat_inj.1 h))
      rw [beq_eq_false_iff_ne.2 this, beq_eq_false_iff_ne.2 e]

/-- What a number comes to, out of what the three steps gave. -/
theorem numR_steps {s : ByteArray} {p q1 q2 q3 m : Nat} {sp mi ok : Bool} {low high : Int} 
    (h1 : hit (s.data.toList.drop p) 32 = sp ∧ q1 = if sp then p + 1 else p) (h2 : hit (s.data.toList.drop q1) 45 = mi ∧ q2 = if mi then q1 + 1 else q1)
    (h3 : m = valL ((s.data.toList.drop q2).take (digN 10 (s.data.toList.drop q2))) ∧ ok = okD (s.data.toList.drop q2) ∧ q3 = q2 + digN 10 (s.data.toList.drop q2)) :
    p ≤ q3 ∧ numR low high (s.data.toList.drop p) = if (sp && (ok && !(mi && decide ((if mi then -(m : Int) else (m : Int)) = 0)) && decide (low ≤ (if mi then -(m : Int) else (m : Int))) && decide ((if mi then -(m : Int) else (m : Int)) ≤ high))) = true then some (if mi then -(m : Int) else (m : Int), q3 - p) else none := by
  obtain ⟨h1a, h1b⟩ := h1
  obtain ⟨h2a, h2b⟩ := h2
  obtain ⟨h3a, h3b, h3c⟩ := h3
  have hsz : s.data.toList.length = s.size := by simp
  rw [hit_minus] at h2a
  refine ⟨by split at h1b <;> split at h2b <;> omega, ?_⟩
  cases hsp : sp with
  | false =>
    rw [hsp] at h1a
    simp only [Bool.false_and, Bool.false_eq_true, if_false]
    cases hd : s.data.toList.drop p with
    | nil => rfl
    | cons c l =>
      rw [hd] at h1a
      simp only [hit] at h1a
      simp only [numR]
      rw [if_neg]
      rintro ⟨rfl, _⟩
      exact absurd h1a (by decide)
  | true =>
    rw [hsp] at h1a h1b
    simp only [if_true] at h1b
    have hlt := hit_true s p 32 h1a
    have hd : s.data.toList.drop p = s[p] :: s.data.toList.drop q1 := by rw [h1b, List.drop_eq_getElem_cons (by simpa using hlt)]; rfl
    rw [hit_in s p 32 hlt] at h1a
    have hc : s[p] = 32 := UInt8.toNat_inj.1 (Int.ofNat_inj.1 (by simpa using h1a))
    have hbh : behind (s.data.toList.drop q1) = s.data.toList.drop q2 := by
      unfold behind
      rw [h2a]
      cases mi with
      | true => simp only [if_true] at h2b ⊢; rw [h2b, ← List.drop_drop]; simp
      | false => simp only [Bool.false_eq_true, if_false] at h2b ⊢; rw [h2b]
    have hw : worth (s.data.toList.drop q1) = if mi then -(m : Int) else (m : Int) := by
      unfold worth
      rw [h2a, hbh, ← h3a]
    have hg : goodNum low high (s.data.toList.drop q1) = (true && (ok && !(mi && decide ((if mi then -(m : Int) else (m : Int)) = 0)) && decide (low ≤ (if mi then -(m : Int) else (m : Int))) && decide ((if mi then -(m : Int) else (m : Int)) ≤ high))) := by
      unfold goodNum
      rw [hw, h2a, hbh, h3b]
      unfold okD
      rw [Bool.true_and]
    rw [hd, hc]
    simp only [numR, true_and]
    rw [hg, hw, h2a, hbh]
    congr 3
    cases mi <;> simp at h2b ⊢ <;> omega

theorem spec_bad {low high n n' : Int} {l : List UInt8} {p q : Nat} {bad c : Bool} (h : p ≤ q ∧ numR low high l = if c = true then some (n', q - p) else none) (hc : c = false) : Hid (NumSpec low high l p q n bad true) := by
  unfold Hid NumSpec
  refine ⟨fun h => (by cases h), fun _ => Or.inr ?_⟩
  rw [h.2, hc]
  rfl
theorem spec_good {low high n : Int} {l : List UInt8} {p q : Nat} {bad c : Bool} (h : p ≤ q ∧ numR low high l = if c = true then some (n, q - p) else none) (hc : c = true) : Hid (NumSpec low high l p q n bad bad) := by
  unfold Hid NumSpec
  refine ⟨fun hb => ⟨hb, ?_, h.1⟩, fun hb => Or.inl hb⟩
  rw [h.2, if_pos hc]

end Go.Proofs.Ytfdalbmopaemgab

namespace Go.Proofs.Ytfdalbmopaemgab
open Go.RowKit

/-! ### A line read -/
/-- The reader stands in its block, two behind where the line's reading began. -/
structure St (w0 W : World) (s : ByteArray) (p : Nat) (bad : Bool) : Prop where
  rd : Rd W (w0.heap.size + 1 + 1) s p bad
  le : p ≤ s.size
  below : Below w0.heap.size w0 W
  res : EvAt W w0.heap.size 0 ⟨0, 0, 0, 0, 0⟩

theorem EvAt.other {W : World} {b o : Nat} {e : Ev} (h : EvAt W b o e) (a : Addr) (v : Value) (ha : a.block ≠ b) : EvAt (W.setCell a v) b o e := by
  have hne : ∀ i, a ≠ ⟨b, i, none⟩ := fun i e => ha (by rw [e])
  exact ⟨by rw [World.cell?_setCell_other _ _ _ _ (hne _)]; exact h.c0, by rw [World.cell?_setCell_other _ _ _ _ (hne _)]; exact h.c1, by rw [World.cell?_setCell_other _ _ _ _ (hne _)]; exact h.c2,
    by rw [World.cell?_setCell_other _ _ _ _ (hne _)]; exact h.c3, by rw [World.cell?_setCell_other _ _ _ _ (hne _)]; exact h.c4⟩

theorem St.set {w0 W : World} {s : ByteArray} {p : Nat} {bad : Bool} (h : St w0 W s p bad) (j : Nat) (v : Value) : St w0 (W.setCell ⟨w0.heap.size + 1, j, none⟩ v) s p bad := by
  have hne : ∀ i, (⟨w0.heap.size + 1, j, none⟩ : Addr) ≠ ⟨w0.heap.size + 1 + 1, i, none⟩ := fun i e => by simp at e
  exact ⟨⟨by rw [World.cell?_setCell_other _ _ _ _ (hne _)]; exact h.rd.c0, by rw [World.cell?_setCell_other _ _ _ _ (hne _)]; exact h.rd.c1, by rw [World.cell?_setCell_other _ _ _ _ (hne _)]; exact h.rd.c2,
    by rw [World.frozen?_setCell]; exact h.rd.f1, by rw [World.frozen?_setCell]; exact h.rd.f2⟩, h.le, h.below.setCell (p := ⟨w0.heap.size + 1, j, none⟩) (Nat.le_succ _) _, h.res.other _ _ (by simp)⟩

def ev0 : Ev := ⟨0, 0, 0, 0, 0⟩
def lineEv (l : List UInt8) : Ev := (parseLineL l).getD ev0
def lineOk (l : List UInt8) : Bool := (parseLineL l).isSome

theorem St.start (w : World) (o2 : Obj) (T U : TypeId) (s : ByteArray) (h : 0 < s.size) : St w (((w.alloc (.cells #[.int .u8 0, .int .u8 0, .int .u8 0, .int .i32 0, .int .i32 0] U)).alloc o2).alloc (.cells #[.string s, .int .i64 1, .bool false] T)) s 1 false := by
  refine ⟨⟨?_, ?_, ?_, ?_, ?_⟩, h, (((Below.refl _ _).alloc (Nat.le_refl _) _).alloc (by simp) _).alloc (by simp; omega) _, ⟨?_, ?_, ?_, ?_, ?_⟩⟩
  all_goals simp [go_sem]

def OptSpec (b : Bool) (low high : Int) (l : List UInt8) (p q : Nat) (n : Int) (bad bad' : Bool) : Prop :=
  (bad' = false → bad = false ∧ optR b low high l = some (n, q - p) ∧ p ≤ q) ∧ (bad' = true → bad = true ∨ optR b low high l = none)

theorem OptSpec.yes {b : Bool} {low high : Int} {l : List UInt8} {p q : Nat} {n : Int} {bad bad' : Bool} (hb : b = true) (h : NumSpec low high l p q n bad bad') : OptSpec b low high l p q n bad bad' := by
  unfold OptSpec optR
  rw [hb]
  exact h
theorem OptSpec.no {b : Bool} {low high : Int} {l : List UInt8} {p : Nat} {bad : Bool} (hb : b = false) : OptSpec b low high l p p 0 bad bad := by
  unfold OptSpec optR
  rw [hb]
  exact ⟨fun h => ⟨h, by simp, Nat.le_refl _⟩, fun h => Or.inl h⟩

theorem line_steps {s : ByteArray} {c : UInt8} {k nt na nv ns : Int} {qt qa qv qs : Nat} {bt ba bv bs : Bool} (h0 : 0 < s.size) (hc : s[0] = c) (hk : kindOfL c = k) (hk0 : ¬ k = 0)
    (HT : NumSpec 0 255 (s.data.toList.drop 1) 1 qt nt false bt) (HA : OptSpec (nArg k) 0 255 (s.data.toList.drop qt) qt qa na bt ba)
    (HV : OptSpec (nVal k) (-2147483648) 2147483647 (s.data.toList.drop qa) qa qv nv ba bv) (HS : OptSpec (nSeen k) (-2147483648) 2147483647 (s.data.toList.drop qv) qv qs ns bv bs) :
    (bs = false → qs = s.size → parseLineL s.data.toList = some ⟨k, nt, na, nv, ns⟩) ∧ (bs = true ∨ qs ≠ s.size → parseLineL s.data.toList = none) := by
  have hsz : s.data.toList.length = s.size := by simp
  have hl : s.data.toList = c :: s.data.toList.drop 1 := by
    have := List.drop_eq_getElem_cons (l := s.data.toList) (i := 0) (by simpa using h0)
    rw [List.drop_zero] at this
    rw [← hc]
    exact this
  have hp : parseLineL s.data.toList = restR k (s.data.toList.drop 1) := by
    conv => lhs; rw [hl]
    simp only [parseLineL, hk]
    rw [if_neg hk0]
  have hlen : (s.data.toList.drop 1).length = s.size - 1 := by rw [List.length_drop, hsz]
  rw [hp]
  unfold restR
  cases hbt : bt with
  | true =>
    have e1 : numR 0 255 (s.data.toList.drop 1) = none := by
      rcases HT.2 hbt with h | h
      · cases h
      · exact h
    have hbs : bs = true := by
      cases h : bs with
      | true => rfl
      | false =>
        have h1 := (HS.1 h).1
        have h2 := (HV.1 h1).1
        have h3 := (HA.1 h2).1
        rw [hbt] at h3
        cases h3
    rw [e1, hbs]
    exact ⟨fun h => (by cases h), fun _ => rfl⟩
  | false =>
    obtain ⟨_, e1, l1⟩ := HT.1 hbt
    rw [e1]
    simp only [Option.bind_some, List.drop_drop]
    rw [show 1 + (qt - 1) = qt by omega]
    cases hba : ba with
    | true =>
      have e2 : optR (nArg k) 0 255 (s.data.toList.drop qt) = none := by
        rcases HA.2 hba with h | h
        · rw [hbt] at h; cases h
        · exact h
      have hbs : bs = true := by
        cases h : bs with
        | true => rfl
        | false =>
          have h1 := (HS.1 h).1
          have h2 := (HV.1 h1).1
          rw [hba] at h2
          cases h2
      rw [e2, hbs]
      exact ⟨fun h => (by cases h), fun _ => rfl⟩
    | false =>
      obtain ⟨_, e2, l2⟩ := HA.1 hba
      rw [e2]
      simp only [Option.bind_some]
      rw [show 1 + (qt - 1 + (qa - qt)) = qa by omega]
      cases hbv : bv with
      | true =>
        have e3 : optR (nVal k) (-2147483648) 2147483647 (s.data.toList.drop qa) = none := by
          rcases HV.2 hbv with h | h
          · rw [hba] at h; cases h
          · exact h
        have hbs : bs = true := by
          cases h : bs with
          | true => rfl
          | false =>
            have h1 := (HS.1 h).1
            rw [hbv] at h1
            cases h1
        rw [e3, hbs]
        exact ⟨fun h => (by cases h), fun _ => rfl⟩
      | false =>
        obtain ⟨_, e3, l3⟩ := HV.1 hbv
        rw [e3]
        simp only [Option.bind_some]
        rw [show 1 + (qt - 1 + (qa - qt) + (qv - qa)) = qv by omega]
        cases hbs : bs with
        | true =>
          have e4 : optR (nSeen k) (-2147483648) 2147483647 (s.data.toList.drop qv) = none := by
            rcases HS.2 hbs with h | h
            · rw [hbv] at h; cases h
            · exact h
          rw [e4]
          exact ⟨fun h => (by cases h), fun _ => rfl⟩
        | false =>
          obtain ⟨_, e4, l4⟩ := HS.1 hbs
          rw [e4]
          simp only [Option.bind_some, hlen]
          refine ⟨fun _ h => ?_, fun h => ?_⟩
          · rw [if_pos (by omega)]
          · rw [if_neg]
            rcases h with h | h
            · cases h
            · omega

theorem size_toList (s : ByteArray) : s.toList.length = s.size := by rw [ByteArray.toList_eq]; simp

theorem fin_below {w W : World} (h : Below w.heap.size w W) (j : Nat) (v a b c d e : Value) : Below w.heap.size w ((((((W.setCell ⟨w.heap.size + 1, j, none⟩ v).setCell ⟨w.heap.size, 0, none⟩ a).setCell ⟨w.heap.size, 1, none⟩ b).setCell ⟨w.heap.size, 2, none⟩ c).setCell ⟨w.heap.size, 3, none⟩ d).setCell ⟨w.heap.size, 4, none⟩ e) :=
  (((((h.setCell (p := ⟨w.heap.size + 1, j, none⟩) (Nat.le_succ _) v).setCell (p := ⟨w.heap.size, 0, none⟩) (Nat.le_refl _) a).setCell (p := ⟨w.heap.size, 1, none⟩) (Nat.le_refl _) b).setCell (p := ⟨w.heap.size, 2, none⟩) (Nat.le_refl _) c).setCell (p := ⟨w.heap.size, 3, none⟩) (Nat.le_refl _) d).setCell (p := ⟨w.heap.size, 4, none⟩) (Nat.le_refl _) e

theorem ne_of_bne {q n : Nat} (h : ((q : Int) != (n : Int)) = true) : q ≠ n := by
  simp at h
  omega
theorem eq_of_bne {q n : Nat} (h : ((q : Int) != (n : Int)) = false) : q = n := by
  simp at h
  omega

end Go.Proofs.Ytfdalbmopaemgab

namespace Go.Proofs.Ytfdalbmopaemgab
open Go.RowKit

/-! ### A list of events of the call's own -/
def evC (e : Ev) : List Value := [.int .u8 e.k, .int .u8 e.t, .int .u8 e.a, .int .i32 e.v, .int .i32 e.s]
def evCells : List Ev → List Value
  | [] => []
  | e :: l => evC e ++ evCells l

theorem evCells_append (l m : List Ev) : evCells (l ++ m) = evCells l ++ evCells m := by
  induction l with
  | nil => rfl
  | cons e l ih => simp [evCells, ih]

theorem evCells_length (l : List Ev) : (evCells l).length = l.length * 5 := by
  induction l with
  | nil => rfl
  | cons e l ih => simp [evCells, evC, ih]; omega

theorem evCells_at (l : List Ev) (i : Nat) (h : i < l.length) (f : Nat) (hf : f < 5) : (evCells l)[i * 5 + f]? = (evC l[i])[f]? := by
  induction l generalizing i with
  | nil => simp at h
  | cons e l ih =>
    cases i with
    | zero =>
      simp only [evCells, List.getElem_cons_zero, Nat.zero_mul, Nat.zero_add]
      rw [List.getElem?_append_left (by simp [evC]; omega)]
    | succ i =>
      simp only [evCells, List.getElem_cons_succ]
      rw [List.getElem?_append_right (by simp [evC]; omega)]
      rw [show (i + 1) * 5 + f - (evC e).length = i * 5 + f by simp [evC]; omega]
      exact ih i (by simpa using h)

/-- The value v is a list of the call's own (from block B on) that holds es. -/
def Own (w : World) (B : Nat) (v : Value) (es : List Ev) : Prop := w.ownsRow B 71 5 v es.length (evCells es)

theorem Own.nil (w : World) (B : Nat) : Own w B (.slice none 0 0) [] := World.ownsRow_nil w B _ 5

theorem Own.form {w : World} {B : Nat} {v : Value} {es : List Ev} (h : Own w B v es) : ∃ a cap, v = .slice a es.length cap := by
  rcases h.2 with ⟨rfl, h0⟩ | ⟨g, cap, cur, rfl, _⟩
  · exact ⟨none, 0, by rw [h0]⟩
  · exact ⟨_, cap, rfl⟩

theorem Own.below {w w' : World} {B : Nat} {v : Value} {es : List Ev} (h : Own w B v es) (hb : Below w.heap.size w w') : Own w' B v es := by
  refine ⟨h.1, ?_⟩
  rcases h.2 with hn | ⟨g, cap, cur, rfl, h1, h2, h3⟩
  · exact Or.inl hn
  · refine Or.inr ⟨g, cap, cur, rfl, h1, ?_, h3⟩
    rw [hb.block g (Array.getElem?_eq_some_iff.1 h2).1]
    exact h2

theorem Own.slEv {w : World} {B : Nat} {v : Value} {es : List Ev} (h : Own w B v es) : SlEv w v es := by
  by_cases hes : es = []
  · subst hes
    obtain ⟨a, cap, rfl⟩ := h.form
    exact Or.inl ⟨rfl, a, cap, rfl⟩
  · rcases h.2 with ⟨_, h0⟩ | ⟨g, cap, cur, rfl, h1, h2, h3⟩
    · exact absurd (List.length_eq_zero_iff.1 h0) hes
    · refine Or.inr ⟨g, 0, cap, rfl, (Array.getElem?_eq_some_iff.1 h2).1, fun i hi => ?_⟩
      have hc := World.ownsRow.cells h (g := g) rfl
      have hadd : ∀ j, (⟨g, 0, none⟩ : Addr).add j = ⟨g, j, none⟩ := fun j => by unfold Addr.add; split <;> simp_all
      have at_ : ∀ f, f < 5 → ∀ u, (evC es[i])[f]? = some u → w.cell? ⟨g, i * 5 + f, none⟩ = some u := fun f hf u hu => by
        have := hc (i * 5 + f) u (by rw [evCells_at es i hi f hf]; exact hu)
        rw [hadd] at this
        exact this
      simp only [Nat.zero_add]
      exact ⟨at_ 0 (by omega) _ rfl, at_ 1 (by omega) _ rfl, at_ 2 (by omega) _ rfl, at_ 3 (by omega) _ rfl, at_ 4 (by omega) _ rfl⟩

/-! ### lineEnd -/
theorem upTo10_len : ∀ (l : List UInt8) (j : Nat), j ≤ l.length → (∀ i (h : i < l.length), i < j → l[i] ≠ 10) → (j = l.length ∨ ∃ h : j < l.length, l[j] = 10) → (upTo10 l).length = j
  | [], j, h1, _, _ => by simp at h1; subst h1; rfl
  | c :: l, 0, _, _, h3 => by
    rcases h3 with h3 | ⟨_, h3⟩
    · simp at h3
    · simp at h3
      subst h3
      simp [upTo10]
  | c :: l, j + 1, h1, h2, h3 => by
    have hc : c ≠ 10 := by have := h2 0 (by simp) (by omega); simpa using this
    unfold upTo10
    rw [List.takeWhile_cons_of_pos (by simpa using hc), List.length_cons]
    have := upTo10_len l j (by simpa using h1) (fun i hi hij => by have := h2 (i + 1) (by simpa using hi) (by omega); simpa using this) (by
      rcases h3 with h3 | ⟨h', h3⟩
      · exact Or.inl (by simp at h3; omega)
      · exact Or.inr ⟨by simpa using h', by simpa using h3⟩)
    unfold upTo10 at this
    omega

theorem lineEnd_at (s : ByteArray) (p q : Nat) (h1 : p ≤ q) (h2 : q ≤ s.size) (h3 : ∀ i (h : i < s.size), p ≤ i → i < q → s[i] ≠ 10) (h4 : q = s.size ∨ ∃ h : q < s.size, s[q] = 10) : p + (upTo10 (s.data.toList.drop p)).length = q := by
  have hsz : s.data.toList.length = s.size := by simp
  have := upTo10_len (s.data.toList.drop p) (q - p) (by rw [List.length_drop]; omega) (fun i hi hij => by
    rw [List.getElem_drop]
    rw [List.length_drop] at hi
    exact h3 (p + i) (by omega) (by omega) (by omega)) (by
    rcases h4 with h4 | ⟨h, h4⟩
    · exact Or.inl (by rw [List.length_drop]; omega)
    · refine Or.inr ⟨by rw [List.length_drop]; omega, ?_⟩
      rw [List.getElem_drop]
      simp only [show p + (q - p) = q by omega]
      exact h4)
  omega

theorem byte_bne (c : UInt8) : ((c.toNat : Int) != 10) = true ↔ c ≠ 10 := by
  rw [bne_iff_ne]
  refine ⟨fun h e => h (by rw [e]; rfl), fun h e => h (UInt8.toNat_inj.1 (Int.ofNat_inj.1 e))⟩

end Go.Proofs.Ytfdalbmopaemgab

namespace Go.Proofs.Ytfdalbmopaemgab
open Go.RowKit

theorem Try.infoEv : (Try.prog.info? 71).map (fun i => (i.zero, i.size, i.bytes)) = some (some (.agg #[.int .u8 0, .int .u8 0, .int .u8 0, .int .i32 0, .int .i32 0]), 5, 12) := by kernel_rfl

theorem hidIt {p : Prop} (h : p) : Hid p := h

theorem parseG_fuel : ∀ (f g : Nat) (l : List UInt8) (acc : List Ev), l.length < f → l.length < g → parseG f l acc = parseG g l acc
  | 0, _, _, _, h, _ => by omega
  | _ + 1, 0, _, _, _, h => by omega
  | f + 1, g + 1, l, acc, h1, h2 => by
    unfold parseG
    by_cases hl : l = []
    · rw [if_pos hl, if_pos hl]
    · have hpos : 0 < l.length := List.length_pos_iff.2 hl
      rw [if_neg hl, if_neg hl]
      split
      · rfl
      · split
        · rfl
        · exact parseG_fuel f g _ _ (by simp; omega) (by simp; omega)

theorem upTo10_take (l : List UInt8) : l.take (upTo10 l).length = upTo10 l := by
  unfold upTo10
  exact List.prefix_iff_eq_take.1 (List.takeWhile_prefix _) |>.symm

/-- One line's step. -/
theorem parse_step (s : ByteArray) (p q : Nat) (acc : List Ev) (hp : p < s.size) (hq : p + (upTo10 (s.data.toList.drop p)).length = q) :
    (s.size ≤ q ∨ 60 ≤ acc.length → parseG (s.size + 1) (s.data.toList.drop p) acc = ([], 2, (acc.length : Int))) ∧
    (q < s.size → acc.length < 60 → lineOk (s.extract p q).data.toList = false → parseG (s.size + 1) (s.data.toList.drop p) acc = ([], 2, (acc.length : Int))) ∧
    (q < s.size → acc.length < 60 → lineOk (s.extract p q).data.toList = true → parseG (s.size + 1) (s.data.toList.drop p) acc = parseG (s.size + 1) (s.data.toList.drop (q + 1)) (acc ++ [lineEv (s.extract p q).data.toList])) := by
  have hsz : s.data.toList.length = s.size := by simp
  have hne : s.data.toList.drop p ≠ [] := by
    intro e
    have := congrArg List.length e
    rw [List.length_drop] at this
    simp at this
    omega
  have hex : (s.extract p q).data.toList = upTo10 (s.data.toList.drop p) := by
    rw [Lib.extract_data, show q - p = (upTo10 (s.data.toList.drop p)).length by omega, upTo10_take]
  have hlen : (s.data.toList.drop p).length = s.size - p := by rw [List.length_drop, hsz]
  rw [hex]
  unfold lineOk lineEv
  refine ⟨fun h => ?_, fun h1 h2 h3 => ?_, fun h1 h2 h3 => ?_⟩
  · have hle := upTo10_le (s.data.toList.drop p)
    rw [parseG, if_neg hne, if_pos (by omega)]
  · rw [parseG, if_neg hne, if_neg (by omega)]
    cases hp : parseLineL (upTo10 (s.data.toList.drop p)) with
    | none => rfl
    | some e => rw [hp] at h3; cases h3
  · rw [parseG, if_neg hne, if_neg (by omega)]
    cases hp : parseLineL (upTo10 (s.data.toList.drop p)) with
    | none => rw [hp] at h3; cases h3
    | some e =>
      simp only [Option.getD_some]
      rw [List.drop_drop, show p + ((upTo10 (s.data.toList.drop p)).length + 1) = q + 1 by omega]
      exact parseG_fuel _ _ _ _ (by rw [List.length_drop]; omega) (by rw [List.length_drop]; omega)

theorem extract_size (s : ByteArray) (p q : Nat) : (s.extract p q).size ≤ s.size := by
  have h := congrArg List.length (Lib.extract_data s p q)
  rw [List.length_take, List.length_drop, Array.length_toList, Array.length_toList] at h
  have h1 : (s.extract p q).data.size = (s.extract p q).size := rfl
  have h2 : s.data.size = s.size := rfl
  omega

theorem evC_new (w1 : World) (o : Obj) (T : TypeId) (ev : Ev) : ∀ j u, (evC ev)[j]? = some u → ((w1.alloc o).alloc (.cells #[.int .u8 ev.k, .int .u8 ev.t, .int .u8 ev.a, .int .i32 ev.v, .int .i32 ev.s] T)).cell? ((⟨w1.heap.size + 1, 0, none⟩ : Addr).add j) = some u := by
  intro j u hj
  have hlt : j < 5 := by
    have := (List.getElem?_eq_some_iff.1 hj).1
    simpa [evC] using this
  have hadd : (⟨w1.heap.size + 1, 0, none⟩ : Addr).add j = ⟨w1.heap.size + 1, j, none⟩ := by unfold Addr.add; split <;> simp_all
  rw [hadd]
  have hc : j = 0 ∨ j = 1 ∨ j = 2 ∨ j = 3 ∨ j = 4 := by omega
  rcases hc with rfl | rfl | rfl | rfl | rfl <;> simp [evC] at hj <;> subst hj <;> simp [go_sem]

theorem evC_one (ev : Ev) : ∀ u ∈ evC ev, u.oneCell' = true := by
  intro u hu
  simp [evC] at hu
  rcases hu with rfl | rfl | rfl | rfl | rfl <;> rfl

theorem tup3 {v : Value} {a b c d : Int} (h : a = b) (h' : c = d) : Ending.returned (.tuple #[v, .int .i64 a, .int .i64 c]) = .returned (.tuple #[v, .int .i64 b, .int .i64 d]) := by rw [h, h']

def ParsePost (w : World) (l : List UInt8) (r : Ending) (w' : World) : Prop :=
  ∃ v, r = .returned (.tuple #[v, .int .i64 (parseL l).2.1, .int .i64 (parseL l).2.2]) ∧ Own w' w.heap.size v (parseL l).1 ∧ Below w.heap.size w w'

end Go.Proofs.Ytfdalbmopaemgab
