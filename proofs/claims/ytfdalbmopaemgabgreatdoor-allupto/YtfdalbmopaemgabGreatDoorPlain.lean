import Derived.Lib.ItoaMem
namespace Go.Proofs.YtfdalbmopaemgabGreatDoor
open Go.Lib (decDigits itoa)

/-- An event: its five numbers. -/
structure Ev where
  k : Int
  t : Int
  a : Int
  v : Int
  s : Int

/-- Its numbers fit their types. -/
structure Ev.Ok (e : Ev) : Prop where
  k0 : 0 ≤ e.k
  k1 : e.k ≤ 255
  t0 : 0 ≤ e.t
  t1 : e.t ≤ 255
  a0 : 0 ≤ e.a
  a1 : e.a ≤ 255
  v0 : -2147483648 ≤ e.v
  v1 : e.v ≤ 2147483647
  s0 : -2147483648 ≤ e.s
  s1 : e.s ≤ 2147483647

def onObj (k : Int) : Bool := k == 2 || k == 3 || k == 4
def nArg (k : Int) : Bool := k == 1 || onObj k
def nVal (k : Int) : Bool := k == 3 || k == 4
def nSeen (k : Int) : Bool := k == 2 || k == 4

/-- Is it one of the six kinds? -/
def isKind (k : Int) : Bool := decide (1 ≤ k) && decide (k ≤ 6)

def letterL (k : Int) : List UInt8 := if k = 1 then [66] else if k = 2 then [82] else if k = 3 then [87] else if k = 4 then [65] else if k = 5 then [67] else if k = 6 then [88] else []

def bare (e : Ev) : Ev := ⟨e.k, e.t, if nArg e.k then e.a else 0, if nVal e.k then e.v else 0, if nSeen e.k then e.s else 0⟩

def numL (n : Int) : List UInt8 := 32 :: itoa n
def optL (b : Bool) (n : Int) : List UInt8 := if b then numL n else []
def numbersL (e : Ev) : List UInt8 := numL e.t ++ (optL (nArg e.k) e.a ++ (optL (nVal e.k) e.v ++ optL (nSeen e.k) e.s))
def lineL (e : Ev) : List UInt8 := letterL e.k ++ numbersL e
def printL : List Ev → List UInt8
  | [] => []
  | e :: l => lineL e ++ 10 :: printL l

theorem printL_snoc (l : List Ev) (e : Ev) : printL (l ++ [e]) = printL l ++ (lineL e ++ [10]) := by
  induction l with
  | nil => simp [printL]
  | cons x l ih => simp [printL, ih]

theorem printL_append (l m : List Ev) : printL (l ++ m) = printL l ++ printL m := by
  induction l with
  | nil => simp [printL]
  | cons x l ih => simp [printL, ih]

/-! ### Numbers as text -/
def isDig (c : UInt8) : Bool := decide (48 ≤ c.toNat) && decide (c.toNat ≤ 57)

def valL (l : List UInt8) : Nat := l.foldl (fun n c => n * 10 + (c.toNat - 48)) 0

theorem valL_snoc (l : List UInt8) (c : UInt8) : valL (l ++ [c]) = valL l * 10 + (c.toNat - 48) := by simp [valL]

theorem dig_ofNat (d : Nat) (h : d < 10) : (UInt8.ofNat (48 + d)).toNat = 48 + d := by
  rw [UInt8.toNat_ofNat']
  omega

theorem isDig_ofNat (d : Nat) (h : d < 10) : isDig (UInt8.ofNat (48 + d)) = true := by
  unfold isDig
  rw [dig_ofNat d h]
  simp
  omega

theorem ofNat_dig (c : UInt8) (h : isDig c = true) : UInt8.ofNat (48 + (c.toNat - 48)) = c := by
  unfold isDig at h
  simp at h
  rw [show 48 + (c.toNat - 48) = c.toNat by omega]
  simp

theorem dec_small {u : Nat} (h : u < 10) : decDigits u = [UInt8.ofNat (48 + u)] := by rw [decDigits, dif_pos h]
theorem dec_big {u : Nat} (h : ¬ u < 10) : decDigits u = decDigits (u / 10) ++ [UInt8.ofNat (48 + u % 10)] := by rw [decDigits, dif_neg h]

theorem dec_digits (u : Nat) : ∀ c ∈ decDigits u, isDig c = true := by
  induction u using Nat.strongRecOn with
  | _ u ih =>
    intro c hc
    by_cases h : u < 10
    · rw [dec_small h, List.mem_singleton] at hc
      subst hc
      exact isDig_ofNat u h
    · rw [dec_big h, List.mem_append, List.mem_singleton] at hc
      rcases hc with hc | hc
      · exact ih (u / 10) (by omega) c hc
      · subst hc
        exact isDig_ofNat _ (by omega)

theorem dec_val (u : Nat) : valL (decDigits u) = u := by
  induction u using Nat.strongRecOn with
  | _ u ih =>
    by_cases h : u < 10
    · rw [dec_small h]
      simp [valL]
      omega
    · rw [dec_big h, valL_snoc, ih (u / 10) (by omega), dig_ofNat _ (by omega)]
      omega

theorem dec_ne (u : Nat) : decDigits u ≠ [] := by
  by_cases h : u < 10
  · rw [dec_small h]; simp
  · rw [dec_big h]; simp

theorem dec_head (u : Nat) (h : 1 ≤ u) : (decDigits u).head? ≠ some 48 := by
  induction u using Nat.strongRecOn with
  | _ u ih =>
    by_cases h' : u < 10
    · rw [dec_small h']
      simp only [List.head?_cons, ne_eq, Option.some.injEq]
      intro e
      have := congrArg UInt8.toNat e
      rw [dig_ofNat u h'] at this
      have h48 : (48 : UInt8).toNat = 48 := rfl
      omega
    · rw [dec_big h']
      have h2 := ih (u / 10) (by omega) (by omega)
      have h3 := dec_ne (u / 10)
      cases hd : decDigits (u / 10) with
      | nil => exact absurd hd h3
      | cons x y => rw [hd] at h2; simpa using h2

theorem dec_len1 (u : Nat) : 1 ≤ (decDigits u).length := by
  have := dec_ne u
  cases h : decDigits u with
  | nil => exact absurd h this
  | cons _ _ => simp

theorem dec_head_app (u : Nat) (r : List UInt8) (h : 1 ≤ u) : (decDigits u ++ r).head? ≠ some 48 := by
  have := dec_head u h
  cases h : decDigits u with
  | nil => exact absurd h (dec_ne u)
  | cons _ _ => rw [h] at this; simpa using this

theorem dec_length (k : Nat) : ∀ u, u < 10 ^ (k + 1) → (decDigits u).length ≤ k + 1 := by
  induction k with
  | zero => intro u h; rw [dec_small (by simpa using h)]; simp
  | succ k ih =>
    intro u h
    by_cases h' : u < 10
    · rw [dec_small h']; simp
    · rw [dec_big h']
      have := ih (u / 10) (by rw [Nat.pow_succ] at h; omega)
      simp
      omega

theorem dec_of_val (l : List UInt8) : l ≠ [] → (∀ c ∈ l, isDig c = true) → (l.length = 1 ∨ l.head? ≠ some 48) → decDigits (valL l) = l ∧ (l.head? ≠ some 48 → 1 ≤ valL l) := by
  obtain ⟨r, rfl⟩ : ∃ r : List UInt8, l = r.reverse := ⟨l.reverse, by simp⟩
  induction r with
  | nil => intro h; simp at h
  | cons c r ih =>
    intro _ hd hh
    simp only [List.reverse_cons] at hd hh ⊢
    have hc : isDig c = true := hd c (by simp)
    have hcb : c.toNat - 48 < 10 := by unfold isDig at hc; simp at hc; omega
    by_cases hr : r = []
    · subst hr
      simp only [List.reverse_nil, List.nil_append]
      have e : valL [c] = c.toNat - 48 := by simp [valL]
      rw [e]
      refine ⟨by rw [dec_small hcb, ofNat_dig c hc], fun h => ?_⟩
      simp at h
      have : c.toNat ≠ 48 := fun e => h (UInt8.toNat_inj.1 (by simpa using e))
      unfold isDig at hc
      simp at hc
      omega
    · have hrr : r.reverse ≠ [] := by simpa using hr
      obtain ⟨x, y, hxy⟩ : ∃ x y, r.reverse = x :: y := by
        cases hrv : r.reverse with
        | nil => exact absurd hrv hrr
        | cons x y => exact ⟨x, y, rfl⟩
      have hh' : r.reverse.head? ≠ some 48 := by
        rcases hh with hh | hh
        · simp at hh; exact absurd hh hr
        · rw [hxy] at hh ⊢; simpa using hh
      obtain ⟨i1, i2⟩ := ih hrr (fun d hd' => hd d (by simp at hd' ⊢; exact Or.inl hd')) (Or.inr hh')
      have hp := i2 hh'
      rw [valL_snoc]
      refine ⟨?_, fun _ => by omega⟩
      rw [dec_big (by omega), show (valL r.reverse * 10 + (c.toNat - 48)) / 10 = valL r.reverse by omega, show (valL r.reverse * 10 + (c.toNat - 48)) % 10 = c.toNat - 48 by omega, i1, ofNat_dig c hc]

theorem val_lt (l : List UInt8) (h : ∀ c ∈ l, isDig c = true) : valL l < 10 ^ l.length := by
  obtain ⟨r, rfl⟩ : ∃ r : List UInt8, l = r.reverse := ⟨l.reverse, by simp⟩
  induction r with
  | nil => simp [valL]
  | cons c r ih =>
    simp only [List.reverse_cons] at h ⊢
    have hc : isDig c = true := h c (by simp)
    unfold isDig at hc
    simp at hc
    have := ih (fun d hd => h d (by simp at hd ⊢; exact Or.inl hd))
    rw [valL_snoc]
    simp only [List.length_append, List.length_cons, List.length_nil, Nat.pow_succ]
    simp at this ⊢
    omega

theorem itoa_pos (u : Nat) : itoa (u : Int) = decDigits u := by unfold itoa; rw [if_neg (by omega)]; simp
theorem itoa_min (u : Nat) (h : 1 ≤ u) : itoa (-(u : Int)) = 45 :: decDigits u := by unfold itoa; rw [if_pos (by omega)]; simp

theorem itoa_length (k : Nat) (n : Int) (h0 : -(10 ^ (k + 1) : Nat) < n) (h1 : n < (10 ^ (k + 1) : Nat)) : (itoa n).length ≤ k + 2 := by
  by_cases hn : n < 0
  · obtain ⟨u, rfl⟩ : ∃ u : Nat, n = -(u : Int) := ⟨n.natAbs, by omega⟩
    rw [itoa_min u (by omega)]
    have := dec_length k u (by omega)
    simp
    omega
  · obtain ⟨u, rfl⟩ : ∃ u : Nat, n = u := ⟨n.toNat, by omega⟩
    rw [itoa_pos]
    have := dec_length k u (by omega)
    omega

/-! ### A number read -/

/-- How many digits stand at the head, so many at most. -/
def digN : Nat → List UInt8 → Nat
  | 0, _ => 0
  | _ + 1, [] => 0
  | f + 1, c :: l => if isDig c then digN f l + 1 else 0

theorem digN_le : ∀ (f : Nat) (l : List UInt8), digN f l ≤ f ∧ digN f l ≤ l.length
  | 0, _ => by simp [digN]
  | _ + 1, [] => by simp [digN]
  | f + 1, c :: l => by
    have := digN_le f l
    simp only [digN, List.length_cons]
    split <;> omega

theorem digN_all : ∀ (f : Nat) (l : List UInt8), ∀ c ∈ l.take (digN f l), isDig c = true
  | 0, _ => by simp [digN]
  | _ + 1, [] => by simp [digN]
  | f + 1, c :: l => by
    simp only [digN]
    split
    · rename_i h
      intro d hd
      simp at hd
      rcases hd with rfl | hd
      · exact h
      · exact digN_all f l d hd
    · simp

/-- Where a count stops: so many digits, and then none, or enough. -/
theorem digN_eq : ∀ (f j : Nat) (l : List UInt8), j ≤ f → j ≤ l.length → (∀ i (h : i < l.length), i < j → isDig l[i] = true) → (j = f ∨ j = l.length ∨ ∃ h : j < l.length, isDig l[j] = false) → digN f l = j
  | 0, j, l, h1, _, _, _ => by simp [digN]; omega
  | f + 1, j, [], _, h2, _, _ => by simp [digN]; simp at h2; omega
  | f + 1, 0, c :: l, _, _, _, h => by
    simp only [digN]
    rcases h with h | h | ⟨_, h⟩
    · omega
    · simp at h
    · simp at h; simp [h]
  | f + 1, j + 1, c :: l, h1, h2, h3, h => by
    have hc : isDig c = true := by have := h3 0 (by simp) (by omega); simpa using this
    simp only [digN, hc, if_true]
    have := digN_eq f j l (by omega) (by simpa using h2) (fun i hi hij => by have := h3 (i + 1) (by simpa using hi) (by omega); simpa using this) (by
      rcases h with h | h | ⟨h', h⟩
      · exact Or.inl (by omega)
      · exact Or.inr (Or.inl (by simp at h; omega))
      · exact Or.inr (Or.inr ⟨by simpa using h', by simpa using h⟩))
    omega

theorem digN_append (l r : List UInt8) (f : Nat) (hl : ∀ c ∈ l, isDig c = true) (hf : l.length ≤ f) (hr : ∀ c, r.head? = some c → isDig c = false) : digN f (l ++ r) = l.length := by
  refine digN_eq f l.length (l ++ r) hf (by simp) (fun i h hi => ?_) ?_
  · rw [List.getElem_append_left hi]
    exact hl _ (List.getElem_mem _)
  · cases r with
    | nil => exact Or.inr (Or.inl (by simp))
    | cons c r => exact Or.inr (Or.inr ⟨by simp, by simpa using hr c (by simp)⟩)

/-- A byte 45 at the head? -/
def isMinus : List UInt8 → Bool
  | c :: _ => c == 45
  | [] => false

def behind (l : List UInt8) : List UInt8 := if isMinus l then l.tail else l

/-- What the digits behind are worth, with their sign. -/
def worth (l : List UInt8) : Int := if isMinus l then -((valL ((behind l).take (digN 10 (behind l))) : Nat) : Int) else ((valL ((behind l).take (digN 10 (behind l))) : Nat) : Int)

/-- Is it a number as it is written, from low to high? -/
def goodNum (low high : Int) (l : List UInt8) : Bool :=
  decide (1 ≤ digN 10 (behind l)) && (decide (digN 10 (behind l) = 1) || decide ((behind l).head? ≠ some 48)) && !(isMinus l && decide (worth l = 0)) && decide (low ≤ worth l) && decide (worth l ≤ high)

/-- A byte 32 and a number: its worth, and how many bytes. -/
def numR (low high : Int) : List UInt8 → Option (Int × Nat)
  | [] => none
  | c :: l => if c = 32 ∧ goodNum low high l = true then some (worth l, 1 + (if isMinus l then 1 else 0) + digN 10 (behind l)) else none

theorem goodNum_itoa {low high : Int} {l : List UInt8} (h : goodNum low high l = true) : l.take ((if isMinus l then 1 else 0) + digN 10 (behind l)) = itoa (worth l) ∧ low ≤ worth l ∧ worth l ≤ high ∧ (if isMinus l then 1 else 0) + digN 10 (behind l) ≤ l.length := by
  unfold goodNum at h
  simp only [Bool.and_eq_true, Bool.or_eq_true, decide_eq_true_eq, Bool.not_eq_true', Bool.and_eq_false_iff, decide_eq_false_iff_not] at h
  obtain ⟨⟨⟨⟨h1, h2⟩, h3⟩, h4⟩, h5⟩ := h
  refine ⟨?_, h4, h5, ?_⟩
  · have hle := digN_le 10 (behind l)
    have hall := digN_all 10 (behind l)
    have hlen : ((behind l).take (digN 10 (behind l))).length = digN 10 (behind l) := by simp; omega
    have hne : (behind l).take (digN 10 (behind l)) ≠ [] := by intro e; rw [e] at hlen; simp at hlen; omega
    have hhd : ((behind l).take (digN 10 (behind l))).head? = (behind l).head? := by
      cases hb : behind l with
      | nil => simp
      | cons x y =>
        obtain ⟨m, hm⟩ : ∃ m, digN 10 (behind l) = m + 1 := ⟨digN 10 (behind l) - 1, by omega⟩
        rw [hb] at hm
        rw [hm]; simp
    have hdv := dec_of_val _ hne hall (by rw [hlen, hhd]; exact h2)
    by_cases hm : isMinus l = true
    · have hb : behind l = l.tail := by unfold behind; rw [if_pos hm]
      have hw : worth l = -((valL ((behind l).take (digN 10 (behind l))) : Nat) : Int) := by unfold worth; rw [if_pos hm]
      have hnz : worth l ≠ 0 := by rcases h3 with h3 | h3; · rw [hm] at h3; simp at h3
                                   · exact h3
      rw [if_pos hm, hw, itoa_min _ (by rw [hw] at hnz; omega), hdv.1]
      cases l with
      | nil => simp [isMinus] at hm
      | cons c l =>
        simp [isMinus] at hm
        subst hm
        rw [Nat.add_comm 1, List.take_succ_cons, hb, List.tail_cons]
    · have hb : behind l = l := by unfold behind; rw [if_neg hm]
      have hw : worth l = ((valL ((behind l).take (digN 10 (behind l))) : Nat) : Int) := by unfold worth; rw [if_neg hm]
      rw [if_neg hm, hw, itoa_pos, hdv.1, hb]
      simp
  · have hle := digN_le 10 (behind l)
    by_cases hm : isMinus l = true
    · have hb : behind l = l.tail := by unfold behind; rw [if_pos hm]
      rw [if_pos hm]
      rw [hb] at hle ⊢
      cases l with
      | nil => simp [isMinus] at hm
      | cons c l => simp at hle ⊢; omega
    · have hb : behind l = l := by unfold behind; rw [if_neg hm]
      rw [if_neg hm]
      rw [hb] at hle ⊢
      omega

theorem numR_some {low high : Int} {l : List UInt8} {n : Int} {c : Nat} (h : numR low high l = some (n, c)) : l.take c = numL n ∧ low ≤ n ∧ n ≤ high ∧ c ≤ l.length := by
  cases l with
  | nil => simp [numR] at h
  | cons x l =>
    simp only [numR] at h
    split at h
    · rename_i hg
      obtain ⟨rfl, hg⟩ := hg
      simp only [Option.some.injEq, Prod.mk.injEq] at h
      obtain ⟨rfl, rfl⟩ := h
      obtain ⟨g1, g2, g3, g4⟩ := goodNum_itoa hg
      refine ⟨?_, g2, g3, ?_⟩
      · rw [Nat.add_assoc, Nat.add_comm 1, List.take_succ_cons, g1]; rfl
      · simp; omega
    · simp at h

theorem not_minus_dec (u : Nat) (r : List UInt8) : isMinus (decDigits u ++ r) = false := by
  have hn := dec_ne u
  have hd := dec_digits u
  cases h : decDigits u with
  | nil => exact absurd h hn
  | cons c l =>
    rw [h] at hd
    have := hd c (by simp)
    unfold isDig at this
    simp at this
    simp only [List.cons_append, isMinus]
    simp
    intro e
    subst e
    simp at this

theorem numR_itoa (low high n : Int) (r : List UInt8) (h0 : low ≤ n) (h1 : n ≤ high) (hb : -10000000000 < n) (hb' : n < 10000000000) (hr : ∀ c, r.head? = some c → isDig c = false) : numR low high (numL n ++ r) = some (n, (numL n).length) := by
  unfold numL
  simp only [List.cons_append, numR, true_and]
  by_cases hn : n < 0
  · obtain ⟨u, rfl⟩ : ∃ u : Nat, n = -(u : Int) := ⟨n.natAbs, by omega⟩
    have hu : 1 ≤ u := by omega
    have hi := itoa_min u hu
    have hl := dec_length 9 u (by omega)
    have hm : isMinus (itoa (-(u : Int)) ++ r) = true := by rw [hi]; simp [isMinus]
    have hbh : behind (itoa (-(u : Int)) ++ r) = decDigits u ++ r := by unfold behind; rw [if_pos hm, hi]; rfl
    have hc : digN 10 (decDigits u ++ r) = (decDigits u).length := digN_append _ _ _ (dec_digits u) (by omega) hr
    have hw : worth (itoa (-(u : Int)) ++ r) = -(u : Int) := by unfold worth; rw [if_pos hm, hbh, hc]; simp [dec_val]
    have hlen := dec_len1 u
    have hhd := dec_head_app u r hu
    have hg : goodNum low high (itoa (-(u : Int)) ++ r) = true := by
      unfold goodNum
      rw [hw, hbh, hc, hm]
      simp only [decide_eq_true_eq, Bool.and_eq_true, Bool.or_eq_true, Bool.not_eq_true', Bool.and_eq_false_iff, decide_eq_false_iff_not]
      exact ⟨⟨⟨⟨hlen, Or.inr hhd⟩, Or.inr (by omega)⟩, h0⟩, h1⟩
    rw [if_pos hg, hw, hbh, hc, if_pos hm, hi]
    simp; omega
  · obtain ⟨u, rfl⟩ : ∃ u : Nat, n = u := ⟨n.toNat, by omega⟩
    have hi := itoa_pos u
    have hl := dec_length 9 u (by omega)
    have hm : isMinus (itoa (u : Int) ++ r) = false := by rw [hi]; exact not_minus_dec u r
    have hbh : behind (itoa (u : Int) ++ r) = decDigits u ++ r := by unfold behind; rw [hm, hi]; rfl
    have hc : digN 10 (decDigits u ++ r) = (decDigits u).length := digN_append _ _ _ (dec_digits u) (by omega) hr
    have hw : worth (itoa (u : Int) ++ r) = (u : Int) := by unfold worth; rw [hm, hbh, hc]; simp [dec_val]
    have hlen := dec_len1 u
    have hhd : (decDigits u).length = 1 ∨ (decDigits u ++ r).head? ≠ some 48 := by
      by_cases hu : 1 ≤ u
      · exact Or.inr (dec_head_app u r hu)
      · left
        rw [dec_small (by omega)]; rfl
    have hg : goodNum low high (itoa (u : Int) ++ r) = true := by
      unfold goodNum
      rw [hw, hbh, hc, hm]
      simp only [decide_eq_true_eq, Bool.and_eq_true, Bool.or_eq_true, Bool.not_eq_true', Bool.and_eq_false_iff, decide_eq_false_iff_not]
      exact ⟨⟨⟨⟨hlen, hhd⟩, Or.inl trivial⟩, h0⟩, h1⟩
    rw [if_pos hg, hw, hbh, hc, hm, hi]
    simp; omega

/-! ### A line read -/
def kindOfL (c : UInt8) : Int := if c = 66 then 1 else if c = 82 then 2 else if c = 87 then 3 else if c = 65 then 4 else if c = 67 then 5 else if c = 88 then 6 else 0

def optR (b : Bool) (low high : Int) (l : List UInt8) : Option (Int × Nat) := if b then numR low high l else some (0, 0)

def restR (k : Int) (l : List UInt8) : Option Ev :=
  (numR 0 255 l).bind fun t => (optR (nArg k) 0 255 (l.drop t.2)).bind fun a => (optR (nVal k) (-2147483648) 2147483647 (l.drop (t.2 + a.2))).bind fun v =>
    (optR (nSeen k) (-2147483648) 2147483647 (l.drop (t.2 + a.2 + v.2))).bind fun s => if t.2 + a.2 + v.2 + s.2 = l.length then some ⟨k, t.1, a.1, v.1, s.1⟩ else none

def parseLineL : List UInt8 → Option Ev
  | [] => none
  | c :: l => if kindOfL c = 0 then none else restR (kindOfL c) l

theorem optR_some {b : Bool} {low high : Int} {l : List UInt8} {n : Int} {c : Nat} (hl : low ≤ 0) (hh : 0 ≤ high) (h : optR b low high l = some (n, c)) : l.take c = optL b n ∧ low ≤ n ∧ n ≤ high ∧ c ≤ l.length ∧ (b = false → n = 0) := by
  unfold optR at h
  cases b with
  | true =>
    simp at h
    obtain ⟨h1, h2, h3, h4⟩ := numR_some h
    exact ⟨by simpa [optL] using h1, h2, h3, h4, by simp⟩
  | false =>
    simp at h
    obtain ⟨rfl, rfl⟩ := h
    exact ⟨by simp [optL], hl, hh, by simp, by simp⟩

theorem letterL_kindOf (c : UInt8) (h : kindOfL c ≠ 0) : letterL (kindOfL c) = [c] ∧ isKind (kindOfL c) = true := by
  unfold kindOfL at h ⊢
  repeat' split
  all_goals first | (subst_vars; exact ⟨rfl, rfl⟩) | simp_all

theorem kindOf_letterL (k : Int) (h : isKind k = true) : ∃ c, letterL k = [c] ∧ kindOfL c = k ∧ c ≠ 10 := by
  unfold isKind at h
  simp at h
  obtain ⟨h1, h2⟩ := h
  have : k = 1 ∨ k = 2 ∨ k = 3 ∨ k = 4 ∨ k = 5 ∨ k = 6 := by omega
  rcases this with rfl | rfl | rfl | rfl | rfl | rfl
  · exact ⟨66, rfl, rfl, by decide⟩
  · exact ⟨82, rfl, rfl, by decide⟩
  · exact ⟨87, rfl, rfl, by decide⟩
  · exact ⟨65, rfl, rfl, by decide⟩
  · exact ⟨67, rfl, rfl, by decide⟩
  · exact ⟨88, rfl, rfl, by decide⟩

theorem take_split (l a b : List UInt8) (m n : Nat) (h1 : l.take m = a) (h2 : (l.drop m).take n = b) : l.take (m + n) = a ++ b := by
  rw [List.take_add, h1, h2]

theorem restR_some {k : Int} {l : List UInt8} {e : Ev} (hk : isKind k = true) (h : restR k l = some e) : l = numbersL e ∧ e.k = k ∧ e.Ok ∧ bare e = e := by
  unfold restR at h
  simp only [Option.bind_eq_some_iff] at h
  obtain ⟨⟨t, c1⟩, ht, ⟨a, c2⟩, ha, ⟨v, c3⟩, hv, ⟨s, c4⟩, hs, h⟩ := h
  split at h
  · rename_i hl
    simp only [Option.some.injEq] at h
    subst h
    obtain ⟨t1, t2, t3, t4⟩ := numR_some ht
    obtain ⟨a1, a2, a3, a4, a5⟩ := optR_some (by decide) (by decide) ha
    obtain ⟨v1, v2, v3, v4, v5⟩ := optR_some (by decide) (by decide) hv
    obtain ⟨s1, s2, s3, s4, s5⟩ := optR_some (by decide) (by decide) hs
    simp only at a1 v1 s1 hl
    unfold isKind at hk
    simp at hk
    refine ⟨?_, rfl, ⟨by simp; omega, by simp; omega, t2, t3, a2, a3, v2, v3, s2, s3⟩, ?_⟩
    · unfold numbersL
      simp only
      have e1 := take_split l _ _ c1 c2 t1 a1
      have e2 := take_split l _ _ (c1 + c2) c3 e1 v1
      have e3 := take_split l _ _ (c1 + c2 + c3) c4 e2 s1
      rw [hl, List.take_length] at e3
      rw [e3]
      simp only [List.append_assoc]
    · unfold bare
      simp only
      cases h1 : nArg k <;> cases h2 : nVal k <;> cases h3 : nSeen k <;> simp_all
  · simp at h

theorem parseLineL_some {l : List UInt8} {e : Ev} (h : parseLineL l = some e) : l = lineL e ∧ e.Ok ∧ bare e = e ∧ isKind e.k = true := by
  cases l with
  | nil => simp [parseLineL] at h
  | cons c l =>
    simp only [parseLineL] at h
    split at h
    · simp at h
    · rename_i hk
      obtain ⟨g1, g2⟩ := letterL_kindOf c hk
      obtain ⟨r1, r2, r3, r4⟩ := restR_some g2 h
      refine ⟨?_, r3, r4, by rw [r2]; exact g2⟩
      unfold lineL
      rw [r2, g1, ← r1]
      rfl

theorem numL_head (n : Int) (r : List UInt8) (c : UInt8) (h : (numL n ++ r).head? = some c) : isDig c = false := by
  simp [numL] at h
  subst h
  decide

theorem optL_head (b : Bool) (n : Int) (r : List UInt8) (hr : ∀ c, r.head? = some c → isDig c = false) (c : UInt8) (h : (optL b n ++ r).head? = some c) : isDig c = false := by
  cases b with
  | true => exact numL_head n r c (by simpa [optL] using h)
  | false => exact hr c (by simpa [optL] using h)

theorem optR_optL (b : Bool) (low high n : Int) (r : List UInt8) (h0 : low ≤ n) (h1 : n ≤ high) (hb : -10000000000 < n) (hb' : n < 10000000000) (hr : ∀ c, r.head? = some c → isDig c = false) : optR b low high (optL b n ++ r) = some (if b then n else 0, (optL b n).length) := by
  cases b with
  | true => simpa [optR, optL] using numR_itoa low high n r h0 h1 hb hb' hr
  | false => simp [optR, optL]

theorem restR_numbers (e : Ev) (he : e.Ok) : restR e.k (numbersL e) = some (bare e) := by
  have hnil : ∀ c : UInt8, ([] : List UInt8).head? = some c → isDig c = false := by simp
  have hS : ∀ c, (optL (nSeen e.k) e.s).head? = some c → isDig c = false := by
    intro c h
    exact optL_head (nSeen e.k) e.s [] hnil c (by simpa using h)
  have hV := optL_head (nVal e.k) e.v _ hS
  have hA := optL_head (nArg e.k) e.a _ hV
  have := he.t0; have := he.t1; have := he.a0; have := he.a1; have := he.v0; have := he.v1; have := he.s0; have := he.s1
  have r1 := numR_itoa 0 255 e.t _ he.t0 he.t1 (by omega) (by omega) hA
  have r2 := optR_optL (nArg e.k) 0 255 e.a _ he.a0 he.a1 (by omega) (by omega) hV
  have r3 := optR_optL (nVal e.k) (-2147483648) 2147483647 e.v _ he.v0 he.v1 (by omega) (by omega) hS
  have r4 := optR_optL (nSeen e.k) (-2147483648) 2147483647 e.s [] he.s0 he.s1 (by omega) (by omega) hnil
  rw [List.append_nil] at r4
  unfold restR numbersL
  rw [r1]
  simp only [Option.bind_some]
  rw [List.drop_left, r2]
  simp only [Option.bind_some]
  rw [← List.drop_drop, List.drop_left, List.drop_left, r3]
  simp only [Option.bind_some]
  rw [← List.drop_drop, ← List.drop_drop, List.drop_left, List.drop_left, List.drop_left, r4]
  simp only [Option.bind_some, List.length_append]
  rw [if_pos (by omega)]
  rfl

theorem parseLineL_line (e : Ev) (he : e.Ok) (hk : isKind e.k = true) : parseLineL (lineL e) = some (bare e) := by
  obtain ⟨c, h1, h2, _⟩ := kindOf_letterL e.k hk
  unfold lineL
  rw [h1]
  simp only [List.cons_append, List.nil_append, parseLineL, h2]
  rw [if_neg (by unfold isKind at hk; simp at hk; omega)]
  exact restR_numbers e he

/-! ### No byte 10 in a line -/
theorem dig_ne10 (c : UInt8) (h : isDig c = true) : c ≠ 10 := by
  intro e
  subst e
  simp [isDig] at h

theorem numL_no10 (n : Int) : ∀ c ∈ numL n, c ≠ 10 := by
  intro c hc
  simp only [numL, List.mem_cons] at hc
  rcases hc with rfl | hc
  · decide
  · unfold itoa at hc
    split at hc
    · simp only [List.mem_cons] at hc
      rcases hc with rfl | hc
      · decide
      · exact dig_ne10 c (dec_digits _ c hc)
    · exact dig_ne10 c (dec_digits _ c hc)

theorem optL_no10 (b : Bool) (n : Int) : ∀ c ∈ optL b n, c ≠ 10 := by
  cases b with
  | true => simpa [optL] using numL_no10 n
  | false => simp [optL]

theorem lineL_no10 (e : Ev) (hk : isKind e.k = true) : ∀ c ∈ lineL e, c ≠ 10 := by
  obtain ⟨c0, h1, _, h3⟩ := kindOf_letterL e.k hk
  intro c hc
  unfold lineL numbersL at hc
  rw [h1] at hc
  simp only [List.mem_append, List.mem_cons, List.not_mem_nil, or_false] at hc
  rcases hc with rfl | hc | hc | hc | hc
  · exact h3
  · exact numL_no10 _ c hc
  · exact optL_no10 _ _ c hc
  · exact optL_no10 _ _ c hc
  · exact optL_no10 _ _ c hc

/-! ### How long -/
theorem numL_len8 (n : Int) (h0 : 0 ≤ n) (h1 : n ≤ 255) : (numL n).length ≤ 4 := by
  obtain ⟨u, rfl⟩ : ∃ u : Nat, n = u := ⟨n.toNat, by omega⟩
  unfold numL
  rw [itoa_pos]
  have := dec_length 2 u (by omega)
  simp; omega

theorem numL_len32 (n : Int) (h0 : -2147483648 ≤ n) (h1 : n ≤ 2147483647) : (numL n).length ≤ 12 := by
  unfold numL
  have := itoa_length 9 n (by omega) (by omega)
  simp; omega

theorem optL_len (b : Bool) (n : Int) : (optL b n).length ≤ (numL n).length := by
  cases b <;> simp [optL]

theorem letterL_len (k : Int) : (letterL k).length ≤ 1 := by
  unfold letterL
  repeat' split
  all_goals simp

theorem lineL_len (e : Ev) (he : e.Ok) : (lineL e).length ≤ 33 := by
  have h1 := letterL_len e.k
  have h2 := numL_len8 e.t he.t0 he.t1
  have h3 := numL_len8 e.a he.a0 he.a1
  have h4 := numL_len32 e.v he.v0 he.v1
  have h5 := numL_len32 e.s he.s0 he.s1
  have o1 := optL_len (nArg e.k) e.a
  have o2 := optL_len (nVal e.k) e.v
  have o3 := optL_len (nSeen e.k) e.s
  unfold lineL numbersL
  simp only [List.length_append]
  omega

theorem printL_len (l : List Ev) (hl : ∀ e ∈ l, e.Ok) : (printL l).length ≤ 34 * l.length := by
  induction l with
  | nil => simp [printL]
  | cons e l ih =>
    have := ih (fun x hx => hl x (by simp [hx]))
    have := lineL_len e (hl e (by simp))
    simp only [printL, List.length_append, List.length_cons]
    omega

/-! ### A text read -/
def upTo10 (l : List UInt8) : List UInt8 := l.takeWhile fun c => c != 10

theorem upTo10_le (l : List UInt8) : (upTo10 l).length ≤ l.length := by
  unfold upTo10
  exact (List.takeWhile_prefix _).length_le

theorem upTo10_append (a r : List UInt8) (h : ∀ c ∈ a, c ≠ 10) : upTo10 (a ++ 10 :: r) = a := by
  unfold upTo10
  induction a with
  | nil => simp
  | cons c a ih =>
    have hc := h c (by simp)
    simp only [List.cons_append]
    rw [List.takeWhile_cons_of_pos (by simpa using hc), ih (fun d hd => h d (by simp [hd]))]

theorem upTo10_split (l : List UInt8) (h : (upTo10 l).length ≠ l.length) : l = upTo10 l ++ 10 :: l.drop ((upTo10 l).length + 1) := by
  unfold upTo10 at h ⊢
  induction l with
  | nil => simp at h
  | cons c l ih =>
    by_cases hc : c = 10
    · subst hc
      simp
    · rw [List.takeWhile_cons_of_pos (by simpa using hc)] at h ⊢
      simp only [List.length_cons, List.cons_append, List.drop_succ_cons]
      rw [← ih (by simpa using h)]

/-- The events, the error, the place. -/
def parseG : Nat → List UInt8 → List Ev → List Ev × Int × Int
  | 0, _, acc => (acc, 0, 0)
  | f + 1, l, acc =>
    if l = [] then (acc, 0, 0)
    else if (upTo10 l).length = l.length ∨ 60 ≤ acc.length then ([], 2, (acc.length : Int))
    else match parseLineL (upTo10 l) with
      | none => ([], 2, (acc.length : Int))
      | some e => parseG f (l.drop ((upTo10 l).length + 1)) (acc ++ [e])

def parseL (l : List UInt8) : List Ev × Int × Int := if 2100 < l.length then ([], 1, 0) else parseG (l.length + 1) l []

/-- What has been read, is printed as it was. -/
def Read (l : List Ev) : Prop := ∀ e ∈ l, e.Ok ∧ isKind e.k = true ∧ bare e = e

theorem parseG_sound : ∀ (f : Nat) (l : List UInt8) (acc : List Ev), l.length < f → acc.length ≤ 60 → Read acc →
    ((parseG f l acc).2.1 = 0 → (parseG f l acc).2.2 = 0 ∧ printL (parseG f l acc).1 = printL acc ++ l ∧ Read (parseG f l acc).1 ∧ (parseG f l acc).1.length ≤ 60) ∧
    ((parseG f l acc).2.1 ≠ 0 → (parseG f l acc).1 = [] ∧ (parseG f l acc).2.1 = 2 ∧ 0 ≤ (parseG f l acc).2.2 ∧ (parseG f l acc).2.2 ≤ 60)
  | 0, l, acc, h, _, _ => by omega
  | f + 1, l, acc, h, ha, hr => by
    unfold parseG
    by_cases hl : l = []
    · subst hl
      simp [ha, hr]
    · rw [if_neg hl]
      have hpos : 0 < l.length := List.length_pos_iff.2 hl
      by_cases hx : (upTo10 l).length = l.length ∨ 60 ≤ acc.length
      · rw [if_pos hx]
        simp
        omega
      · rw [if_neg hx]
        have hx1 : (upTo10 l).length ≠ l.length := fun e => hx (Or.inl e)
        have hx2 : acc.length < 60 := by omega
        cases hp : parseLineL (upTo10 l) with
        | none => simp; omega
        | some e =>
          simp only
          obtain ⟨p1, p2, p3, p4⟩ := parseLineL_some hp
          have hs := upTo10_split l hx1
          have ih := parseG_sound f (l.drop ((upTo10 l).length + 1)) (acc ++ [e]) (by simp; omega) (by simp; omega) (by
            intro x hx
            simp at hx
            rcases hx with hx | rfl
            · exact hr x hx
            · exact ⟨p2, p4, p3⟩)
          refine ⟨fun h0 => ?_, ih.2⟩
          obtain ⟨i1, i2, i3, i4⟩ := ih.1 h0
          refine ⟨i1, ?_, i3, i4⟩
          rw [i2, printL_snoc, ← p1]
          conv => rhs; rw [hs]
          simp

theorem parseL_sound (l : List UInt8) :
    ((parseL l).2.1 = 0 → (parseL l).2.2 = 0 ∧ printL (parseL l).1 = l ∧ Read (parseL l).1 ∧ (parseL l).1.length ≤ 60) ∧
    ((parseL l).2.1 ≠ 0 → (parseL l).1 = [] ∧ 0 ≤ (parseL l).2.2 ∧ (parseL l).2.2 ≤ 60) := by
  unfold parseL
  split
  · simp
  · have := parseG_sound (l.length + 1) l [] (by omega) (by simp) (by intro x hx; simp at hx)
    refine ⟨fun h => ?_, fun h => ?_⟩
    · have := this.1 h
      simpa [printL] using this
    · have := this.2 h
      exact ⟨this.1, this.2.2⟩

theorem parseG_print : ∀ (h : List Ev) (f : Nat) (acc : List Ev), (∀ e ∈ h, e.Ok ∧ isKind e.k = true) → h.length < f → acc.length + h.length ≤ 60 → parseG f (printL h) acc = (acc ++ h.map bare, 0, 0)
  | [], f, acc, _, hf, _ => by
    obtain ⟨f, rfl⟩ : ∃ g, f = g + 1 := ⟨f - 1, by simp at hf; omega⟩
    simp [parseG, printL]
  | e :: h, f, acc, he, hf, hl => by
    obtain ⟨f, rfl⟩ : ∃ g, f = g + 1 := ⟨f - 1, by simp at hf; omega⟩
    obtain ⟨e1, e2⟩ := he e (by simp)
    have hu := upTo10_append (lineL e) (printL h) (lineL_no10 e e2)
    simp only [List.length_cons] at hl hf
    unfold parseG
    rw [printL, hu, if_neg (by simp), if_neg (by simp; omega), parseLineL_line e e1 e2]
    simp only
    rw [show List.drop ((lineL e).length + 1) (lineL e ++ 10 :: printL h) = printL h from by rw [← List.drop_drop, List.drop_left]; rfl]
    rw [parseG_print h f (acc ++ [bare e]) (fun x hx => he x (by simp [hx])) (by omega) (by simp; omega)]
    simp

theorem parseL_print (h : List Ev) (he : ∀ e ∈ h, e.Ok ∧ isKind e.k = true) (hl : h.length ≤ 60) : parseL (printL h) = (h.map bare, 0, 0) := by
  have := printL_len h (fun e hx => (he e hx).1)
  have hge : h.length ≤ (printL h).length := by
    clear this hl he
    induction h with
    | nil => simp
    | cons e h ih => simp only [printL, List.length_append, List.length_cons]; omega
  unfold parseL
  rw [if_neg (by omega), parseG_print h _ [] he (by omega) (by simpa using hl)]
  simp

theorem printL_nil_iff (h : List Ev) : printL h = [] ↔ h = [] := by
  cases h with
  | nil => simp [printL]
  | cons e h => simp [printL]

end Go.Proofs.YtfdalbmopaemgabGreatDoor
