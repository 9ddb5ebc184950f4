import Derived.Test.YtfdalbmopaemgabGreatDoorZT6
import Derived.Test.YtfdalbmopaemgabGreatDoorK4
import Derived.Test.YtfdalbmopaemgabGreatDoorZG3
namespace Go.Proofs.YtfdalbmopaemgabGreatDoor
open Go.RowKit

/-! ### What a store keeps beside its events: for each object who holds it, by bits, and what it is for each one that has it -/
structure Ob where
  rd : Nat
  wr : Nat
  own : Nat → Int

structure QInv (es : List Ev) (T : Tr) (W : Nat → List Nat) (O : Nat → Ob) : Prop where
  r : RInv es T W
  rd : ∀ x : Nat, x < 4 → (O x).rd = (holdersL es (x : Int)).1
  wr : ∀ x : Nat, x < 4 → (O x).wr = (holdersL es (x : Int)).2
  own : ∀ x : Nat, x < 4 → ∀ u : Nat, (u = 0 ∨ (holdersL es (x : Int)).2.testBit u = true) → (O x).own u = isL es (u : Int) (x : Int)

theorem QInv.start : QInv [] tr0 (fun _ => []) (fun _ => ⟨0, 0, fun _ => 0⟩) :=
  ⟨RInv.start, fun _ _ => rfl, fun _ _ => rfl, fun _ _ _ _ => rfl⟩

/-! ### Who has an event of a sort -/
def By (es : List Ev) (T : Tr) (W : Nat → List Nat) (P : Ev → Prop) (c : Nat) : Prop := Live T c ∧ ∃ q ∈ W c, ∃ e : Ev, es[q]? = some e ∧ P e

def RdP (x : Nat) (e : Ev) : Prop := e.k = 2 ∧ e.a = (x : Int)
def WrP (x : Nat) (e : Ev) : Prop := e.k ≠ 2 ∧ e.a = (x : Int)

theorem rd_by {es : List Ev} {T : Tr} {W : Nat → List Nat} (r : RInv es T W) (x c : Nat) (hc : c ≠ 0) : (holdersL es (x : Int)).1.testBit c = true ↔ By es T W (RdP x) c := (held_iff r (x : Int) c hc).1
theorem wr_by {es : List Ev} {T : Tr} {W : Nat → List Nat} (r : RInv es T W) (x c : Nat) (hc : c ≠ 0) : (holdersL es (x : Int)).2.testBit c = true ↔ By es T W (WrP x) c := (held_iff r (x : Int) c hc).2

theorem bits0 {es : List Ev} {T : Tr} {W : Nat → List Nat} (r : RInv es T W) (x : Int) : (holdersL es x).1.testBit 0 = false ∧ (holdersL es x).2.testBit 0 = false := by
  rw [holdersL_K]
  exact bit0 (low15 r.s.jj) x _ (Nat.le_refl _)

/-- Bits that say the same of all but 0, and nothing of 0. -/
theorem rd_is {es : List Ev} {T : Tr} {W : Nat → List Nat} (r : RInv es T W) (x a : Nat) (h0 : a.testBit 0 = false) (h : ∀ c, c ≠ 0 → (a.testBit c = true ↔ By es T W (RdP x) c)) : a = (holdersL es (x : Int)).1 := by
  apply Nat.eq_of_testBit_eq
  intro c
  by_cases hc : c = 0
  · subst hc; rw [h0, (bits0 r _).1]
  · rw [Bool.eq_iff_iff, h c hc, rd_by r x c hc]

theorem wr_is' {es : List Ev} {T : Tr} {W : Nat → List Nat} (r : RInv es T W) (x a : Nat) (h0 : a.testBit 0 = false) (h : ∀ c, c ≠ 0 → (a.testBit c = true ↔ By es T W (WrP x) c)) : a = (holdersL es (x : Int)).2 := by
  apply Nat.eq_of_testBit_eq
  intro c
  by_cases hc : c = 0
  · subst hc; rw [h0, (bits0 r _).2]
  · rw [Bool.eq_iff_iff, h c hc, wr_by r x c hc]

theorem RInv.wlt {es : List Ev} {T : Tr} {W : Nat → List Nat} (r : RInv es T W) (c : Nat) : ∀ p ∈ W c, p < es.length := fun p hp => (r.s.gi.pl c p hp).lt

theorem by_access {es : List Ev} {T : Tr} {W : Nat → List Nat} (r : RInv es T W) (e : Ev) (t : Nat) (ht : Live T t) (P : Ev → Prop) (c : Nat) : By (es ++ [e]) T (upd W t (W t ++ [es.length])) P c ↔ By es T W P c ∨ (c = t ∧ P e) := by
  have hget : ∀ q, q < es.length → (es ++ [e])[q]? = es[q]? := fun q hq => List.getElem?_append_left hq
  have hnew : (es ++ [e])[es.length]? = some e := by simp
  constructor
  · rintro ⟨hl, q, hq, e', he', hp⟩
    unfold upd at hq
    by_cases ec : c = t
    · rw [if_pos ec, List.mem_append, List.mem_singleton] at hq
      rcases hq with hq | hq
      · rw [hget q (r.wlt t q hq)] at he'
        exact Or.inl ⟨hl, q, by rw [ec]; exact hq, e', he', hp⟩
      · subst hq
        rw [hnew] at he'
        cases he'
        exact Or.inr ⟨ec, hp⟩
    · rw [if_neg ec] at hq
      rw [hget q (r.wlt c q hq)] at he'
      exact Or.inl ⟨hl, q, hq, e', he', hp⟩
  · rintro (⟨hl, q, hq, e', he', hp⟩ | ⟨rfl, hp⟩)
    · refine ⟨hl, q, ?_, e', by rw [hget q (r.wlt c q hq)]; exact he', hp⟩
      unfold upd
      by_cases ec : c = t
      · rw [if_pos ec, List.mem_append, ← ec]; exact Or.inl hq
      · rw [if_neg ec]; exact hq
    · refine ⟨ht, es.length, ?_, e, hnew, hp⟩
      unfold upd
      rw [if_pos rfl]
      simp

theorem live_begin {T : Tr} (p : Int) (hn : T.n < 15) (c : Nat) : Live (beginT T p) c ↔ Live T c ∨ c = T.n + 1 := by
  unfold Live beginT upd
  simp only
  by_cases ec : c = T.n + 1
  · rw [if_pos ec]
    exact ⟨fun _ => Or.inr ec, fun _ => Or.inr ⟨by omega, by omega, rfl⟩⟩
  · rw [if_neg ec]
    exact ⟨Or.inl, fun q => q.elim id (fun q => absurd q ec)⟩

theorem by_begin {es : List Ev} {T : Tr} {W : Nat → List Nat} (r : RInv es T W) (e : Ev) (p : Int) (hn : T.n < 15) (P : Ev → Prop) (c : Nat) : By (es ++ [e]) (beginT T p) W P c ↔ By es T W P c := by
  have hget : ∀ q, q < es.length → (es ++ [e])[q]? = es[q]? := fun q hq => List.getElem?_append_left hq
  constructor
  · rintro ⟨hl, q, hq, e', he', hp⟩
    rw [hget q (r.wlt c q hq)] at he'
    rcases (live_begin p hn c).1 hl with h | h
    · exact ⟨h, q, hq, e', he', hp⟩
    · rw [r.s.gi.new c (by omega)] at hq
      cases hq
  · rintro ⟨hl, q, hq, e', he', hp⟩
    exact ⟨(live_begin p hn c).2 (Or.inl hl), q, hq, e', by rw [hget q (r.wlt c q hq)]; exact he', hp⟩

theorem live_commit {T : Tr} (t c : Nat) (h0 : t ≠ 0) : Live (commitT T t) c ↔ Live T c ∧ c ≠ t := by
  unfold Live commitT upd
  simp only
  by_cases ec : c = t
  · rw [if_pos ec]
    constructor
    · rintro (h | h)
      · omega
      · exact absurd h.2.2 (by decide)
    · rintro ⟨_, h⟩
      exact absurd ec h
  · rw [if_neg ec]
    exact ⟨fun q => ⟨q, ec⟩, fun q => q.1⟩

theorem by_commit {es : List Ev} {T : Tr} {W : Nat → List Nat} (r : RInv es T W) (e : Ev) (t p : Nat) (h0 : t ≠ 0) (hl : Live T t) (hpl : Live T p) (hpt : p ≠ t) (P : Ev → Prop) (c : Nat) : By (es ++ [e]) (commitT T t) (upd W p (W p ++ W t)) P c ↔ c ≠ t ∧ (By es T W P c ∨ (c = p ∧ By es T W P t)) := by
  have hget : ∀ q, q < es.length → (es ++ [e])[q]? = es[q]? := fun q hq => List.getElem?_append_left hq
  constructor
  · rintro ⟨hl', q, hq, e', he', hp⟩
    obtain ⟨hlc, hct⟩ := (live_commit t c h0).1 hl'
    refine ⟨hct, ?_⟩
    unfold upd at hq
    by_cases ec : c = p
    · rw [if_pos ec, List.mem_append] at hq
      rcases hq with hq | hq
      · rw [hget q (r.wlt p q hq)] at he'
        exact Or.inl ⟨hlc, q, by rw [ec]; exact hq, e', he', hp⟩
      · rw [hget q (r.wlt t q hq)] at he'
        exact Or.inr ⟨ec, hl, q, hq, e', he', hp⟩
    · rw [if_neg ec] at hq
      rw [hget q (r.wlt c q hq)] at he'
      exact Or.inl ⟨hlc, q, hq, e', he', hp⟩
  · rintro ⟨hct, ⟨hlc, q, hq, e', he', hp⟩ | ⟨rfl, _, q, hq, e', he', hp⟩⟩
    · refine ⟨(live_commit t c h0).2 ⟨hlc, hct⟩, q, ?_, e', by rw [hget q (r.wlt c q hq)]; exact he', hp⟩
      unfold upd
      by_cases ec : c = p
      · rw [if_pos ec, List.mem_append, ← ec]; exact Or.inl hq
      · rw [if_neg ec]; exact hq
    · refine ⟨(live_commit t c h0).2 ⟨hpl, hct⟩, q, ?_, e', by rw [hget q (r.wlt t q hq)]; exact he', hp⟩
      unfold upd
      rw [if_pos rfl, List.mem_append]
      exact Or.inr hq

theorem by_abort {es : List Ev} {T T' : Tr} {W : Nat → List Nat} (r : RInv es T W) (e : Ev) (hsub : ∀ c, Live T' c → Live T c) (P : Ev → Prop) (c : Nat) : By (es ++ [e]) T' W P c ↔ By es T W P c ∧ Live T' c := by
  have hget : ∀ q, q < es.length → (es ++ [e])[q]? = es[q]? := fun q hq => List.getElem?_append_left hq
  constructor
  · rintro ⟨hl', q, hq, e', he', hp⟩
    rw [hget q (r.wlt c q hq)] at he'
    exact ⟨⟨hsub c hl', q, hq, e', he', hp⟩, hl'⟩
  · rintro ⟨⟨_, q, hq, e', he', hp⟩, hl'⟩
    exact ⟨hl', q, hq, e', by rw [hget q (r.wlt c q hq)]; exact he', hp⟩

/-! ### What an object is, for each who lives -/
/-- Nobody on the way below u has written it. -/
theorem is_inner {es : List Ev} {T : Tr} {W : Nat → List Nat} (r : RInv es T W) {t u x : Nat} (ht : Live T t) (hu : u ∈ pth T.par t) (hno : ∀ c ∈ pth T.par t, u < c → (holdersL es (x : Int)).2.testBit c = false) : isL es (t : Int) (x : Int) = isL es (u : Int) (x : Int) := by
  have j := r.s.jj
  have hlu := live_path j t ht u hu
  have htn := live_le j ht
  rw [is_last j r.h r.na ht x, is_last j r.h r.na hlu x]
  apply lastW_congr
  intro i hi e he hk hx
  rw [onWay_mem, onWay_mem]
  constructor
  · rintro ⟨c, hc, hiw⟩
    obtain ⟨rr, h1, h2⟩ := pth_cut (jj_par j) u t htn hu
    rw [h1, List.mem_append] at hc
    rcases hc with hc | hc
    · exact ⟨c, hc, hiw⟩
    · have h3 := (h2 c hc).1
      have hct : c ∈ pth T.par t := by rw [h1, List.mem_append]; exact Or.inr hc
      have := (held_bit r.h r.na r.s.gi (c := c) (x := x) (by omega) (live_path j t ht c hct) hiw he hx).2 (by omega)
      rw [hno c hct h3] at this
      cases this
  · rintro ⟨c, hc, hiw⟩
    exact ⟨c, pth_trans (jj_par j) htn hu hc, hiw⟩

/-- Events that come behind and that nobody on the way has. -/
theorem is_same {es : List Ev} {T T' : Tr} {W W' : Nat → List Nat} {e : Ev} (r : RInv es T W) (r' : RInv (es ++ [e]) T' W') {u x : Nat} (hu : Live T u) (hu' : Live T' u) (hn : ¬ ((e.k = 3 ∨ e.k = 4) ∧ e.a.toNat = x) ∨ es.length ∉ onWay T'.par W' u) (hm : ∀ i, i < es.length → ∀ e', es[i]? = some e' → (e'.k = 3 ∨ e'.k = 4) → e'.a.toNat = x → (i ∈ onWay T'.par W' u ↔ i ∈ onWay T.par W u)) : isL (es ++ [e]) (u : Int) (x : Int) = isL es (u : Int) (x : Int) := by
  rw [is_last r'.s.jj r'.h r'.na hu' x, is_last r.s.jj r.h r.na hu x, List.length_append]
  have : lastW (es ++ [e]) (onWay T'.par W' u) x (es.length + [e].length) = lastW es (onWay T'.par W' u) x es.length := by
    rcases hn with hn | hn
    · exact lastW_not e hn
    · exact lastW_old e hn
  rw [this]
  exact lastW_congr es.length hm

theorem way_access {T : Tr} {W : Nat → List Nat} {n t u : Nat} {i : Nat} (hi : i < n) : i ∈ onWay T.par (upd W t (W t ++ [n])) u ↔ i ∈ onWay T.par W u := by
  rw [onWay_mem, onWay_mem]
  have hin : ∀ a, (i ∈ upd W t (W t ++ [n]) a ↔ i ∈ W a) := fun a => by
    unfold upd
    by_cases ea : a = t
    · rw [if_pos ea, List.mem_append, List.mem_singleton, ea]
      exact ⟨fun q => q.elim id (fun q => by omega), Or.inl⟩
    · rw [if_neg ea]
  exact ⟨fun ⟨c, h1, h2⟩ => ⟨c, h1, (hin c).1 h2⟩, fun ⟨c, h1, h2⟩ => ⟨c, h1, (hin c).2 h2⟩⟩

theorem way_new {es : List Ev} {T : Tr} {W : Nat → List Nat} (r : RInv es T W) {t u : Nat} : es.length ∈ onWay T.par (upd W t (W t ++ [es.length])) u ↔ t ∈ pth T.par u := by
  rw [onWay_mem]
  constructor
  · rintro ⟨c, h1, h2⟩
    unfold upd at h2
    by_cases ec : c = t
    · rw [← ec]; exact h1
    · rw [if_neg ec] at h2
      have := r.wlt c _ h2
      omega
  · intro h
    refine ⟨t, h, ?_⟩
    unfold upd
    rw [if_pos rfl]
    simp

end Go.Proofs.YtfdalbmopaemgabGreatDoor

namespace Go.Proofs.YtfdalbmopaemgabGreatDoor
open Go.RowKit

/-! ### Bits -/
def bitN (t : Nat) : Nat := if t = 0 ∨ 15 < t then 0 else 2 ^ t

theorem bitN_bit (t c : Nat) : (bitN t).testBit c = true ↔ c = t ∧ t ≠ 0 ∧ t ≤ 15 := by
  unfold bitN
  by_cases h : t = 0 ∨ 15 < t
  · rw [if_pos h, Nat.zero_testBit]
    simp
    omega
  · rw [if_neg h, Nat.testBit_two_pow]
    simp
    omega

theorem bitN_lt (t : Nat) : bitN t < 65536 := by
  unfold bitN
  by_cases h : t = 0 ∨ 15 < t
  · rw [if_pos h]; decide
  · rw [if_neg h]; exact pow16 (by omega)

theorem bitN_0 (t : Nat) : (bitN t).testBit 0 = false := by
  rw [← Bool.not_eq_true, bitN_bit]
  omega

theorem not_bit (b c : Nat) (hb : b < 65536) : (65535 - b).testBit c = (decide (c < 16) && !b.testBit c) := by
  have := Nat.testBit_two_pow_sub_succ (x := b) (n := 16) (by simpa using hb) c
  rw [show (2 ^ 16 - (b + 1)) = 65535 - b by omega] at this
  exact this

theorem live15 {T : Tr} {c : Nat} (h : Live T c) : c ≤ 15 := by
  rcases h with h | h
  · omega
  · exact h.2.1

theorem By.low {es : List Ev} {T : Tr} {W : Nat → List Nat} {P : Ev → Prop} {c : Nat} (h : By es T W P c) : c ≤ 15 := live15 h.1

/-! ### Read, Write, Add -/
theorem QInv.read {es : List Ev} {T : Tr} {W : Nat → List Nat} {O : Nat → Ob} (q : QInv es T W O) (e : Ev) (t x : Nat) (hx : x < 4) (hk : e.k = 2) (ha : e.a = (x : Int)) (ho : openL es (t : Int) = true) (r' : RInv (es ++ [e]) T (upd W t (W t ++ [es.length]))) :
    QInv (es ++ [e]) T (upd W t (W t ++ [es.length])) (upd O x ⟨(O x).rd ||| bitN t, (O x).wr, (O x).own⟩) := by
  have j := q.r.s.jj
  obtain ⟨hl, ht0⟩ := live_of_open j ho
  have ht15 := live15 hl
  have hwr : ∀ y : Nat, y < 4 → (O y).wr = (holdersL (es ++ [e]) (y : Int)).2 := fun y hy => by
    refine wr_is' r' y _ (by rw [q.wr y hy]; exact (bits0 q.r _).2) fun c hc => ?_
    rw [q.wr y hy, wr_by q.r y c hc, by_access q.r e t hl]
    exact ⟨Or.inl, fun h => h.elim id (fun h => absurd hk h.2.1)⟩
  refine ⟨r', fun y hy => ?_, fun y hy => ?_, fun y hy u hu => ?_⟩
  · unfold upd
    by_cases e' : y = x
    · subst e'
      rw [if_pos rfl]
      refine rd_is r' y _ ?_ fun c hc => ?_
      · show ((O y).rd ||| bitN t).testBit 0 = false
        rw [Nat.testBit_or, q.rd y hy, (bits0 q.r _).1, bitN_0]
        rfl
      · show ((O y).rd ||| bitN t).testBit c = true ↔ _
        rw [Nat.testBit_or, Bool.or_eq_true, bitN_bit, q.rd y hy, rd_by q.r y c hc, by_access q.r e t hl]
        exact ⟨fun h => h.imp id (fun h => ⟨h.1, hk, ha⟩), fun h => h.imp id (fun h => ⟨h.1, ht0, ht15⟩)⟩
    · rw [if_neg e']
      refine rd_is r' y _ (by rw [q.rd y hy]; exact (bits0 q.r _).1) fun c hc => ?_
      rw [q.rd y hy, rd_by q.r y c hc, by_access q.r e t hl]
      refine ⟨Or.inl, fun h => h.elim id (fun h => ?_)⟩
      have := h.2.2
      omega
  · have : (upd O x ⟨(O x).rd ||| bitN t, (O x).wr, (O x).own⟩ y).wr = (O y).wr := by
      unfold upd
      by_cases e' : y = x
      · rw [if_pos e', e']
      · rw [if_neg e']
    rw [this]
    exact hwr y hy
  · have : (upd O x ⟨(O x).rd ||| bitN t, (O x).wr, (O x).own⟩ y).own = (O y).own := by
      unfold upd
      by_cases e' : y = x
      · rw [if_pos e', e']
      · rw [if_neg e']
    rw [this]
    rw [← hwr y hy, q.wr y hy] at hu
    have hlu : Live T u := by
      rcases hu with h | h
      · exact Or.inl h
      · by_cases h0 : u = 0
        · exact Or.inl h0
        · exact ((wr_by q.r y u h0).1 h).1
    rw [q.own y hy u hu]
    exact (is_same q.r r' hlu hlu (Or.inl (by omega)) (fun i hi _ _ _ _ => way_access hi)).symm

theorem QInv.write {es : List Ev} {T : Tr} {W : Nat → List Nat} {O : Nat → Ob} (q : QInv es T W O) (e : Ev) (t x : Nat) (hx : x < 4) (hk : e.k = 3 ∨ e.k = 4) (ha : e.a = (x : Int)) (ho : openL es (t : Int) = true) (hst : ∀ c, c ≠ 0 → Live T c → (holdersL es (x : Int)).2.testBit c = true → c ∈ pth T.par t) (r' : RInv (es ++ [e]) T (upd W t (W t ++ [es.length]))) :
    QInv (es ++ [e]) T (upd W t (W t ++ [es.length])) (upd O x ⟨(O x).rd, (O x).wr ||| bitN t, upd (O x).own t (becL e)⟩) := by
  have j := q.r.s.jj
  obtain ⟨hl, ht0⟩ := live_of_open j ho
  have ht15 := live15 hl
  have htn := live_le j hl
  have hrd : ∀ y : Nat, y < 4 → (O y).rd = (holdersL (es ++ [e]) (y : Int)).1 := fun y hy => by
    refine rd_is r' y _ (by rw [q.rd y hy]; exact (bits0 q.r _).1) fun c hc => ?_
    rw [q.rd y hy, rd_by q.r y c hc, by_access q.r e t hl]
    refine ⟨Or.inl, fun h => h.elim id (fun h => ?_)⟩
    have := h.2.1
    omega
  have hwx : (O x).wr ||| bitN t = (holdersL (es ++ [e]) (x : Int)).2 := by
    refine wr_is' r' x _ ?_ fun c hc => ?_
    · rw [Nat.testBit_or, q.wr x hx, (bits0 q.r _).2, bitN_0]; rfl
    · rw [Nat.testBit_or, Bool.or_eq_true, bitN_bit, q.wr x hx, wr_by q.r x c hc, by_access q.r e t hl]
      exact ⟨fun h => h.imp id (fun h => ⟨h.1, (show e.k ≠ 2 by omega), ha⟩), fun h => h.imp id (fun h => ⟨h.1, ht0, ht15⟩)⟩
  have hwy : ∀ y : Nat, y < 4 → y ≠ x → (O y).wr = (holdersL (es ++ [e]) (y : Int)).2 := fun y hy hyx => by
    refine wr_is' r' y _ (by rw [q.wr y hy]; exact (bits0 q.r _).2) fun c hc => ?_
    rw [q.wr y hy, wr_by q.r y c hc, by_access q.r e t hl]
    refine ⟨Or.inl, fun h => h.elim id (fun h => ?_)⟩
    have := h.2.2
    omega
  have hlv : ∀ y u : Nat, (u = 0 ∨ (holdersL es (y : Int)).2.testBit u = true) → Live T u := fun y u hu => by
    rcases hu with h | h
    · exact Or.inl h
    · by_cases h0 : u = 0
      · exact Or.inl h0
      · exact ((wr_by q.r y u h0).1 h).1
  refine ⟨r', fun y hy => ?_, fun y hy => ?_, fun y hy u hu => ?_⟩
  · have : (upd O x ⟨(O x).rd, (O x).wr ||| bitN t, upd (O x).own t (becL e)⟩ y).rd = (O y).rd := by
      unfold upd
      by_cases e' : y = x
      · rw [if_pos e', e']
      · rw [if_neg e']
    rw [this]
    exact hrd y hy
  · unfold upd
    by_cases e' : y = x
    · subst e'; rw [if_pos rfl]; exact hwx
    · rw [if_neg e']; exact hwy y hy e'
  · by_cases e' : y = x
    · subst e'
      rw [← hwx] at hu
      rw [show (upd O y ⟨(O y).rd, (O y).wr ||| bitN t, upd (O y).own t (becL e)⟩ y).own u = upd (O y).own t (becL e) u by unfold upd; rw [if_pos rfl]]
      by_cases eu : u = t
      · subst eu
        rw [is_last r'.s.jj r'.h r'.na hl y, List.length_append]
        rw [show upd (O y).own u (becL e) u = becL e by unfold upd; rw [if_pos rfl]]
        exact (lastW_new e ((way_new q.r).2 (pth_self (jj_par j) u htn)) hk (by omega)).symm
      · rw [show upd (O y).own t (becL e) u = (O y).own u by unfold upd; rw [if_neg eu]]
        have hu' : u = 0 ∨ (holdersL es (y : Int)).2.testBit u = true := by
          rcases hu with h | h
          · exact Or.inl h
          · rw [Nat.testBit_or, Bool.or_eq_true, bitN_bit, q.wr y hy] at h
            exact Or.inr (h.elim id (fun h => absurd h.1 eu))
        have hlu := hlv y u hu'
        rw [q.own y hy u hu']
        refine (is_same q.r r' hlu hlu (Or.inr fun hin => ?_) (fun i hi _ _ _ _ => way_access hi)).symm
        have htu := (way_new q.r).1 hin
        by_cases h0 : u = 0
        · subst h0; rw [pth_zero, List.mem_singleton] at htu; exact ht0 htu
        · have hut := hst u h0 hlu (hu'.elim (fun h => absurd h h0) id)
          have h1 := pth_le (jj_par j) t htn u hut
          have h2 := pth_le (jj_par j) u (live_le j hlu) t htu
          omega
    · rw [show (upd O x ⟨(O x).rd, (O x).wr ||| bitN t, upd (O x).own t (becL e)⟩ y).own u = (O y).own u by unfold upd; rw [if_neg e']]
      rw [← hwy y hy e', q.wr y hy] at hu
      have hlu := hlv y u hu
      rw [q.own y hy u hu]
      exact (is_same q.r r' hlu hlu (Or.inl (fun h => by omega)) (fun i hi _ _ _ _ => way_access hi)).symm

/-! ### Begin -/
theorem QInv.begin_ {es : List Ev} {T : Tr} {W : Nat → List Nat} {O : Nat → Ob} (q : QInv es T W O) (e : Ev) (p : Int) (hk : e.k = 1) (hn : T.n < 15) (r' : RInv (es ++ [e]) (beginT T p) W) : QInv (es ++ [e]) (beginT T p) W O := by
  have j := q.r.s.jj
  have hwr : ∀ y : Nat, y < 4 → (O y).wr = (holdersL (es ++ [e]) (y : Int)).2 := fun y hy => by
    refine wr_is' r' y _ (by rw [q.wr y hy]; exact (bits0 q.r _).2) fun c hc => ?_
    rw [q.wr y hy, wr_by q.r y c hc, by_begin q.r e p hn]
  refine ⟨r', fun y hy => ?_, hwr, fun y hy u hu => ?_⟩
  · refine rd_is r' y _ (by rw [q.rd y hy]; exact (bits0 q.r _).1) fun c hc => ?_
    rw [q.rd y hy, rd_by q.r y c hc, by_begin q.r e p hn]
  · rw [← hwr y hy, q.wr y hy] at hu
    have hlu : Live T u := by
      rcases hu with h | h
      · exact Or.inl h
      · by_cases h0 : u = 0
        · exact Or.inl h0
        · exact ((wr_by q.r y u h0).1 h).1
    have hun := live_le j hlu
    rw [q.own y hy u hu]
    refine (is_same q.r r' hlu ((live_begin p hn u).2 (Or.inl hlu)) (Or.inl (by omega)) (fun i _ _ _ _ _ => ?_)).symm
    have : onWay (beginT T p).par W u = onWay T.par W u := by
      unfold onWay
      rw [pth_same (jj_par j) (fun c h1 h2 => by unfold beginT upd; simp only; rw [if_neg (by omega)]) u hun]
    rw [this]

/-! ### Commit -/
def handO (o : Ob) (t p : Nat) : Ob :=
  ⟨(if o.rd.testBit t then o.rd ||| bitN p else o.rd) &&& (65535 - bitN t), (if o.wr.testBit t then o.wr ||| bitN p else o.wr) &&& (65535 - bitN t), if o.wr.testBit t then upd o.own p (o.own t) else o.own⟩

theorem hand_bit (a t p c : Nat) (ht0 : t ≠ 0) (ht15 : t ≤ 15) : (((if a.testBit t then a ||| bitN p else a) &&& (65535 - bitN t)).testBit c = true) ↔ c < 16 ∧ c ≠ t ∧ (a.testBit c = true ∨ (c = p ∧ p ≠ 0 ∧ p ≤ 15 ∧ a.testBit t = true)) := by
  have hn : (bitN t).testBit c = true ↔ c = t := by rw [bitN_bit]; omega
  rw [Nat.testBit_and, Bool.and_eq_true, not_bit _ _ (bitN_lt t), Bool.and_eq_true, Bool.not_eq_true', ← Bool.not_eq_true, hn, decide_eq_true_iff]
  cases hb : a.testBit t with
  | true =>
    rw [if_pos rfl, Nat.testBit_or, Bool.or_eq_true, bitN_bit]
    constructor
    · rintro ⟨h1, h2, h3⟩
      exact ⟨h2, h3, h1.imp id (fun h => ⟨h.1, h.2.1, h.2.2, rfl⟩)⟩
    · rintro ⟨h1, h2, h3⟩
      exact ⟨h3.imp id (fun h => ⟨h.1, h.2.1, h.2.2.1⟩), h1, h2⟩
  | false =>
    rw [if_neg (by decide)]
    constructor
    · rintro ⟨h1, h2, h3⟩
      exact ⟨h2, h3, Or.inl h1⟩
    · rintro ⟨h1, h2, h3⟩
      exact ⟨h3.elim id (fun h => absurd h.2.2.2 (by decide)), h1, h2⟩

theorem way_commit {T : Tr} {W : Nat → List Nat} {t p u i : Nat} : i ∈ onWay T.par (upd W p (W p ++ W t)) u ↔ i ∈ onWay T.par W u ∨ (p ∈ pth T.par u ∧ i ∈ W t) := by
  rw [onWay_mem, onWay_mem]
  constructor
  · rintro ⟨c, h1, h2⟩
    unfold upd at h2
    by_cases ec : c = p
    · rw [if_pos ec, List.mem_append] at h2
      rcases h2 with h2 | h2
      · exact Or.inl ⟨c, h1, by rw [ec]; exact h2⟩
      · exact Or.inr ⟨by rw [← ec]; exact h1, h2⟩
    · rw [if_neg ec] at h2
      exact Or.inl ⟨c, h1, h2⟩
  · rintro (⟨c, h1, h2⟩ | ⟨h1, h2⟩)
    · refine ⟨c, h1, ?_⟩
      unfold upd
      by_cases ec : c = p
      · rw [if_pos ec, List.mem_append, ← ec]; exact Or.inl h2
      · rw [if_neg ec]; exact h2
    · refine ⟨p, h1, ?_⟩
      unfold upd
      rw [if_pos rfl, List.mem_append]
      exact Or.inr h2

/-- Whoever lives in another has a living child of that one on the way. -/
theorem child_on {es : List Ev} {T : Tr} (j : JJ es T) (t : Nat) : ∀ u, Live T u → t ∈ pth T.par u → u ≠ t → ∃ v, Live T v ∧ v ≠ 0 ∧ (T.par v).toNat = t := by
  intro u
  induction u using Nat.strongRecOn with
  | _ u ih =>
    intro hu ht hne
    by_cases h0 : u = 0
    · subst h0
      rw [pth_zero, List.mem_singleton] at ht
      exact absurd ht.symm hne
    · have hle := live_le j hu
      rw [pth_step (jj_par j) u (by omega) hle, List.mem_append, List.mem_singleton] at ht
      by_cases hp : (T.par u).toNat = t
      · exact ⟨u, hu, h0, hp⟩
      · exact ih _ (jj_par j u (by omega) hle) (live_up j hu h0) (ht.elim id (fun q => absurd q.symm hne)) hp

theorem QInv.commit {es : List Ev} {T : Tr} {W : Nat → List Nat} {O : Nat → Ob} (q : QInv es T W O) (e : Ev) (t p : Nat) (hk : e.k = 5) (ho : openL es (t : Int) = true) (hch : childL es (t : Int) = false) (hp : T.par t = (p : Int)) (r' : RInv (es ++ [e]) (commitT T t) (upd W p (W p ++ W t))) :
    QInv (es ++ [e]) (commitT T t) (upd W p (W p ++ W t)) (fun x => handO (O x) t p) := by
  have j := q.r.s.jj
  obtain ⟨hl, ht0⟩ := live_of_open j ho
  have ht15 := live15 hl
  have htn := live_le j hl
  have hpl : Live T p := by have := live_up j hl ht0; rwa [hp, Int.toNat_natCast] at this
  have hplt : p < t := by have := jj_par j t (by omega) htn; rwa [hp, Int.toNat_natCast] at this
  have hp15 := live15 hpl
  have hpth : pth T.par t = pth T.par p ++ [t] := by rw [pth_step (jj_par j) t (by omega) htn, hp, Int.toNat_natCast]
  have hppt : p ∈ pth T.par t := by rw [hpth, List.mem_append]; exact Or.inl (pth_self (jj_par j) p (live_le j hpl))
  have hpar : (commitT T t).par = T.par := rfl
  have hwr : ∀ y : Nat, y < 4 → (handO (O y) t p).wr = (holdersL (es ++ [e]) (y : Int)).2 := fun y hy => by
    refine wr_is' r' y _ ?_ fun c hc => ?_
    · rw [← Bool.not_eq_true]
      show ¬ (((if (O y).wr.testBit t then (O y).wr ||| bitN p else (O y).wr) &&& (65535 - bitN t)).testBit 0 = true)
      rw [hand_bit _ _ _ _ ht0 ht15, q.wr y hy, (bits0 q.r _).2]
      rintro ⟨_, _, h | h⟩
      · cases h
      · exact h.2.1 h.1.symm
    · show (((if (O y).wr.testBit t then (O y).wr ||| bitN p else (O y).wr) &&& (65535 - bitN t)).testBit c = true) ↔ _
      rw [hand_bit _ _ _ _ ht0 ht15, q.wr y hy, wr_by q.r y c hc, wr_by q.r y t ht0, by_commit q.r e t p ht0 hl hpl (by omega)]
      constructor
      · rintro ⟨h1, h2, h3⟩
        exact ⟨h2, h3.imp id (fun h => ⟨h.1, h.2.2.2⟩)⟩
      · rintro ⟨h1, h3⟩
        refine ⟨?_, h1, h3.imp id (fun h => ⟨h.1, by omega, hp15, h.2⟩)⟩
        rcases h3 with h | h
        · have := h.low; omega
        · omega
  refine ⟨r', fun y hy => ?_, hwr, fun y hy u hu => ?_⟩
  · refine rd_is r' y _ ?_ fun c hc => ?_
    · rw [← Bool.not_eq_true]
      show ¬ (((if (O y).rd.testBit t then (O y).rd ||| bitN p else (O y).rd) &&& (65535 - bitN t)).testBit 0 = true)
      rw [hand_bit _ _ _ _ ht0 ht15, q.rd y hy, (bits0 q.r _).1]
      rintro ⟨_, _, h | h⟩
      · cases h
      · exact h.2.1 h.1.symm
    · show (((if (O y).rd.testBit t then (O y).rd ||| bitN p else (O y).rd) &&& (65535 - bitN t)).testBit c = true) ↔ _
      rw [hand_bit _ _ _ _ ht0 ht15, q.rd y hy, rd_by q.r y c hc, rd_by q.r y t ht0, by_commit q.r e t p ht0 hl hpl (by omega)]
      constructor
      · rintro ⟨h1, h2, h3⟩
        exact ⟨h2, h3.imp id (fun h => ⟨h.1, h.2.2.2⟩)⟩
      · rintro ⟨h1, h3⟩
        refine ⟨?_, h1, h3.imp id (fun h => ⟨h.1, by omega, hp15, h.2⟩)⟩
        rcases h3 with h | h
        · have := h.low; omega
        · omega
  · have hnt : Live (commitT T t) u := by
      rcases hu with h | h
      · exact Or.inl h
      · by_cases h0 : u = 0
        · exact Or.inl h0
        · exact ((wr_by r' y u h0).1 h).1
    obtain ⟨hlu, hut⟩ := (live_commit t u ht0).1 hnt
    have hold : u ≠ p → (u = 0 ∨ (holdersL es (y : Int)).2.testBit u = true) := fun hup => by
      rcases hu with h | h
      · exact Or.inl h
      · rw [← hwr y hy] at h
        have h' : ((if (O y).wr.testBit t then (O y).wr ||| bitN p else (O y).wr) &&& (65535 - bitN t)).testBit u = true := h
        rw [hand_bit _ _ _ _ ht0 ht15, q.wr y hy] at h'
        exact Or.inr (h'.2.2.elim id (fun h => absurd h.1 hup))
    have hup : isL (es ++ [e]) (p : Int) (y : Int) = isL es (t : Int) (y : Int) := by
      have hpl' : Live (commitT T t) p := (live_commit t p ht0).2 ⟨hpl, by omega⟩
      rw [is_last r'.s.jj r'.h r'.na hpl' y, is_last j q.r.h q.r.na hl y, List.length_append]
      have : lastW (es ++ [e]) (onWay (commitT T t).par (upd W p (W p ++ W t)) p) y (es.length + [e].length) = lastW es (onWay (commitT T t).par (upd W p (W p ++ W t)) p) y es.length := lastW_not e (by omega)
      rw [this, hpar]
      refine lastW_congr es.length fun i _ _ _ _ _ => ?_
      rw [way_commit, onWay_mem, onWay_mem, hpth]
      constructor
      · rintro (⟨c, h1, h2⟩ | ⟨_, h2⟩)
        · exact ⟨c, List.mem_append.2 (Or.inl h1), h2⟩
        · exact ⟨t, List.mem_append.2 (Or.inr (List.mem_singleton.2 rfl)), h2⟩
      · rintro ⟨c, h1, h2⟩
        rw [List.mem_append, List.mem_singleton] at h1
        rcases h1 with h1 | rfl
        · exact Or.inl ⟨c, h1, h2⟩
        · exact Or.inr ⟨pth_self (jj_par j) p (live_le j hpl), h2⟩
    show (if (O y).wr.testBit t then upd (O y).own p ((O y).own t) else (O y).own) u = _
    by_cases eu : u = p
    · subst eu
      rw [hup]
      cases hb : (O y).wr.testBit t with
      | true =>
        rw [if_pos rfl]
        rw [q.wr y hy] at hb
        rw [show upd (O y).own u ((O y).own t) u = (O y).own t by unfold upd; rw [if_pos rfl]]
        exact q.own y hy t (Or.inr hb)
      | false =>
        rw [if_neg (by decide)]
        rw [q.wr y hy] at hb
        have hu2 : u = 0 ∨ (holdersL es (y : Int)).2.testBit u = true := by
          rcases hu with h | h
          · exact Or.inl h
          · rw [← hwr y hy] at h
            have h' : ((if (O y).wr.testBit t then (O y).wr ||| bitN u else (O y).wr) &&& (65535 - bitN t)).testBit u = true := h
            rw [hand_bit _ _ _ _ ht0 ht15, q.wr y hy, hb] at h'
            exact Or.inr (h'.2.2.elim id (fun h => by cases h.2.2.2))
        rw [q.own y hy u hu2]
        refine (is_inner q.r hl hppt fun c hc hcu => ?_).symm
        rw [hpth, List.mem_append, List.mem_singleton] at hc
        rcases hc with hc | rfl
        · have := pth_le (jj_par j) u (live_le j hlu) c hc
          omega
        · exact hb
    · have hu2 := hold eu
      have hown : (if (O y).wr.testBit t then upd (O y).own p ((O y).own t) else (O y).own) u = (O y).own u := by
        split
        · unfold upd; rw [if_neg eu]
        · rfl
      rw [hown, q.own y hy u hu2]
      refine (is_same q.r r' hlu hnt (Or.inl (by omega)) (fun i hi e' he' hk' hx' => ?_)).symm
      rw [hpar, way_commit]
      refine ⟨fun h => h.elim id (fun ⟨h1, h2⟩ => ?_), Or.inl⟩
      have hwt := (held_bit q.r.h q.r.na q.r.s.gi (x := y) ht0 hl h2 he' hx').2 (by omega)
      rcases hu2 with h0 | hbu
      · subst h0
        rw [pth_zero, List.mem_singleton] at h1
        exact absurd h1.symm eu
      · have hu0 : u ≠ 0 := fun h0 => by subst h0; rw [(bits0 q.r _).2] at hbu; cases hbu
        obtain ⟨_, _, h3 | h3⟩ := q.r.apart y t u ht0 hu0 hwt (Or.inr hbu)
        · obtain ⟨v, hv1, hv2, hv3⟩ := child_on j t u hlu h3 hut
          have hov := open_of_live j hv1 hv2
          have hne := child_false j hch hov
          have hvn := live_le j hv1
          have hlow := j.low v (by omega) hvn
          have h15 := j.n15
          have := j.par v (by omega)
          omega
        · rw [hpth, List.mem_append, List.mem_singleton] at h3
          rcases h3 with h3 | h3
          · have h4 := pth_le (jj_par j) p (live_le j hpl) u h3
            have h5 := pth_le (jj_par j) u (live_le j hlu) p h1
            omega
          · exact absurd h3 hut

/-! ### Abort -/
def keepO (o : Ob) (m : Nat) : Ob := ⟨o.rd &&& m, o.wr &&& m, o.own⟩

def openD (op : Nat → Bool) : Nat → Nat → Nat
  | 0, acc => acc
  | i + 1, acc => openD op i (if op (i + 1) then acc ||| bitN (i + 1) else acc)

theorem openD_bit (op : Nat → Bool) (c : Nat) : ∀ i, i ≤ 15 → ∀ acc, (openD op i acc).testBit c = true ↔ acc.testBit c = true ∨ (1 ≤ c ∧ c ≤ i ∧ op c = true)
  | 0, _, acc => by
    unfold openD
    exact ⟨Or.inl, fun h => h.elim id (fun h => by omega)⟩
  | i + 1, hi, acc => by
    rw [openD, openD_bit op c i (by omega)]
    cases ho : op (i + 1) with
    | true =>
      rw [if_pos rfl, Nat.testBit_or, Bool.or_eq_true, bitN_bit]
      constructor
      · rintro ((h | h) | h)
        · exact Or.inl h
        · exact Or.inr ⟨by omega, by omega, by rw [h.1]; exact ho⟩
        · exact Or.inr ⟨h.1, by omega, h.2.2⟩
      · rintro (h | h)
        · exact Or.inl (Or.inl h)
        · by_cases ec : c = i + 1
          · exact Or.inl (Or.inr ⟨ec, by omega, by omega⟩)
          · exact Or.inr ⟨h.1, by omega, h.2.2⟩
    | false =>
      rw [if_neg (by decide)]
      constructor
      · rintro (h | h)
        · exact Or.inl h
        · exact Or.inr ⟨h.1, by omega, h.2.2⟩
      · rintro (h | h)
        · exact Or.inl h
        · by_cases ec : c = i + 1
          · rw [ec, ho] at h; exact absurd h.2.2 (by decide)
          · exact Or.inr ⟨h.1, by omega, h.2.2⟩

theorem openN_bit (T : Tr) (c : Nat) (hc : c ≠ 0) : (openD T.op 15 0).testBit c = true ↔ Live T c := by
  rw [openD_bit T.op c 15 (by omega), Nat.zero_testBit]
  unfold Live
  constructor
  · rintro (h | h)
    · cases h
    · exact Or.inr h
  · rintro (h | h)
    · exact absurd h hc
    · exact Or.inr h

theorem openN_0 (T : Tr) : (openD T.op 15 0).testBit 0 = false := by
  rw [← Bool.not_eq_true, openD_bit T.op 0 15 (by omega), Nat.zero_testBit]
  rintro (h | h)
  · cases h
  · omega

theorem QInv.abort {es : List Ev} {T : Tr} {W : Nat → List Nat} {O : Nat → Ob} (q : QInv es T W O) (e : Ev) (t : Nat) (hk : e.k = 6) (ho : openL es (t : Int) = true) (r' : RInv (es ++ [e]) (abortT T t) W) :
    QInv (es ++ [e]) (abortT T t) W (fun x => keepO (O x) (openD (abortT T t).op 15 0)) := by
  have j := q.r.s.jj
  have hsub : ∀ c, Live (abortT T t) c → Live T c := fun c h => ((live_abort j t ho c).1 h).1
  have hwr : ∀ y : Nat, y < 4 → (keepO (O y) (openD (abortT T t).op 15 0)).wr = (holdersL (es ++ [e]) (y : Int)).2 := fun y hy => by
    refine wr_is' r' y _ ?_ fun c hc => ?_
    · show ((O y).wr &&& openD (abortT T t).op 15 0).testBit 0 = false
      rw [Nat.testBit_and, openN_0, Bool.and_false]
    · show ((O y).wr &&& openD (abortT T t).op 15 0).testBit c = true ↔ _
      rw [Nat.testBit_and, Bool.and_eq_true, openN_bit _ c hc, q.wr y hy, wr_by q.r y c hc, by_abort q.r e hsub]
  refine ⟨r', fun y hy => ?_, hwr, fun y hy u hu => ?_⟩
  · refine rd_is r' y _ ?_ fun c hc => ?_
    · show ((O y).rd &&& openD (abortT T t).op 15 0).testBit 0 = false
      rw [Nat.testBit_and, openN_0, Bool.and_false]
    · show ((O y).rd &&& openD (abortT T t).op 15 0).testBit c = true ↔ _
      rw [Nat.testBit_and, Bool.and_eq_true, openN_bit _ c hc, q.rd y hy, rd_by q.r y c hc, by_abort q.r e hsub]
  · have hu2 : u = 0 ∨ (holdersL es (y : Int)).2.testBit u = true := by
      rcases hu with h | h
      · exact Or.inl h
      · rw [← hwr y hy] at h
        have h' : ((O y).wr &&& openD (abortT T t).op 15 0).testBit u = true := h
        rw [Nat.testBit_and, Bool.and_eq_true, q.wr y hy] at h'
        exact Or.inr h'.1
    have hlu : Live (abortT T t) u := by
      rcases hu with h | h
      · exact Or.inl h
      · by_cases h0 : u = 0
        · exact Or.inl h0
        · exact ((wr_by r' y u h0).1 h).1
    show (O y).own u = _
    rw [q.own y hy u hu2]
    exact (is_same q.r r' (hsub u hlu) hlu (Or.inl (by omega)) (fun i _ _ _ _ _ => Iff.rfl)).symm

/-! ### What it is for somebody, and who keeps somebody out -/
def lineD (par : Nat → Int) : Nat → Nat → Nat → Nat
  | 0, _, acc => acc
  | i + 1, nx, acc => if i + 1 = nx then lineD par i (par (i + 1)).toNat (acc ||| bitN (i + 1)) else lineD par i nx acc

theorem lineD_bit {par : Nat → Int} {n : Nat} (hpar : ParOk par n) (c : Nat) : ∀ i, i ≤ 15 → ∀ nx, nx ≤ i → nx ≤ n → ∀ acc, ((lineD par i nx acc).testBit c = true ↔ acc.testBit c = true ∨ (c ≠ 0 ∧ c ∈ pth par nx))
  | 0, _, nx, h1, h2, acc => by
    unfold lineD
    have : nx = 0 := by omega
    subst this
    rw [pth_zero, List.mem_singleton]
    exact ⟨Or.inl, fun h => h.elim id (fun h => absurd h.2 h.1)⟩
  | i + 1, hi, nx, h1, h2, acc => by
    rw [lineD]
    by_cases e : i + 1 = nx
    · rw [if_pos e]
      have hlt := hpar (i + 1) (by omega) (by omega)
      rw [lineD_bit hpar c i (by omega) _ (by omega) (by omega), Nat.testBit_or, Bool.or_eq_true, bitN_bit, ← e, pth_step hpar (i + 1) (by omega) (by omega), List.mem_append, List.mem_singleton]
      constructor
      · rintro ((h | h) | h)
        · exact Or.inl h
        · exact Or.inr ⟨by omega, Or.inr h.1⟩
        · exact Or.inr ⟨h.1, Or.inl h.2⟩
      · rintro (h | ⟨h0, h | h⟩)
        · exact Or.inl (Or.inl h)
        · exact Or.inr ⟨h0, h⟩
        · exact Or.inl (Or.inr ⟨h, by omega, by omega⟩)
    · rw [if_neg e]
      exact lineD_bit hpar c i (by omega) nx (by omega) h2 acc

def lineN (T : Tr) (t : Nat) : Nat := lineD T.par 15 t 0

theorem line_bit {es : List Ev} {T : Tr} (j : JJ es T) (t : Nat) (ht : t ≤ T.n) (c : Nat) : (lineN T t).testBit c = true ↔ c ≠ 0 ∧ c ∈ pth T.par t := by
  unfold lineN
  rw [lineD_bit (jj_par j) c 15 (by omega) t (by have := j.n15; omega) ht, Nat.zero_testBit]
  exact ⟨fun h => h.elim (fun h => by cases h) id, Or.inr⟩

theorem lineD_lt (par : Nat → Int) : ∀ i nx acc, acc < 65536 → lineD par i nx acc < 65536
  | 0, _, _, h => by unfold lineD; exact h
  | i + 1, nx, acc, h => by
    rw [lineD]
    split
    · exact lineD_lt par i _ _ (or16 h (bitN_lt _))
    · exact lineD_lt par i _ _ h

theorem openD_lt (op : Nat → Bool) : ∀ i acc, acc < 65536 → openD op i acc < 65536
  | 0, _, h => by unfold openD; exact h
  | i + 1, acc, h => by
    rw [openD]
    refine openD_lt op i _ ?_
    split
    · exact or16 h (bitN_lt _)
    · exact h

def valD (hv : Nat) (own : Nat → Int) : Nat → Int
  | 0 => own 0
  | n + 1 => if hv.testBit (n + 1) then own (n + 1) else valD hv own n

theorem value_is {es : List Ev} {T : Tr} {W : Nat → List Nat} {O : Nat → Ob} (q : QInv es T W O) (t x : Nat) (hx : x < 4) (ht : Live T t) : valD ((O x).wr &&& lineN T t) (O x).own 15 = isL es (t : Int) (x : Int) := by
  have j := q.r.s.jj
  have htn := live_le j ht
  have h15 := j.n15
  have hb : ∀ c, ((O x).wr &&& lineN T t).testBit c = true ↔ (holdersL es (x : Int)).2.testBit c = true ∧ c ≠ 0 ∧ c ∈ pth T.par t := fun c => by
    rw [Nat.testBit_and, Bool.and_eq_true, line_bit j t htn, q.wr x hx]
  have main : ∀ n, (∀ c, n < c → ((O x).wr &&& lineN T t).testBit c = false) → valD ((O x).wr &&& lineN T t) (O x).own n = isL es (t : Int) (x : Int) := by
    intro n
    induction n with
    | zero =>
      intro hno
      rw [valD, q.own x hx 0 (Or.inl rfl)]
      refine (is_inner q.r ht (pth_has0 (jj_par j) t htn) fun c hc h0 => ?_).symm
      have := hno c h0
      rw [← Bool.not_eq_true, hb] at this
      rw [← Bool.not_eq_true]
      exact fun h => this ⟨h, by omega, hc⟩
    | succ n ih =>
      intro hno
      rw [valD]
      cases hbn : ((O x).wr &&& lineN T t).testBit (n + 1) with
      | true =>
        rw [if_pos rfl]
        obtain ⟨h1, _, h3⟩ := (hb (n + 1)).1 hbn
        rw [q.own x hx (n + 1) (Or.inr h1)]
        refine (is_inner q.r ht h3 fun c hc h0 => ?_).symm
        have := hno c h0
        rw [← Bool.not_eq_true, hb] at this
        rw [← Bool.not_eq_true]
        exact fun h => this ⟨h, by omega, hc⟩
      | false =>
        rw [if_neg (by decide)]
        refine ih fun c hc => ?_
        by_cases ec : c = n + 1
        · rw [ec]; exact hbn
        · exact hno c (by omega)
  refine main 15 fun c hc => ?_
  rw [← Bool.not_eq_true, hb]
  rintro ⟨_, _, h⟩
  have := pth_le (jj_par j) t htn c h
  omega

def outB (s line : Nat) : Bool := decide (s &&& (65535 - line) ≠ 0)

theorem out_is {es : List Ev} {T : Tr} (j : JJ es T) (t s : Nat) (ht : t ≤ T.n) (h0 : s.testBit 0 = false) : outB s (lineN T t) = strangerL es (t : Int) s := by
  have hln : lineN T t < 65536 := lineD_lt T.par 15 t 0 (by decide)
  have hb : ∀ c, (s &&& (65535 - lineN T t)).testBit c = true ↔ s.testBit c = true ∧ c < 16 ∧ ¬ (c ≠ 0 ∧ c ∈ pth T.par t) := fun c => by
    rw [Nat.testBit_and, Bool.and_eq_true, not_bit _ _ hln, Bool.and_eq_true, decide_eq_true_iff, Bool.not_eq_true', ← Bool.not_eq_true, line_bit j t ht]
  rw [Bool.eq_iff_iff]
  unfold outB strangerL
  rw [decide_eq_true_iff, List.any_eq_true]
  constructor
  · intro h
    obtain ⟨c, hc⟩ := Nat.exists_testBit_of_ne_zero h
    obtain ⟨h1, h2, h3⟩ := (hb c).1 hc
    have hc0 : c ≠ 0 := fun e => by subst e; rw [h0] at h1; cases h1
    refine ⟨c - 1, by simp; omega, ?_⟩
    rw [show c - 1 + 1 = c by omega, h1, within_pth j c t ht]
    simp
    exact fun h => h3 ⟨hc0, h⟩
  · rintro ⟨i, hi, h⟩ hz
    rw [Bool.and_eq_true, within_pth j (i + 1) t ht] at h
    have := (hb (i + 1)).2 ⟨h.1, by simp at hi; omega, fun q => by have := h.2; simp at this; exact this q.2⟩
    rw [hz, Nat.zero_testBit] at this
    cases this

end Go.Proofs.YtfdalbmopaemgabGreatDoor

namespace Go.Proofs.YtfdalbmopaemgabGreatDoor
open Go.RowKit

/-! ### Bits, in the code -/
theorem wrap_pow (t : Nat) (h1 : t ≤ 15) : IntKind.u16.wrap ((2 : Int) ^ t) = ((2 ^ t : Nat) : Int) := by
  have hp := pow16 (t := t) h1
  rw [show ((2 : Int) ^ t) = ((2 ^ t : Nat) : Int) by simp]
  generalize 2 ^ t = z at hp ⊢
  simp [IntKind.wrap, IntKind.bits, IntKind.signed]
  omega

theorem ret_u16 {a b : Int} (h : a = b) : Ending.returned (.int .u16 a) = .returned (.int .u16 b) := by rw [h]
theorem ret_i32 {a b : Int} (h : a = b) : Ending.returned (.int .i32 a) = .returned (.int .i32 b) := by rw [h]

set_option maxHeartbeats 1000000 in
theorem bit_any (t : Nat) (w : World) (ht : t ≤ 255) : Calls Tryz.prog 115 #[.int .u8 (t : Int)] w fun r w' => r = .returned (.int .u16 (bitN t : Int)) ∧ w' = w := by
  by_cases h0 : t = 0
  · subst h0
    have e1 : (((0 : Nat) : Int) == 0) = true := rfl
    go_enter Tryz.func115, Tryz.ntmps115
    go_wp2_with fail
    go_ret
    exact ⟨rfl, rfl⟩
  · have e1 : ((t : Int) == 0) = false := by simp; omega
    by_cases h15 : 15 < t
    · have e2 : (15 : Int) < (t : Int) := by omega
      have HV : Hid (bitN t = 0) := by show _ = _; unfold bitN; rw [if_pos (by omega)]
      clear h0
      go_enter Tryz.func115, Tryz.ntmps115
      go_wp2_with fail
      go_ret
      exact ⟨ret_u16 (by rw [HV.out]; rfl), rfl⟩
    · have e2 : ¬ (15 : Int) < (t : Int) := by omega
      have HV : Hid (bitN t = 2 ^ t) := by show _ = _; unfold bitN; rw [if_neg (by omega)]
      have HW := hidIt (wrap_pow t (by omega))
      clear h0
      go_enter Tryz.func115, Tryz.ntmps115
      go_wp2_with fail
      go_ret
      refine ⟨ret_u16 ?_, rfl⟩
      rw [HV.out, ← HW.out]

theorem orBit (a t : Nat) (ha : a < 65536) : bits BinOp.or IntKind.u16 (a : Int) (bitN t : Int) = ((a ||| bitN t : Nat) : Int) := u16_or_nat a _ ha (bitN_lt t)

theorem andBit (a t : Nat) (ha : a < 65536) (ht : t ≠ 0) (h15 : t ≤ 15) : (bits BinOp.and IntKind.u16 (a : Int) (bitN t : Int) != 0) = a.testBit t := by
  rw [u16_and_nat a _ ha (bitN_lt t)]
  have : (a &&& bitN t = 0) ↔ a.testBit t = false := by
    constructor
    · intro h
      have h2 := congrArg (fun z => z.testBit t) h
      simp only [Nat.testBit_and, Nat.zero_testBit] at h2
      rwa [(bitN_bit t t).2 ⟨rfl, ht, h15⟩, Bool.and_true] at h2
    · intro h
      apply Nat.eq_of_testBit_eq
      intro c
      rw [Nat.testBit_and, Nat.zero_testBit]
      by_cases hc : c = t
      · rw [hc, h, Bool.false_and]
      · have : (bitN t).testBit c = false := by rw [← Bool.not_eq_true, bitN_bit]; exact fun q => hc q.1
        rw [this, Bool.and_false]
  cases hb : a.testBit t with
  | false => rw [this.2 hb]; rfl
  | true =>
    have hne : a &&& bitN t ≠ 0 := fun h => by rw [this.1 h] at hb; cases hb
    generalize a &&& bitN t = z at hne ⊢
    simp
    omega

/-! ### The line and the open ones -/
set_option maxRecDepth 100000 in
set_option maxHeartbeats 2000000 in
theorem open_any (b : Nat) (T : Tr) (w : World) (h : TrAt w b T) :
    Calls Tryz.prog 102 #[.pointer (some ⟨b, 0, none⟩)] w fun r w' => r = .returned (.int .u16 (openD T.op 15 0 : Int)) ∧ w' = w := by
  have HT := hidIt h
  clear h
  go_enter Tryz.func102, Tryz.ntmps102
  go_wp2_with fail
  go_loop [3, 4] (fun o i => ∃ k a : Nat, k ≤ 15 ∧ i = .int .u8 (k : Int) ∧ o = .int .u16 (a : Int) ∧ a < 65536 ∧ Hid (openD T.op 15 0 = openD T.op k a)) (fun _ i => (intOf i).toNat)
  case atStart => exact ⟨15, 0, by omega, rfl, rfl, by omega, rfl⟩
  case round =>
    obtain ⟨k, a, hk, rfl, rfl, ha, HX⟩ := hrel
    by_cases hlt : 0 < k
    · have hlt' : (0 : Int) < (k : Int) := by omega
      have hlt2 : (k : Int) < 16 := by omega
      have hk0 : (0 : Int) ≤ (k : Int) := by omega
      have g1 := HT.out.op k (by omega)
      have HB := hidIt (bit_any k w (by omega))
      have HO := hidIt (orBit a k ha)
      have HL : Hid (a ||| bitN k < 65536) := or16 ha (bitN_lt k)
      have HS : Hid (openD T.op k a = openD T.op (k - 1) (if T.op k then a ||| bitN k else a)) := by
        show _ = _
        obtain ⟨j, rfl⟩ : ∃ j, k = j + 1 := ⟨k - 1, by omega⟩
        rw [openD]
        rfl
      cases ho : T.op k with
      | false =>
        rw [ho] at g1
        have HN : Hid (openD T.op 15 0 = openD T.op (k - 1) a) := by show _ = _; rw [HX.out, HS.out, ho, if_neg (by decide)]
        clear ho
        go_wp2_with fail
        go_round
        case rel => exact ⟨k - 1, a, by omega, by congr 1; go_num, rfl, ha, HN⟩
        case measure => simp [intOf]; omega
      | true =>
        rw [ho] at g1
        have HN : Hid (openD T.op 15 0 = openD T.op (k - 1) (a ||| bitN k)) := by show _ = _; rw [HX.out, HS.out, ho, if_pos rfl]
        clear ho
        go_wp2_with fail
        refine HB.out.mono ?_
        rintro r w1 ⟨rfl, rfl⟩
        go_wp2_with fail
        go_round
        case rel => exact ⟨k - 1, a ||| bitN k, by omega, by congr 1; go_num, by rw [HO.out], HL.out, HN⟩
        case measure => simp [intOf]; omega
    · have hk0 : k = 0 := by omega
      subst hk0
      have HN : Hid (openD T.op 15 0 = a) := by show _ = _; rw [HX.out, openD]
      go_wp2_with fail
      go_ret
      exact ⟨ret_u16 (by rw [HN.out]), rfl⟩

set_option maxRecDepth 100000 in
set_option maxHeartbeats 2000000 in
theorem line_any (b t : Nat) (T : Tr) (w : World) (h : TrAt w b T) (ht : t ≤ 15) (hpar : ∀ i, i ≤ 15 → 0 ≤ T.par i ∧ T.par i ≤ 255) :
    Calls Tryz.prog 112 #[.pointer (some ⟨b, 0, none⟩), .int .u8 (t : Int)] w fun r w' => r = .returned (.int .u16 (lineN T t : Int)) ∧ w' = w := by
  have HT := hidIt h
  have HP := hidIt hpar
  clear h hpar
  go_enter Tryz.func112, Tryz.ntmps112
  go_wp2_with fail
  go_loop [5, 6, 7] (fun o n i => ∃ k a nx : Nat, k ≤ 15 ∧ nx ≤ 255 ∧ i = .int .u8 (k : Int) ∧ o = .int .u16 (a : Int) ∧ n = .int .u8 (nx : Int) ∧ a < 65536 ∧ Hid (lineN T t = lineD T.par k nx a)) (fun _ _ i => (intOf i).toNat)
  case atStart => exact ⟨15, 0, t, by omega, by omega, rfl, rfl, rfl, by omega, rfl⟩
  case round =>
    obtain ⟨k, a, nx, hk, hnx, rfl, rfl, rfl, ha, HX⟩ := hrel
    by_cases hlt : 0 < k
    · have hlt' : (0 : Int) < (k : Int) := by omega
      have hlt2 : (k : Int) < 16 := by omega
      have hk0 : (0 : Int) ≤ (k : Int) := by omega
      have g1 := HT.out.par k (by omega)
      obtain ⟨p, hp⟩ : ∃ p : Nat, T.par k = (p : Int) := ⟨(T.par k).toNat, by have := (HP.out k (by omega)).1; omega⟩
      have hp255 : p ≤ 255 := by have := (HP.out k (by omega)).2; omega
      rw [hp] at g1
      have HB := hidIt (bit_any k w (by omega))
      have HO := hidIt (orBit a k ha)
      have HL : Hid (a ||| bitN k < 65536) := or16 ha (bitN_lt k)
      have HS : Hid (lineD T.par k nx a = if k = nx then lineD T.par (k - 1) p (a ||| bitN k) else lineD T.par (k - 1) nx a) := by
        show _ = _
        obtain ⟨j, rfl⟩ : ∃ j, k = j + 1 := ⟨k - 1, by omega⟩
        rw [lineD, hp]
        rfl
      clear hp
      by_cases he : k = nx
      · have e1 : ((k : Int) == (nx : Int)) = true := by simp; omega
        have HN : Hid (lineN T t = lineD T.par (k - 1) p (a ||| bitN k)) := by show _ = _; rw [HX.out, HS.out, if_pos he]
        clear he
        go_wp2_with fail
        refine HB.out.mono ?_
        rintro r w1 ⟨rfl, rfl⟩
        go_wp2_with fail
        go_round
        case rel => exact ⟨k - 1, a ||| bitN k, p, by omega, hp255, by congr 1; go_num, by rw [HO.out], rfl, HL.out, HN⟩
        case measure => simp [intOf]; omega
      · have e1 : ((k : Int) == (nx : Int)) = false := by simp; omega
        have HN : Hid (lineN T t = lineD T.par (k - 1) nx a) := by show _ = _; rw [HX.out, HS.out, if_neg he]
        clear he
        go_wp2_with fail
        go_round
        case rel => exact ⟨k - 1, a, nx, by omega, hnx, by congr 1; go_num, rfl, rfl, ha, HN⟩
        case measure => simp [intOf]; omega
    · have hk0 : k = 0 := by omega
      subst hk0
      have HN : Hid (lineN T t = a) := by show _ = _; rw [HX.out, lineD]
      go_wp2_with fail
      go_ret
      exact ⟨ret_u16 (by rw [HN.out]), rfl⟩

end Go.Proofs.YtfdalbmopaemgabGreatDoor

namespace Go.Proofs.YtfdalbmopaemgabGreatDoor
open Go.RowKit

/-! ### An object in memory -/
structure ObAt (w : World) (b o : Nat) (x : Ob) : Prop where
  rd : w.cell? ⟨b, o, none⟩ = some (.int .u16 (x.rd : Int))
  wr : w.cell? ⟨b, o + 1, none⟩ = some (.int .u16 (x.wr : Int))
  own : ∀ i, i ≤ 15 → w.cell? ⟨b, o + 2 + i, none⟩ = some (.int .i32 (x.own i))

theorem set_other (w : World) (b o o' : Nat) (v : Value) (h : o' ≠ o) : (w.setCell ⟨b, o, none⟩ v).cell? ⟨b, o', none⟩ = w.cell? ⟨b, o', none⟩ :=
  World.cell?_setCell_other _ _ _ _ (by intro e; injection e with _ e2 _; exact h e2.symm)

theorem ObAt.setRd {w : World} {b o : Nat} {x : Ob} (h : ObAt w b o x) (a : Nat) : ObAt (w.setCell ⟨b, o, none⟩ (.int .u16 (a : Int))) b o ⟨a, x.wr, x.own⟩ :=
  ⟨World.cell?_setCell_same _ _ _ h.rd, by rw [set_other _ _ _ _ _ (by omega)]; exact h.wr, fun i hi => by rw [set_other _ _ _ _ _ (by omega)]; exact h.own i hi⟩

theorem ObAt.setWr {w : World} {b o : Nat} {x : Ob} (h : ObAt w b o x) (a : Nat) : ObAt (w.setCell ⟨b, o + 1, none⟩ (.int .u16 (a : Int))) b o ⟨x.rd, a, x.own⟩ :=
  ⟨by rw [set_other _ _ _ _ _ (by omega)]; exact h.rd, World.cell?_setCell_same _ _ _ h.wr, fun i hi => by rw [set_other _ _ _ _ _ (by omega)]; exact h.own i hi⟩

theorem ObAt.setOwn {w : World} {b o : Nat} {x : Ob} (h : ObAt w b o x) (t : Nat) (ht : t ≤ 15) (v : Int) : ObAt (w.setCell ⟨b, o + 2 + t, none⟩ (.int .i32 v)) b o ⟨x.rd, x.wr, upd x.own t v⟩ := by
  refine ⟨by rw [set_other _ _ _ _ _ (by omega)]; exact h.rd, by rw [set_other _ _ _ _ _ (by omega)]; exact h.wr, fun i hi => ?_⟩
  show _ = some (Value.int .i32 (upd x.own t v i))
  unfold upd
  by_cases e : i = t
  · subst e; rw [if_pos rfl]; exact World.cell?_setCell_same _ _ _ (h.own i hi)
  · rw [if_neg e, set_other _ _ _ _ _ (by omega)]; exact h.own i hi

/-- Of the block b only the cells from lo up to hi have changed. -/
structure OnlyC (w w' : World) (b lo hi : Nat) : Prop where
  below : Below b w w'
  size : w'.heap.size = w.heap.size
  rest : ∀ k, k ≠ b → w'.heap[k]? = w.heap[k]?
  cells : ∀ o, (o < lo ∨ hi ≤ o) → w'.cell? ⟨b, o, none⟩ = w.cell? ⟨b, o, none⟩
  fz : ∀ o, w'.frozen? ⟨b, o, none⟩ = w.frozen? ⟨b, o, none⟩

theorem OnlyC.refl (w : World) (b lo hi : Nat) : OnlyC w w b lo hi := ⟨Below.refl _ _, rfl, fun _ _ => rfl, fun _ _ => rfl, fun _ => rfl⟩
theorem OnlyC.set {a w : World} {b lo hi : Nat} (h : OnlyC a w b lo hi) (o : Nat) (h1 : lo ≤ o) (h2 : o < hi) (v : Value) : OnlyC a (w.setCell ⟨b, o, none⟩ v) b lo hi :=
  ⟨h.below.setCell (p := ⟨b, o, none⟩) (Nat.le_refl _) _, by simpa using h.size, fun k hk => by rw [Below.heap_setCell _ ⟨b, o, none⟩ _ _ hk]; exact h.rest k hk,
   fun o' ho' => by rw [set_other _ _ _ _ _ (by omega)]; exact h.cells o' ho', fun o' => by rw [World.frozen?_setCell]; exact h.fz o'⟩
theorem OnlyC.drewN {a w : World} {b lo hi : Nat} (h : OnlyC a w b lo hi) (n : Nat) : OnlyC a (w.drewN n) b lo hi := ⟨below_drewN h.below n, h.size, h.rest, h.cells, h.fz⟩
theorem OnlyC.drew {a w : World} {b lo hi : Nat} (h : OnlyC a w b lo hi) : OnlyC a w.drew b lo hi := h.drewN 1
theorem OnlyC.trans {w w' w'' : World} {b lo hi : Nat} (h : OnlyC w w' b lo hi) (h' : OnlyC w' w'' b lo hi) : OnlyC w w'' b lo hi :=
  ⟨h.below.trans h'.below, h'.size.trans h.size, fun k hk => (h'.rest k hk).trans (h.rest k hk), fun o ho => (h'.cells o ho).trans (h.cells o ho), fun o => (h'.fz o).trans (h.fz o)⟩
theorem OnlyC.wide {w w' : World} {b lo hi lo' hi' : Nat} (h : OnlyC w w' b lo hi) (h1 : lo' ≤ lo) (h2 : hi ≤ hi') : OnlyC w w' b lo' hi' :=
  ⟨h.below, h.size, h.rest, fun o ho => h.cells o (by omega), h.fz⟩

theorem ObAt.drewN {w : World} {b o : Nat} {x : Ob} (h : ObAt w b o x) (n : Nat) : ObAt (w.drewN n) b o x := ⟨h.rd, h.wr, h.own⟩
theorem ObAt.drew {w : World} {b o : Nat} {x : Ob} (h : ObAt w b o x) : ObAt w.drew b o x := ⟨h.rd, h.wr, h.own⟩
theorem ObAt.stay {w w' : World} {b o lo hi : Nat} {x : Ob} (h : ObAt w b o x) (hh : OnlyC w w' b lo hi) (ho : o + 18 ≤ lo ∨ hi ≤ o) : ObAt w' b o x :=
  ⟨by rw [hh.cells _ (by omega)]; exact h.rd, by rw [hh.cells _ (by omega)]; exact h.wr, fun i hi' => by rw [hh.cells _ (by omega)]; exact h.own i hi'⟩
theorem TrAt.stay {w w' : World} {b lo hi : Nat} {T : Tr} (h : TrAt w b T) (hh : OnlyC w w' b lo hi) (ho : 33 ≤ lo) : TrAt w' b T :=
  ⟨by rw [hh.cells _ (by omega)]; exact h.n, fun i hi' => by rw [hh.cells _ (by omega)]; exact h.par i hi', fun i hi' => by rw [hh.cells _ (by omega)]; exact h.op i hi', fun o => by rw [hh.fz]; exact h.fz o, by rw [hh.size]; exact h.lt⟩
theorem EvAt.stay {w w' : World} {b o lo hi : Nat} {e : Ev} (h : EvAt w b o e) (hh : OnlyC w w' b lo hi) (ho : o + 5 ≤ lo ∨ hi ≤ o) : EvAt w' b o e :=
  ⟨by rw [hh.cells _ (by omega)]; exact h.c0, by rw [hh.cells _ (by omega)]; exact h.c1, by rw [hh.cells _ (by omega)]; exact h.c2, by rw [hh.cells _ (by omega)]; exact h.c3, by rw [hh.cells _ (by omega)]; exact h.c4⟩

theorem Only1.toC {w w' : World} {b : Nat} (h : Only1 w w' b) (hf : ∀ o, w.frozen? ⟨b, o, none⟩ = false) (hf' : ∀ o, w'.frozen? ⟨b, o, none⟩ = false) : OnlyC w w' b 0 33 :=
  ⟨h.below, h.size, h.rest, fun o ho => h.cells o (by omega), fun o => by rw [hf, hf']⟩

/-! ### A store in memory -/
def evZ : Ev := ⟨0, 0, 0, 0, 0⟩
def evF (es : List Ev) (i : Nat) : Ev := es.getD i evZ

structure StAt (w : World) (b : Nat) (T : Tr) (O : Nat → Ob) (es : List Ev) : Prop where
  tr : TrAt w b T
  ob : ∀ x, x < 4 → ObAt w b (33 + x * 18) (O x)
  ev : ∀ i, i < 60 → EvAt w b (105 + i * 5) (evF es i)
  n : w.cell? ⟨b, 405, none⟩ = some (.int .i64 (es.length : Int))

theorem StAt.of_heap {w w' : World} {b : Nat} {T : Tr} {O : Nat → Ob} {es : List Ev} (h : StAt w b T O es) (hh : w'.heap[b]? = w.heap[b]?) (hz : w.heap.size ≤ w'.heap.size) : StAt w' b T O es := by
  have hc : ∀ o, w'.cell? ⟨b, o, none⟩ = w.cell? ⟨b, o, none⟩ := fun o => World.cell?_of_block (a := ⟨b, o, none⟩) hh
  exact ⟨h.tr.of_heap hh hz, fun x hx => ⟨by rw [hc]; exact (h.ob x hx).rd, by rw [hc]; exact (h.ob x hx).wr, fun i hi => by rw [hc]; exact (h.ob x hx).own i hi⟩,
    fun i hi => ⟨by rw [hc]; exact (h.ev i hi).c0, by rw [hc]; exact (h.ev i hi).c1, by rw [hc]; exact (h.ev i hi).c2, by rw [hc]; exact (h.ev i hi).c3, by rw [hc]; exact (h.ev i hi).c4⟩, by rw [hc]; exact h.n⟩

theorem StAt.drewN {w : World} {b : Nat} {T : Tr} {O : Nat → Ob} {es : List Ev} (h : StAt w b T O es) (n : Nat) : StAt (w.drewN n) b T O es := h.of_heap rfl (Nat.le_refl _)
theorem StAt.drew {w : World} {b : Nat} {T : Tr} {O : Nat → Ob} {es : List Ev} (h : StAt w b T O es) : StAt w.drew b T O es := h.of_heap rfl (Nat.le_refl _)

/-- The tree has changed. -/
theorem StAt.setTr {w w' : World} {b : Nat} {T T' : Tr} {O : Nat → Ob} {es : List Ev} (h : StAt w b T O es) (ht : TrAt w' b T') (hh : Only1 w w' b) : StAt w' b T' O es := by
  have hc := hh.toC h.tr.fz ht.fz
  exact ⟨ht, fun x hx => (h.ob x hx).stay hc (by omega), fun i hi => (h.ev i hi).stay hc (by omega), by rw [hc.cells _ (by omega)]; exact h.n⟩

/-- An object has changed. -/
theorem StAt.setOb {w w' : World} {b : Nat} {T : Tr} {O : Nat → Ob} {es : List Ev} (h : StAt w b T O es) (x : Nat) (hx : x < 4) (o' : Ob) (ho : ObAt w' b (33 + x * 18) o') (hh : OnlyC w w' b (33 + x * 18) (33 + x * 18 + 18)) : StAt w' b T (upd O x o') es := by
  refine ⟨h.tr.stay hh (by omega), fun y hy => ?_, fun i hi => (h.ev i hi).stay hh (by omega), by rw [hh.cells _ (by omega)]; exact h.n⟩
  unfold upd
  by_cases e : y = x
  · subst e; rw [if_pos rfl]; exact ho
  · rw [if_neg e]; exact (h.ob y hy).stay hh (by omega)

/-- An event more. -/
def addW (w : World) (b n : Nat) (e : Ev) : World := (store5 w b (105 + n * 5) e).setCell ⟨b, 405, none⟩ (.int .i64 ((n : Int) + 1))

theorem store5_at (w : World) (b o : Nat) (e : Ev) (x : Ev) (h : EvAt w b o x) : EvAt (store5 w b o e) b o e := by
  unfold store5
  refine ⟨?_, ?_, ?_, ?_, ?_⟩
  · rw [set_other _ _ _ _ _ (by omega), set_other _ _ _ _ _ (by omega), set_other _ _ _ _ _ (by omega), set_other _ _ _ _ _ (by omega)]
    exact World.cell?_setCell_same _ _ _ h.c0
  · rw [set_other _ _ _ _ _ (by omega), set_other _ _ _ _ _ (by omega), set_other _ _ _ _ _ (by omega)]
    exact World.cell?_setCell_same _ _ _ (by rw [set_other _ _ _ _ _ (by omega)]; exact h.c1)
  · rw [set_other _ _ _ _ _ (by omega), set_other _ _ _ _ _ (by omega)]
    exact World.cell?_setCell_same _ _ _ (by rw [set_other _ _ _ _ _ (by omega), set_other _ _ _ _ _ (by omega)]; exact h.c2)
  · rw [set_other _ _ _ _ _ (by omega)]
    exact World.cell?_setCell_same _ _ _ (by rw [set_other _ _ _ _ _ (by omega), set_other _ _ _ _ _ (by omega), set_other _ _ _ _ _ (by omega)]; exact h.c3)
  · exact World.cell?_setCell_same _ _ _ (by rw [set_other _ _ _ _ _ (by omega), set_other _ _ _ _ _ (by omega), set_other _ _ _ _ _ (by omega), set_other _ _ _ _ _ (by omega)]; exact h.c4)

theorem store5_only (w : World) (b o : Nat) (e : Ev) : OnlyC w (store5 w b o e) b o (o + 5) := by
  unfold store5
  exact (((((OnlyC.refl w b o (o + 5)).set o (by omega) (by omega) _).set (o + 1) (by omega) (by omega) _).set (o + 2) (by omega) (by omega) _).set (o + 3) (by omega) (by omega) _).set (o + 4) (by omega) (by omega) _

theorem evF_snoc (es : List Ev) (e : Ev) (i : Nat) : evF (es ++ [e]) i = if i = es.length then e else evF es i := by
  unfold evF
  rw [List.getD_eq_getElem?_getD, List.getD_eq_getElem?_getD]
  by_cases h : i = es.length
  · subst h; simp
  · rw [if_neg h]
    by_cases hl : i < es.length
    · rw [List.getElem?_append_left hl]
    · rw [List.getElem?_eq_none (by simp; omega), List.getElem?_eq_none (by omega)]

theorem StAt.addEv {w : World} {b : Nat} {T : Tr} {O : Nat → Ob} {es : List Ev} (h : StAt w b T O es) (e : Ev) (hl : es.length < 60) : StAt (addW w b es.length e) b T O (es ++ [e]) := by
  have h1 := store5_only w b (105 + es.length * 5) e
  have h2 : OnlyC (store5 w b (105 + es.length * 5) e) (addW w b es.length e) b 405 406 := (OnlyC.refl _ _ _ _).set 405 (by omega) (by omega) _
  refine ⟨(h.tr.stay h1 (by omega)).stay h2 (by omega), fun x hx => ((h.ob x hx).stay h1 (by omega)).stay h2 (by omega), fun i hi => ?_, ?_⟩
  · rw [evF_snoc]
    by_cases e' : i = es.length
    · rw [if_pos e', e']
      exact (store5_at w b _ e _ (h.ev es.length hl)).stay h2 (by omega)
    · rw [if_neg e']
      exact ((h.ev i hi).stay h1 (by omega)).stay h2 (by omega)
  · unfold addW
    rw [World.cell?_setCell_same _ _ _ (u := .int .i64 (es.length : Int)) (by rw [h1.cells _ (by omega)]; exact h.n)]
    simp

theorem addW_only (w : World) (b n : Nat) (e : Ev) (hn : n < 60) : OnlyC w (addW w b n e) b 105 406 :=
  ((store5_only w b (105 + n * 5) e).wide (by omega) (by omega)).set 405 (by omega) (by omega) _

/-- What a step leaves of the rest. -/
structure OnlyB (w w' : World) (b : Nat) : Prop where
  below : Below b w w'
  size : w'.heap.size = w.heap.size
  rest : ∀ k, k ≠ b → w'.heap[k]? = w.heap[k]?

theorem OnlyB.refl (w : World) (b : Nat) : OnlyB w w b := ⟨Below.refl _ _, rfl, fun _ _ => rfl⟩
theorem OnlyB.drewN {a w : World} {b : Nat} (h : OnlyB a w b) (n : Nat) : OnlyB a (w.drewN n) b := ⟨below_drewN h.below n, h.size, h.rest⟩
theorem OnlyB.drew {a w : World} {b : Nat} (h : OnlyB a w b) : OnlyB a w.drew b := h.drewN 1
theorem OnlyB.trans {w w' w'' : World} {b : Nat} (h : OnlyB w w' b) (h' : OnlyB w' w'' b) : OnlyB w w'' b :=
  ⟨h.below.trans h'.below, h'.size.trans h.size, fun k hk => (h'.rest k hk).trans (h.rest k hk)⟩
theorem OnlyC.toB {w w' : World} {b lo hi : Nat} (h : OnlyC w w' b lo hi) : OnlyB w w' b := ⟨h.below, h.size, h.rest⟩
theorem Only1.toB {w w' : World} {b : Nat} (h : Only1 w w' b) : OnlyB w w' b := ⟨h.below, h.size, h.rest⟩

end Go.Proofs.YtfdalbmopaemgabGreatDoor

namespace Go.Proofs.YtfdalbmopaemgabGreatDoor
open Go.RowKit

/-! ### The object's methods -/
def ObPost (w : World) (b o : Nat) (x : Ob) (r : Ending) (w' : World) : Prop := r = .returned (.tuple #[]) ∧ ObAt w' b o x ∧ OnlyC w w' b o (o + 18)

set_option maxRecDepth 100000 in
set_option maxHeartbeats 1000000 in
theorem holdRead_any (b o t : Nat) (x : Ob) (w : World) (h : ObAt w b o x) (hf : ∀ o, w.frozen? ⟨b, o, none⟩ = false) (ht : t ≤ 15) (hr : x.rd < 65536) :
    Calls Tryz.prog 94 #[.pointer (some ⟨b, o, none⟩), .int .u8 (t : Int)] w (ObPost w b o ⟨x.rd ||| bitN t, x.wr, x.own⟩) := by
  have g0 := h.rd
  have HO := hidIt (orBit x.rd t hr)
  have HF := hidIt (h.setRd (x.rd ||| bitN t))
  have HC : Hid (OnlyC w (w.setCell ⟨b, o, none⟩ (.int .u16 ((x.rd ||| bitN t : Nat) : Int))) b o (o + 18)) := (OnlyC.refl _ _ _ _).set o (by omega) (by omega) _
  clear h
  go_enter Tryz.func94, Tryz.ntmps94
  go_region_with (go_at_call 115; refine (bit_any t _ (by omega)).mono ?_; rintro r w4 ⟨rfl, rfl⟩)
  all_goals (go_wp2_with fail; go_end0; rw [HO.out]; exact ⟨rfl, HF.out.drew, HC.out.drew⟩)

set_option maxRecDepth 100000 in
set_option maxHeartbeats 1000000 in
theorem write_any (b o t : Nat) (v : Int) (x : Ob) (w : World) (h : ObAt w b o x) (hf : ∀ o, w.frozen? ⟨b, o, none⟩ = false) (ht : t ≤ 15) (hr : x.wr < 65536) :
    Calls Tryz.prog 95 #[.pointer (some ⟨b, o, none⟩), .int .u8 (t : Int), .int .i32 v] w (ObPost w b o ⟨x.rd, x.wr ||| bitN t, upd x.own t v⟩) := by
  have g0 := h.wr
  have g1 := h.own t ht
  have h16 : (t : Int) < 16 := by omega
  have HO := hidIt (orBit x.wr t hr)
  have HF := hidIt ((h.setWr (x.wr ||| bitN t)).setOwn t ht v)
  have HC : Hid (OnlyC w ((w.setCell ⟨b, o + 1, none⟩ (.int .u16 ((x.wr ||| bitN t : Nat) : Int))).setCell ⟨b, o + 2 + t, none⟩ (.int .i32 v)) b o (o + 18)) := ((OnlyC.refl _ _ _ _).set (o + 1) (by omega) (by omega) _).set (o + 2 + t) (by omega) (by omega) _
  clear h
  go_enter Tryz.func95, Tryz.ntmps95
  go_wp2_with fail
  go_region_with (go_at_call 115; refine (bit_any t _ (by omega)).mono ?_; rintro r w4 ⟨rfl, rfl⟩)
  all_goals (go_wp2_with fail; go_end0; rw [HO.out]; exact ⟨rfl, HF.out.drew, HC.out.drew⟩)

set_option maxRecDepth 100000 in
set_option maxHeartbeats 1000000 in
theorem keepOnly_any (b o m : Nat) (x : Ob) (w : World) (h : ObAt w b o x) (hf : ∀ o, w.frozen? ⟨b, o, none⟩ = false) (hm : m < 65536) (hr : x.rd < 65536) (hw : x.wr < 65536) :
    Calls Tryz.prog 103 #[.pointer (some ⟨b, o, none⟩), .int .u16 (m : Int)] w (ObPost w b o (keepO x m)) := by
  have g0 := h.rd
  have g1 := h.wr
  have HO := hidIt (u16_and_nat x.rd m hr hm)
  have HO2 := hidIt (u16_and_nat x.wr m hw hm)
  have HF : Hid (ObAt ((w.setCell ⟨b, o, none⟩ (.int .u16 ((x.rd &&& m : Nat) : Int))).setCell ⟨b, o + 1, none⟩ (.int .u16 ((x.wr &&& m : Nat) : Int))) b o (keepO x m)) := (h.setRd (x.rd &&& m)).setWr (x.wr &&& m)
  have HC : Hid (OnlyC w ((w.setCell ⟨b, o, none⟩ (.int .u16 ((x.rd &&& m : Nat) : Int))).setCell ⟨b, o + 1, none⟩ (.int .u16 ((x.wr &&& m : Nat) : Int))) b o (o + 18)) := ((OnlyC.refl _ _ _ _).set o (by omega) (by omega) _).set (o + 1) (by omega) (by omega) _
  clear h
  go_enter Tryz.func103, Tryz.ntmps103
  go_wp2_with fail
  go_end0
  rw [HO.out, HO2.out]
  exact ⟨rfl, HF.out, HC.out⟩

set_option maxRecDepth 100000 in
set_option maxHeartbeats 1000000 in
theorem keepsOut_any (b o ln : Nat) (x : Ob) (wr : Bool) (w : World) (h : ObAt w b o x) (hm : ln < 65536) (hr : x.rd < 65536) (hw : x.wr < 65536) :
    Calls Tryz.prog 113 #[.pointer (some ⟨b, o, none⟩), .int .u16 (ln : Int), .bool wr] w fun r w' => r = .returned (.bool (outB (if wr then x.wr ||| x.rd else x.wr) ln)) ∧ w' = w := by
  have g0 := h.rd
  have g1 := h.wr
  have HO := hidIt (u16_or_nat x.wr x.rd hw hr)
  have HA := hidIt (u16_andNot_nat (x.wr ||| x.rd) ln (or16 hw hr) hm)
  have HB := hidIt (u16_andNot_nat x.wr ln hw hm)
  have HZ : Hid (∀ z : Nat, ((z : Int) != 0) = decide (z ≠ 0)) := fun z => by
    by_cases h : z = 0
    · subst h; rfl
    · rw [decide_eq_true h]; simp; omega
  clear h
  cases wr with
  | true =>
    go_enter Tryz.func113, Tryz.ntmps113
    go_wp2_with fail
    go_ret
    exact ⟨ret_bool (by rw [HO.out, HA.out, HZ.out]; rfl), rfl⟩
  | false =>
    go_enter Tryz.func113, Tryz.ntmps113
    go_wp2_with fail
    go_ret
    exact ⟨ret_bool (by rw [HB.out, HZ.out]; rfl), rfl⟩

set_option maxRecDepth 100000 in
set_option maxHeartbeats 2000000 in
theorem ovalue_any (b o ln : Nat) (x : Ob) (w : World) (h : ObAt w b o x) (hm : ln < 65536) (hw : x.wr < 65536) :
    Calls Tryz.prog 114 #[.pointer (some ⟨b, o, none⟩), .int .u16 (ln : Int)] w fun r w' => r = .returned (.int .i32 (valD (x.wr &&& ln) x.own 15)) ∧ w' = w := by
  have g1 := h.wr
  have HA := hidIt (u16_and_nat x.wr ln hw hm)
  have HL : Hid (x.wr &&& ln < 65536) := Nat.lt_of_le_of_lt Nat.and_le_left hw
  have HH := hidIt h
  have g00 := h.own 0 (by omega)
  clear h
  go_enter Tryz.func114, Tryz.ntmps114
  go_wp2_with fail
  rw [HA.out]
  go_loop [6] (fun i => ∃ k : Nat, k ≤ 15 ∧ i = .int .u8 (k : Int) ∧ Hid (valD (x.wr &&& ln) x.own 15 = valD (x.wr &&& ln) x.own k)) (fun i => (intOf i).toNat)
  case atStart => exact ⟨15, by omega, rfl, rfl⟩
  case round =>
    obtain ⟨k, hk, rfl, HX⟩ := hrel
    by_cases hlt : 0 < k
    · have hlt' : (0 : Int) < (k : Int) := by omega
      have hlt2 : (k : Int) < 16 := by omega
      have hk0 : (0 : Int) ≤ (k : Int) := by omega
      have g2 := HH.out.own k (by omega)
      have HB := hidIt (bit_any k w (by omega))
      have HO := hidIt (andBit (x.wr &&& ln) k HL.out (by omega) (by omega))
      have HS : Hid (valD (x.wr &&& ln) x.own k = if (x.wr &&& ln).testBit k then x.own k else valD (x.wr &&& ln) x.own (k - 1)) := by
        show _ = _
        obtain ⟨j, rfl⟩ : ∃ j, k = j + 1 := ⟨k - 1, by omega⟩
        rw [valD]
        rfl
      cases hb : (x.wr &&& ln).testBit k with
      | true =>
        have HN : Hid (valD (x.wr &&& ln) x.own 15 = x.own k) := by show _ = _; rw [HX.out, HS.out, hb, if_pos rfl]
        rw [hb] at HO
        have e1 := HO.out
        go_wp2_with fail
        refine HB.out.mono ?_
        rintro r w1 ⟨rfl, rfl⟩
        go_wp2_with fail
        go_ret
        exact ⟨ret_i32 (by rw [HN.out]), rfl⟩
      | false =>
        have HN : Hid (valD (x.wr &&& ln) x.own 15 = valD (x.wr &&& ln) x.own (k - 1)) := by show _ = _; rw [HX.out, HS.out, hb, if_neg (by decide)]
        rw [hb] at HO
        have e1 := HO.out
        go_wp2_with fail
        refine HB.out.mono ?_
        rintro r w1 ⟨rfl, rfl⟩
        go_wp2_with fail
        go_round
        case rel => exact ⟨k - 1, by omega, by congr 1; go_num, HN⟩
        case measure => simp [intOf]; omega
    · have hk0 : k = 0 := by omega
      subst hk0
      have HN : Hid (valD (x.wr &&& ln) x.own 15 = x.own 0) := by show _ = _; rw [HX.out, valD]
      go_wp2_with fail
      go_ret
      exact ⟨ret_i32 (by rw [HN.out]), rfl⟩

end Go.Proofs.YtfdalbmopaemgabGreatDoor
