import Derived.Test.YtfdalbmopaemgabZT6
namespace Go.Proofs.Ytfdalbmopaemgab
open Go.RowKit

/-! ### What a store keeps beside its events: for each object who holds it, by bits, and what it is for each one that has it -/
structure Ob where
  rd : Nat
  wr : Nat
  own : Nat → Int

structure QInv (es : List Ev) (T : Tr) (W : Nat → List Nat) (O : Nat → Ob) : Prop where
  r : RInv es T W
  rd : ∀ x : Nat, x < 4 → (O x).rd = (holdersL es (x : Int)).1
  wr : ∀ x : Nat, x < 4 → (O x).wr = (holdersL es (x : Int)).2
  own : ∀ x : Nat, x < 4 → ∀ u : Nat, (u = 0 ∨ (holdersL es (x : Int)).2.testBit u = true) → (O x).own u = isL es (u : Int) (x : Int)

theorem QInv.start : QInv [] tr0 (fun _ => []) (fun _ => ⟨0, 0, fun _ => 0⟩) :=
  ⟨RInv.start, fun _ _ => rfl, fun _ _ => rfl, fun _ _ _ _ => rfl⟩

/-! ### Who has an event of a sort -/
def By (es : List Ev) (T : Tr) (W : Nat → List Nat) (P : Ev → Prop) (c : Nat) : Prop := Live T c ∧ ∃ q ∈ W c, ∃ e : Ev, es[q]? = some e ∧ P e

def RdP (x : Nat) (e : Ev) : Prop := e.k = 2 ∧ e.a = (x : Int)
def WrP (x : Nat) (e : Ev) : Prop := e.k ≠ 2 ∧ e.a = (x : Int)

theorem rd_by {es : List Ev} {T : Tr} {W : Nat → List Nat} (r : RInv es T W) (x c : Nat) (hc : c ≠ 0) : (holdersL es (x : Int)).1.testBit c = true ↔ By es T W (RdP x) c := (held_iff r (x : Int) c hc).1
theorem wr_by {es : List Ev} {T : Tr} {W : Nat → List Nat} (r : RInv es T W) (x c : Nat) (hc : c ≠ 0) : (holdersL es (x : Int)).2.testBit c = true ↔ By es T W (WrP x) c := (held_iff r (x : Int) c hc).2

theorem bits0 {es : List Ev} {T : Tr} {W : Nat → List Nat} (r : RInv es T W) (x : Int) : (holdersL es x).1.testBit 0 = false ∧ (holdersL es x).2.testBit 0 = false := by
  rw [holdersL_K]
  exact bit0 (low15 r.s.jj) x _ (Nat.le_refl _)

/-- Bits that say the same of all but 0, and nothing of 0. -/
theorem rd_is {es : List Ev} {T : Tr} {W : Nat → List Nat} (r : RInv es T W) (x a : Nat) (h0 : a.testBit 0 = false) (h : ∀ c, c ≠ 0 → (a.testBit c = true ↔ By es T W (RdP x) c)) : a = (holdersL es (x : Int)).1 := by
  apply Nat.eq_of_testBit_eq
  intro c
  by_cases hc : c = 0
  · subst hc; rw [h0, (bits0 r _).1]
  · rw [Bool.eq_iff_iff, h c hc, rd_by r x c hc]

theorem wr_is' {es : List Ev} {T : Tr} {W : Nat → List Nat} (r : RInv es T W) (x a : Nat) (h0 : a.testBit 0 = false) (h : ∀ c, c ≠ 0 → (a.testBit c = true ↔ By es T W (WrP x) c)) : a = (holdersL es (x : Int)).2 := by
  apply Nat.eq_of_testBit_eq
  intro c
  by_cases hc : c = 0
  · subst hc; rw [h0, (bits0 r _).2]
  · rw [Bool.eq_iff_iff, h c hc, wr_by r x c hc]

theorem RInv.wlt {es : List Ev} {T : Tr} {W : Nat → List Nat} (r : RInv es T W) (c : Nat) : ∀ p ∈ W c, p < es.length := fun p hp => (r.s.gi.pl c p hp).lt

theorem by_access {es : List Ev} {T : Tr} {W : Nat → List Nat} (r : RInv es T W) (e : Ev) (t : Nat) (ht : Live T t) (P : Ev → Prop) (c : Nat) : By (es ++ [e]) T (upd W t (W t ++ [es.length])) P c ↔ By es T W P c ∨ (c = t ∧ P e) := by
  have hget : ∀ q, q < es.length → (es ++ [e])[q]? = es[q]? := fun q hq => List.getElem?_append_left hq
  have hnew : (es ++ [e])[es.length]? = some e := by simp
  constructor
  · rintro ⟨hl, q, hq, e', he', hp⟩
    unfold upd at hq
    by_cases ec : c = t
    · rw [if_pos ec, List.mem_append, List.mem_singleton] at hq
      rcases hq with hq | hq
      · rw [hget q (r.wlt t q hq)] at he'
        exact Or.inl ⟨hl, q, by rw [ec]; exact hq, e', he', hp⟩
      · subst hq
        rw [hnew] at he'
        cases he'
        exact Or.inr ⟨ec, hp⟩
    · rw [if_neg ec] at hq
      rw [hget q (r.wlt c q hq)] at he'
      exact Or.inl ⟨hl, q, hq, e', he', hp⟩
  · rintro (⟨hl, q, hq, e', he', hp⟩ | ⟨rfl, hp⟩)
    · refine ⟨hl, q, ?_, e', by rw [hget q (r.wlt c q hq)]; exact he', hp⟩
      unfold upd
      by_cases ec : c = t
      · rw [if_pos ec, List.mem_append, ← ec]; exact Or.inl hq
      · rw [if_neg ec]; exact hq
    · refine ⟨ht, es.length, ?_, e, hnew, hp⟩
      unfold upd
      rw [if_pos rfl]
      simp

theorem live_begin {T : Tr} (p : Int) (hn : T.n < 15) (c : Nat) : Live (beginT T p) c ↔ Live T c ∨ c = T.n + 1 := by
  unfold Live beginT upd
  simp only
  by_cases ec : c = T.n + 1
  · rw [if_pos ec]
    exact ⟨fun _ => Or.inr ec, fun _ => Or.inr ⟨by omega, by omega, rfl⟩⟩
  · rw [if_neg ec]
    exact ⟨Or.inl, fun q => q.elim id (fun q => absurd q ec)⟩

theorem by_begin {es : List Ev} {T : Tr} {W : Nat → List Nat} (r : RInv es T W) (e : Ev) (p : Int) (hn : T.n < 15) (P : Ev → Prop) (c : Nat) : By (es ++ [e]) (beginT T p) W P c ↔ By es T W P c := by
  have hget : ∀ q, q < es.length → (es ++ [e])[q]? = es[q]? := fun q hq => List.getElem?_append_left hq
  constructor
  · rintro ⟨hl, q, hq, e', he', hp⟩
    rw [hget q (r.wlt c q hq)] at he'
    rcases (live_begin p hn c).1 hl with h | h
    · exact ⟨h, q, hq, e', he', hp⟩
    · rw [r.s.gi.new c (by omega)] at hq
      cases hq
  · rintro ⟨hl, q, hq, e', he', hp⟩
    exact ⟨(live_begin p hn c).2 (Or.inl hl), q, hq, e', by rw [hget q (r.wlt c q hq)]; exact he', hp⟩

theorem live_commit {T : Tr} (t c : Nat) (h0 : t ≠ 0) : Live (commitT T t) c ↔ Live T c ∧ c ≠ t := by
  unfold Live commitT upd
  simp only
  by_cases ec : c = t
  · rw [if_pos ec]
    constructor
    · rintro (h | h)
      · omega
      · exact absurd h.2.2 (by decide)
    · rintro ⟨_, h⟩
      exact absurd ec h
  · rw [if_neg ec]
    exact ⟨fun q => ⟨q, ec⟩, fun q => q.1⟩

theorem by_commit {es : List Ev} {T : Tr} {W : Nat → List Nat} (r : RInv es T W) (e : Ev) (t p : Nat) (h0 : t ≠ 0) (hl : Live T t) (hpl : Live T p) (hpt : p ≠ t) (P : Ev → Prop) (c : Nat) : By (es ++ [e]) (commitT T t) (upd W p (W p ++ W t)) P c ↔ c ≠ t ∧ (By es T W P c ∨ (c = p ∧ By es T W P t)) := by
  have hget : ∀ q, q < es.length → (es ++ [e])[q]? = es[q]? := fun q hq => List.getElem?_append_left hq
  constructor
  · rintro ⟨hl', q, hq, e', he', hp⟩
    obtain ⟨hlc, hct⟩ := (live_commit t c h0).1 hl'
    refine ⟨hct, ?_⟩
    unfold upd at hq
    by_cases ec : c = p
    · rw [if_pos ec, List.mem_append] at hq
      rcases hq with hq | hq
      · rw [hget q (r.wlt p q hq)] at he'
        exact Or.inl ⟨hlc, q, by rw [ec]; exact hq, e', he', hp⟩
      · rw [hget q (r.wlt t q hq)] at he'
        exact Or.inr ⟨ec, hl, q, hq, e', he', hp⟩
    · rw [if_neg ec] at hq
      rw [hget q (r.wlt c q hq)] at he'
      exact Or.inl ⟨hlc, q, hq, e', he', hp⟩
  · rintro ⟨hct, ⟨hlc, q, hq, e', he', hp⟩ | ⟨rfl, _, q, hq, e', he', hp⟩⟩
    · refine ⟨(live_commit t c h0).2 ⟨hlc, hct⟩, q, ?_, e', by rw [hget q (r.wlt c q hq)]; exact he', hp⟩
      unfold upd
      by_cases ec : c = p
      · rw [if_pos ec, List.mem_append, ← ec]; exact Or.inl hq
      · rw [if_neg ec]; exact hq
    · refine ⟨(live_commit t c h0).2 ⟨hpl, hct⟩, q, ?_, e', by rw [hget q (r.wlt t q hq)]; exact he', hp⟩
      unfold upd
      rw [if_pos rfl, List.mem_append]
      exact Or.inr hq

theorem by_abort {es : List Ev} {T T' : Tr} {W : Nat → List Nat} (r : RInv es T W) (e : Ev) (hsub : ∀ c, Live T' c → Live T c) (P : Ev → Prop) (c : Nat) : By (es ++ [e]) T' W P c ↔ By es T W P c ∧ Live T' c := by
  have hget : ∀ q, q < es.length → (es ++ [e])[q]? = es[q]? := fun q hq => List.getElem?_append_left hq
  constructor
  · rintro ⟨hl', q, hq, e', he', hp⟩
    rw [hget q (r.wlt c q hq)] at he'
    exact ⟨⟨hsub c hl', q, hq, e', he', hp⟩, hl'⟩
  · rintro ⟨⟨_, q, hq, e', he', hp⟩, hl'⟩
    exact ⟨hl', q, hq, e', by rw [hget q (r.wlt c q hq)]; exact he', hp⟩

/-! ### What an object is, for each who lives -/
/-- Nobody on the way below u has written it. -/
theorem is_inner {es : List Ev} {T : Tr} {W : Nat → List Nat} (r : RInv es T W) {t u x : Nat} (ht : Live T t) (hu : u ∈ pth T.par t) (hno : ∀ c ∈ pth T.par t, u < c → (holdersL es (x : Int)).2.testBit c = false) : isL es (t : Int) (x : Int) = isL es (u : Int) (x : Int) := by
  have j := r.s.jj
  have hlu := live_path j t ht u hu
  have htn := live_le j ht
  rw [is_last j r.h r.na ht x, is_last j r.h r.na hlu x]
  apply lastW_congr
  intro i hi e he hk hx
  rw [onWay_mem, onWay_mem]
  constructor
  · rintro ⟨c, hc, hiw⟩
    obtain ⟨rr, h1, h2⟩ := pth_cut (jj_par j) u t htn hu
    rw [h1, List.mem_append] at hc
    rcases hc with hc | hc
    · exact ⟨c, hc, hiw⟩
    · have h3 := (h2 c hc).1
      have hct : c ∈ pth T.par t := by rw [h1, List.mem_append]; exact Or.inr hc
      have := (held_bit r.h r.na r.s.gi (c := c) (x := x) (by omega) (live_path j t ht c hct) hiw he hx).2 (by omega)
      rw [hno c hct h3] at this
      cases this
  · rintro ⟨c, hc, hiw⟩
    exact ⟨c, pth_trans (jj_par j) htn hu hc, hiw⟩

/-- Events that come behind and that nobody on the way has. -/
theorem is_same {es : List Ev} {T T' : Tr} {W W' : Nat → List Nat} {e : Ev} (r : RInv es T W) (r' : RInv (es ++ [e]) T' W') {u x : Nat} (hu : Live T u) (hu' : Live T' u) (hn : ¬ ((e.k = 3 ∨ e.k = 4) ∧ e.a.toNat = x) ∨ es.length ∉ onWay T'.par W' u) (hm : ∀ i, i < es.length → ∀ e', es[i]? = some e' → (e'.k = 3 ∨ e'.k = 4) → e'.a.toNat = x → (i ∈ onWay T'.par W' u ↔ i ∈ onWay T.par W u)) : isL (es ++ [e]) (u : Int) (x : Int) = isL es (u : Int) (x : Int) := by
  rw [is_last r'.s.jj r'.h r'.na hu' x, is_last r.s.jj r.h r.na hu x, List.length_append]
  have : lastW (es ++ [e]) (onWay T'.par W' u) x (es.length + [e].length) = lastW es (onWay T'.par W' u) x es.length := by
    rcases hn with hn | hn
    · exact lastW_not e hn
    · exact lastW_old e hn
  rw [this]
  exact lastW_congr es.length hm

theorem way_access {T : Tr} {W : Nat → List Nat} {n t u : Nat} {i : Nat} (hi : i < n) : i ∈ onWay T.par (upd W t (W t ++ [n])) u ↔ i ∈ onWay T.par W u := by
  rw [onWay_mem, onWay_mem]
  have hin : ∀ a, (i ∈ upd W t (W t ++ [n]) a ↔ i ∈ W a) := fun a => by
    unfold upd
    by_cases ea : a = t
    · rw [if_pos ea, List.mem_append, List.mem_singleton, ea]
      exact ⟨fun q => q.elim id (fun q => by omega), Or.inl⟩
    · rw [if_neg ea]
  exact ⟨fun ⟨c, h1, h2⟩ => ⟨c, h1, (hin c).1 h2⟩, fun ⟨c, h1, h2⟩ => ⟨c, h1, (hin c).2 h2⟩⟩

theorem way_new {es : List Ev} {T : Tr} {W : Nat → List Nat} (r : RInv es T W) {t u : Nat} : es.length ∈ onWay T.par (upd W t (W t ++ [es.length])) u ↔ t ∈ pth T.par u := by
  rw [onWay_mem]
  constructor
  · rintro ⟨c, h1, h2⟩
    unfold upd at h2
    by_cases ec : c = t
    · rw [← ec]; exact h1
    · rw [if_neg ec] at h2
      have := r.wlt c _ h2
      omega
  · intro h
    refine ⟨t, h, ?_⟩
    unfold upd
    rw [if_pos rfl]
    simp

end Go.Proofs.Ytfdalbmopaemgab
