import Derived.Test.YtfdalbmopaemgabZV1
namespace Go.Proofs.Ytfdalbmopaemgab
open Go.RowKit

/-! ### Bits -/
def bitN (t : Nat) : Nat := if t = 0 ∨ 15 < t then 0 else 2 ^ t

theorem bitN_bit (t c : Nat) : (bitN t).testBit c = true ↔ c = t ∧ t ≠ 0 ∧ t ≤ 15 := by
  unfold bitN
  by_cases h : t = 0 ∨ 15 < t
  · rw [if_pos h, Nat.zero_testBit]
    simp
    omega
  · rw [if_neg h, Nat.testBit_two_pow]
    simp
    omega

theorem bitN_lt (t : Nat) : bitN t < 65536 := by
  unfold bitN
  by_cases h : t = 0 ∨ 15 < t
  · rw [if_pos h]; decide
  · rw [if_neg h]; exact pow16 (by omega)

theorem bitN_0 (t : Nat) : (bitN t).testBit 0 = false := by
  rw [← Bool.not_eq_true, bitN_bit]
  omega

theorem not_bit (b c : Nat) (hb : b < 65536) : (65535 - b).testBit c = (decide (c < 16) && !b.testBit c) := by
  have := Nat.testBit_two_pow_sub_succ (x := b) (n := 16) (by simpa using hb) c
  rw [show (2 ^ 16 - (b + 1)) = 65535 - b by omega] at this
  exact this

theorem live15 {T : Tr} {c : Nat} (h : Live T c) : c ≤ 15 := by
  rcases h with h | h
  · omega
  · exact h.2.1

theorem By.low {es : List Ev} {T : Tr} {W : Nat → List Nat} {P : Ev → Prop} {c : Nat} (h : By es T W P c) : c ≤ 15 := live15 h.1

/-! ### Read, Write, Add -/
theorem QInv.read {es : List Ev} {T : Tr} {W : Nat → List Nat} {O : Nat → Ob} (q : QInv es T W O) (e : Ev) (t x : Nat) (hx : x < 4) (hk : e.k = 2) (ha : e.a = (x : Int)) (ho : openL es (t : Int) = true) (r' : RInv (es ++ [e]) T (upd W t (W t ++ [es.length]))) :
    QInv (es ++ [e]) T (upd W t (W t ++ [es.length])) (upd O x ⟨(O x).rd ||| bitN t, (O x).wr, (O x).own⟩) := by
  have j := q.r.s.jj
  obtain ⟨hl, ht0⟩ := live_of_open j ho
  have ht15 := live15 hl
  have hwr : ∀ y : Nat, y < 4 → (O y).wr = (holdersL (es ++ [e]) (y : Int)).2 := fun y hy => by
    refine wr_is' r' y _ (by rw [q.wr y hy]; exact (bits0 q.r _).2) fun c hc => ?_
    rw [q.wr y hy, wr_by q.r y c hc, by_access q.r e t hl]
    exact ⟨Or.inl, fun h => h.elim id (fun h => absurd hk h.2.1)⟩
  refine ⟨r', fun y hy => ?_, fun y hy => ?_, fun y hy u hu => ?_⟩
  · unfold upd
    by_cases e' : y = x
    · subst e'
      rw [if_pos rfl]
      refine rd_is r' y _ ?_ fun c hc => ?_
      · show ((O y).rd ||| bitN t).testBit 0 = false
        rw [Nat.testBit_or, q.rd y hy, (bits0 q.r _).1, bitN_0]
        rfl
      · show ((O y).rd ||| bitN t).testBit c = true ↔ _
        rw [Nat.testBit_or, Bool.or_eq_true, bitN_bit, q.rd y hy, rd_by q.r y c hc, by_access q.r e t hl]
        exact ⟨fun h => h.imp id (fun h => ⟨h.1, hk, ha⟩), fun h => h.imp id (fun h => ⟨h.1, ht0, ht15⟩)⟩
    · rw [if_neg e']
      refine rd_is r' y _ (by rw [q.rd y hy]; exact (bits0 q.r _).1) fun c hc => ?_
      rw [q.rd y hy, rd_by q.r y c hc, by_access q.r e t hl]
      refine ⟨Or.inl, fun h => h.elim id (fun h => ?_)⟩
      have := h.2.2
      omega
  · have : (upd O x ⟨(O x).rd ||| bitN t, (O x).wr, (O x).own⟩ y).wr = (O y).wr := by
      unfold upd
      by_cases e' : y = x
      · rw [if_pos e', e']
      · rw [if_neg e']
    rw [this]
    exact hwr y hy
  · have : (upd O x ⟨(O x).rd ||| bitN t, (O x).wr, (O x).own⟩ y).own = (O y).own := by
      unfold upd
      by_cases e' : y = x
      · rw [if_pos e', e']
      · rw [if_neg e']
    rw [this]
    rw [← hwr y hy, q.wr y hy] at hu
    have hlu : Live T u := by
      rcases hu with h | h
      · exact Or.inl h
      · by_cases h0 : u = 0
        · exact Or.inl h0
        · exact ((wr_by q.r y u h0).1 h).1
    rw [q.own y hy u hu]
    exact (is_same q.r r' hlu hlu (Or.inl (by omega)) (fun i hi _ _ _ _ => way_access hi)).symm

theorem QInv.write {es : List Ev} {T : Tr} {W : Nat → List Nat} {O : Nat → Ob} (q : QInv es T W O) (e : Ev) (t x : Nat) (hx : x < 4) (hk : e.k = 3 ∨ e.k = 4) (ha : e.a = (x : Int)) (ho : openL es (t : Int) = true) (hst : ∀ c, c ≠ 0 → Live T c → (holdersL es (x : Int)).2.testBit c = true → c ∈ pth T.par t) (r' : RInv (es ++ [e]) T (upd W t (W t ++ [es.length]))) :
    QInv (es ++ [e]) T (upd W t (W t ++ [es.length])) (upd O x ⟨(O x).rd, (O x).wr ||| bitN t, upd (O x).own t (becL e)⟩) := by
  have j := q.r.s.jj
  obtain ⟨hl, ht0⟩ := live_of_open j ho
  have ht15 := live15 hl
  have htn := live_le j hl
  have hrd : ∀ y : Nat, y < 4 → (O y).rd = (holdersL (es ++ [e]) (y : Int)).1 := fun y hy => by
    refine rd_is r' y _ (by rw [q.rd y hy]; exact (bits0 q.r _).1) fun c hc => ?_
    rw [q.rd y hy, rd_by q.r y c hc, by_access q.r e t hl]
    refine ⟨Or.inl, fun h => h.elim id (fun h => ?_)⟩
    have := h.2.1
    omega
  have hwx : (O x).wr ||| bitN t = (holdersL (es ++ [e]) (x : Int)).2 := by
    refine wr_is' r' x _ ?_ fun c hc => ?_
    · rw [Nat.testBit_or, q.wr x hx, (bits0 q.r _).2, bitN_0]; rfl
    · rw [Nat.testBit_or, Bool.or_eq_true, bitN_bit, q.wr x hx, wr_by q.r x c hc, by_access q.r e t hl]
      exact ⟨fun h => h.imp id (fun h => ⟨h.1, (show e.k ≠ 2 by omega), ha⟩), fun h => h.imp id (fun h => ⟨h.1, ht0, ht15⟩)⟩
  have hwy : ∀ y : Nat, y < 4 → y ≠ x → (O y).wr = (holdersL (es ++ [e]) (y : Int)).2 := fun y hy hyx => by
    refine wr_is' r' y _ (by rw [q.wr y hy]; exact (bits0 q.r _).2) fun c hc => ?_
    rw [q.wr y hy, wr_by q.r y c hc, by_access q.r e t hl]
    refine ⟨Or.inl, fun h => h.elim id (fun h => ?_)⟩
    have := h.2.2
    omega
  have hlv : ∀ y u : Nat, (u = 0 ∨ (holdersL es (y : Int)).2.testBit u = true) → Live T u := fun y u hu => by
    rcases hu with h | h
    · exact Or.inl h
    · by_cases h0 : u = 0
      · exact Or.inl h0
      · exact ((wr_by q.r y u h0).1 h).1
  refine ⟨r', fun y hy => ?_, fun y hy => ?_, fun y hy u hu => ?_⟩
  · have : (upd O x ⟨(O x).rd, (O x).wr ||| bitN t, upd (O x).own t (becL e)⟩ y).rd = (O y).rd := by
      unfold upd
      by_cases e' : y = x
      · rw [if_pos e', e']
      · rw [if_neg e']
    rw [this]
    exact hrd y hy
  · unfold upd
    by_cases e' : y = x
    · subst e'; rw [if_pos rfl]; exact hwx
    · rw [if_neg e']; exact hwy y hy e'
  · by_cases e' : y = x
    · subst e'
      rw [← hwx] at hu
      rw [show (upd O y ⟨(O y).rd, (O y).wr ||| bitN t, upd (O y).own t (becL e)⟩ y).own u = upd (O y).own t (becL e) u by unfold upd; rw [if_pos rfl]]
      by_cases eu : u = t
      · subst eu
        rw [is_last r'.s.jj r'.h r'.na hl y, List.length_append]
        rw [show upd (O y).own u (becL e) u = becL e by unfold upd; rw [if_pos rfl]]
        exact (lastW_new e ((way_new q.r).2 (pth_self (jj_par j) u htn)) hk (by omega)).symm
      · rw [show upd (O y).own t (becL e) u = (O y).own u by unfold upd; rw [if_neg eu]]
        have hu' : u = 0 ∨ (holdersL es (y : Int)).2.testBit u = true := by
          rcases hu with h | h
          · exact Or.inl h
          · rw [Nat.testBit_or, Bool.or_eq_true, bitN_bit, q.wr y hy] at h
            exact Or.inr (h.elim id (fun h => absurd h.1 eu))
        have hlu := hlv y u hu'
        rw [q.own y hy u hu']
        refine (is_same q.r r' hlu hlu (Or.inr fun hin => ?_) (fun i hi _ _ _ _ => way_access hi)).symm
        have htu := (way_new q.r).1 hin
        by_cases h0 : u = 0
        · subst h0; rw [pth_zero, List.mem_singleton] at htu; exact ht0 htu
        · have hut := hst u h0 hlu (hu'.elim (fun h => absurd h h0) id)
          have h1 := pth_le (jj_par j) t htn u hut
          have h2 := pth_le (jj_par j) u (live_le j hlu) t htu
          omega
    · rw [show (upd O x ⟨(O x).rd, (O x).wr ||| bitN t, upd (O x).own t (becL e)⟩ y).own u = (O y).own u by unfold upd; rw [if_neg e']]
      rw [← hwy y hy e', q.wr y hy] at hu
      have hlu := hlv y u hu
      rw [q.own y hy u hu]
      exact (is_same q.r r' hlu hlu (Or.inl (fun h => by omega)) (fun i hi _ _ _ _ => way_access hi)).symm

/-! ### Begin -/
theorem QInv.begin_ {es : List Ev} {T : Tr} {W : Nat → List Nat} {O : Nat → Ob} (q : QInv es T W O) (e : Ev) (p : Int) (hk : e.k = 1) (hn : T.n < 15) (r' : RInv (es ++ [e]) (beginT T p) W) : QInv (es ++ [e]) (beginT T p) W O := by
  have j := q.r.s.jj
  have hwr : ∀ y : Nat, y < 4 → (O y).wr = (holdersL (es ++ [e]) (y : Int)).2 := fun y hy => by
    refine wr_is' r' y _ (by rw [q.wr y hy]; exact (bits0 q.r _).2) fun c hc => ?_
    rw [q.wr y hy, wr_by q.r y c hc, by_begin q.r e p hn]
  refine ⟨r', fun y hy => ?_, hwr, fun y hy u hu => ?_⟩
  · refine rd_is r' y _ (by rw [q.rd y hy]; exact (bits0 q.r _).1) fun c hc => ?_
    rw [q.rd y hy, rd_by q.r y c hc, by_begin q.r e p hn]
  · rw [← hwr y hy, q.wr y hy] at hu
    have hlu : Live T u := by
      rcases hu with h | h
      · exact Or.inl h
      · by_cases h0 : u = 0
        · exact Or.inl h0
        · exact ((wr_by q.r y u h0).1 h).1
    have hun := live_le j hlu
    rw [q.own y hy u hu]
    refine (is_same q.r r' hlu ((live_begin p hn u).2 (Or.inl hlu)) (Or.inl (by omega)) (fun i _ _ _ _ _ => ?_)).symm
    have : onWay (beginT T p).par W u = onWay T.par W u := by
      unfold onWay
      rw [pth_same (jj_par j) (fun c h1 h2 => by unfold beginT upd; simp only; rw [if_neg (by omega)]) u hun]
    rw [this]

/-! ### Commit -/
def handO (o : Ob) (t p : Nat) : Ob :=
  ⟨(if o.rd.testBit t then o.rd ||| bitN p else o.rd) &&& (65535 - bitN t), (if o.wr.testBit t then o.wr ||| bitN p else o.wr) &&& (65535 - bitN t), if o.wr.testBit t then upd o.own p (o.own t) else o.own⟩

theorem hand_bit (a t p c : Nat) (ht0 : t ≠ 0) (ht15 : t ≤ 15) : (((if a.testBit t then a ||| bitN p else a) &&& (65535 - bitN t)).testBit c = true) ↔ c < 16 ∧ c ≠ t ∧ (a.testBit c = true ∨ (c = p ∧ p ≠ 0 ∧ p ≤ 15 ∧ a.testBit t = true)) := by
  have hn : (bitN t).testBit c = true ↔ c = t := by rw [bitN_bit]; omega
  rw [Nat.testBit_and, Bool.and_eq_true, not_bit _ _ (bitN_lt t), Bool.and_eq_true, Bool.not_eq_true', ← Bool.not_eq_true, hn, decide_eq_true_iff]
  cases hb : a.testBit t with
  | true =>
    rw [if_pos rfl, Nat.testBit_or, Bool.or_eq_true, bitN_bit]
    constructor
    · rintro ⟨h1, h2, h3⟩
      exact ⟨h2, h3, h1.imp id (fun h => ⟨h.1, h.2.1, h.2.2, rfl⟩)⟩
    · rintro ⟨h1, h2, h3⟩
      exact ⟨h3.imp id (fun h => ⟨h.1, h.2.1, h.2.2.1⟩), h1, h2⟩
  | false =>
    rw [if_neg (by decide)]
    constructor
    · rintro ⟨h1, h2, h3⟩
      exact ⟨h2, h3, Or.inl h1⟩
    · rintro ⟨h1, h2, h3⟩
      exact ⟨h3.elim id (fun h => absurd h.2.2.2 (by decide)), h1, h2⟩

theorem way_commit {T : Tr} {W : Nat → List Nat} {t p u i : Nat} : i ∈ onWay T.par (upd W p (W p ++ W t)) u ↔ i ∈ onWay T.par W u ∨ (p ∈ pth T.par u ∧ i ∈ W t) := by
  rw [onWay_mem, onWay_mem]
  constructor
  · rintro ⟨c, h1, h2⟩
    unfold upd at h2
    by_cases ec : c = p
    · rw [if_pos ec, List.mem_append] at h2
      rcases h2 with h2 | h2
      · exact Or.inl ⟨c, h1, by rw [ec]; exact h2⟩
      · exact Or.inr ⟨by rw [← ec]; exact h1, h2⟩
    · rw [if_neg ec] at h2
      exact Or.inl ⟨c, h1, h2⟩
  · rintro (⟨c, h1, h2⟩ | ⟨h1, h2⟩)
    · refine ⟨c, h1, ?_⟩
      unfold upd
      by_cases ec : c = p
      · rw [if_pos ec, List.mem_append, ← ec]; exact Or.inl h2
      · rw [if_neg ec]; exact h2
    · refine ⟨p, h1, ?_⟩
      unfold upd
      rw [if_pos rfl, List.mem_append]
      exact Or.inr h2

/-- Whoever lives in another has a living child of that one on the way. -/
theorem child_on {es : List Ev} {T : Tr} (j : JJ es T) (t : Nat) : ∀ u, Live T u → t ∈ pth T.par u → u ≠ t → ∃ v, Live T v ∧ v ≠ 0 ∧ (T.par v).toNat = t := by
  intro u
  induction u using Nat.strongRecOn with
  | _ u ih =>
    intro hu ht hne
    by_cases h0 : u = 0
    · subst h0
      rw [pth_zero, List.mem_singleton] at ht
      exact absurd ht.symm hne
    · have hle := live_le j hu
      rw [pth_step (jj_par j) u (by omega) hle, List.mem_append, List.mem_singleton] at ht
      by_cases hp : (T.par u).toNat = t
      · exact ⟨u, hu, h0, hp⟩
      · exact ih _ (jj_par j u (by omega) hle) (live_up j hu h0) (ht.elim id (fun q => absurd q.symm hne)) hp

theorem QInv.commit {es : List Ev} {T : Tr} {W : Nat → List Nat} {O : Nat → Ob} (q : QInv es T W O) (e : Ev) (t p : Nat) (hk : e.k = 5) (ho : openL es (t : Int) = true) (hch : childL es (t : Int) = false) (hp : T.par t = (p : Int)) (r' : RInv (es ++ [e]) (commitT T t) (upd W p (W p ++ W t))) :
    QInv (es ++ [e]) (commitT T t) (upd W p (W p ++ W t)) (fun x => handO (O x) t p) := by
  have j := q.r.s.jj
  obtain ⟨hl, ht0⟩ := live_of_open j ho
  have ht15 := live15 hl
  have htn := live_le j hl
  have hpl : Live T p := by have := live_up j hl ht0; rwa [hp, Int.toNat_natCast] at this
  have hplt : p < t := by have := jj_par j t (by omega) htn; rwa [hp, Int.toNat_natCast] at this
  have hp15 := live15 hpl
  have hpth : pth T.par t = pth T.par p ++ [t] := by rw [pth_step (jj_par j) t (by omega) htn, hp, Int.toNat_natCast]
  have hppt : p ∈ pth T.par t := by rw [hpth, List.mem_append]; exact Or.inl (pth_self (jj_par j) p (live_le j hpl))
  have hpar : (commitT T t).par = T.par := rfl
  have hwr : ∀ y : Nat, y < 4 → (handO (O y) t p).wr = (holdersL (es ++ [e]) (y : Int)).2 := fun y hy => by
    refine wr_is' r' y _ ?_ fun c hc => ?_
    · rw [← Bool.not_eq_true]
      show ¬ (((if (O y).wr.testBit t then (O y).wr ||| bitN p else (O y).wr) &&& (65535 - bitN t)).testBit 0 = true)
      rw [hand_bit _ _ _ _ ht0 ht15, q.wr y hy, (bits0 q.r _).2]
      rintro ⟨_, _, h | h⟩
      · cases h
      · exact h.2.1 h.1.symm
    · show (((if (O y).wr.testBit t then (O y).wr ||| bitN p else (O y).wr) &&& (65535 - bitN t)).testBit c = true) ↔ _
      rw [hand_bit _ _ _ _ ht0 ht15, q.wr y hy, wr_by q.r y c hc, wr_by q.r y t ht0, by_commit q.r e t p ht0 hl hpl (by omega)]
      constructor
      · rintro ⟨h1, h2, h3⟩
        exact ⟨h2, h3.imp id (fun h => ⟨h.1, h.2.2.2⟩)⟩
      · rintro ⟨h1, h3⟩
        refine ⟨?_, h1, h3.imp id (fun h => ⟨h.1, by omega, hp15, h.2⟩)⟩
        rcases h3 with h | h
        · have := h.low; omega
        · omega
  refine ⟨r', fun y hy => ?_, hwr, fun y hy u hu => ?_⟩
  · refine rd_is r' y _ ?_ fun c hc => ?_
    · rw [← Bool.not_eq_true]
      show ¬ (((if (O y).rd.testBit t then (O y).rd ||| bitN p else (O y).rd) &&& (65535 - bitN t)).testBit 0 = true)
      rw [hand_bit _ _ _ _ ht0 ht15, q.rd y hy, (bits0 q.r _).1]
      rintro ⟨_, _, h | h⟩
      · cases h
      · exact h.2.1 h.1.symm
    · show (((if (O y).rd.testBit t then (O y).rd ||| bitN p else (O y).rd) &&& (65535 - bitN t)).testBit c = true) ↔ _
      rw [hand_bit _ _ _ _ ht0 ht15, q.rd y hy, rd_by q.r y c hc, rd_by q.r y t ht0, by_commit q.r e t p ht0 hl hpl (by omega)]
      constructor
      · rintro ⟨h1, h2, h3⟩
        exact ⟨h2, h3.imp id (fun h => ⟨h.1, h.2.2.2⟩)⟩
      · rintro ⟨h1, h3⟩
        refine ⟨?_, h1, h3.imp id (fun h => ⟨h.1, by omega, hp15, h.2⟩)⟩
        rcases h3 with h | h
        · have := h.low; omega
        · omega
  · have hnt : Live (commitT T t) u := by
      rcases hu with h | h
      · exact Or.inl h
      · by_cases h0 : u = 0
        · exact Or.inl h0
        · exact ((wr_by r' y u h0).1 h).1
    obtain ⟨hlu, hut⟩ := (live_commit t u ht0).1 hnt
    have hold : u ≠ p → (u = 0 ∨ (holdersL es (y : Int)).2.testBit u = true) := fun hup => by
      rcases hu with h | h
      · exact Or.inl h
      · rw [← hwr y hy] at h
        have h' : ((if (O y).wr.testBit t then (O y).wr ||| bitN p else (O y).wr) &&& (65535 - bitN t)).testBit u = true := h
        rw [hand_bit _ _ _ _ ht0 ht15, q.wr y hy] at h'
        exact Or.inr (h'.2.2.elim id (fun h => absurd h.1 hup))
    have hup : isL (es ++ [e]) (p : Int) (y : Int) = isL es (t : Int) (y : Int) := by
      have hpl' : Live (commitT T t) p := (live_commit t p ht0).2 ⟨hpl, by omega⟩
      rw [is_last r'.s.jj r'.h r'.na hpl' y, is_last j q.r.h q.r.na hl y, List.length_append]
      have : lastW (es ++ [e]) (onWay (commitT T t).par (upd W p (W p ++ W t)) p) y (es.length + [e].length) = lastW es (onWay (commitT T t).par (upd W p (W p ++ W t)) p) y es.length := lastW_not e (by omega)
      rw [this, hpar]
      refine lastW_congr es.length fun i _ _ _ _ _ => ?_
      rw [way_commit, onWay_mem, onWay_mem, hpth]
      constructor
      · rintro (⟨c, h1, h2⟩ | ⟨_, h2⟩)
        · exact ⟨c, List.mem_append.2 (Or.inl h1), h2⟩
        · exact ⟨t, List.mem_append.2 (Or.inr (List.mem_singleton.2 rfl)), h2⟩
      · rintro ⟨c, h1, h2⟩
        rw [List.mem_append, List.mem_singleton] at h1
        rcases h1 with h1 | rfl
        · exact Or.inl ⟨c, h1, h2⟩
        · exact Or.inr ⟨pth_self (jj_par j) p (live_le j hpl), h2⟩
    show (if (O y).wr.testBit t then upd (O y).own p ((O y).own t) else (O y).own) u = _
    by_cases eu : u = p
    · subst eu
      rw [hup]
      cases hb : (O y).wr.testBit t with
      | true =>
        rw [if_pos rfl]
        rw [q.wr y hy] at hb
        rw [show upd (O y).own u ((O y).own t) u = (O y).own t by unfold upd; rw [if_pos rfl]]
        exact q.own y hy t (Or.inr hb)
      | false =>
        rw [if_neg (by decide)]
        rw [q.wr y hy] at hb
        have hu2 : u = 0 ∨ (holdersL es (y : Int)).2.testBit u = true := by
          rcases hu with h | h
          · exact Or.inl h
          · rw [← hwr y hy] at h
            have h' : ((if (O y).wr.testBit t then (O y).wr ||| bitN u else (O y).wr) &&& (65535 - bitN t)).testBit u = true := h
            rw [hand_bit _ _ _ _ ht0 ht15, q.wr y hy, hb] at h'
            exact Or.inr (h'.2.2.elim id (fun h => by cases h.2.2.2))
        rw [q.own y hy u hu2]
        refine (is_inner q.r hl hppt fun c hc hcu => ?_).symm
        rw [hpth, List.mem_append, List.mem_singleton] at hc
        rcases hc with hc | rfl
        · have := pth_le (jj_par j) u (live_le j hlu) c hc
          omega
        · exact hb
    · have hu2 := hold eu
      have hown : (if (O y).wr.testBit t then upd (O y).own p ((O y).own t) else (O y).own) u = (O y).own u := by
        split
        · unfold upd; rw [if_neg eu]
        · rfl
      rw [hown, q.own y hy u hu2]
      refine (is_same q.r r' hlu hnt (Or.inl (by omega)) (fun i hi e' he' hk' hx' => ?_)).symm
      rw [hpar, way_commit]
      refine ⟨fun h => h.elim id (fun ⟨h1, h2⟩ => ?_), Or.inl⟩
      have hwt := (held_bit q.r.h q.r.na q.r.s.gi (x := y) ht0 hl h2 he' hx').2 (by omega)
      rcases hu2 with h0 | hbu
      · subst h0
        rw [pth_zero, List.mem_singleton] at h1
        exact absurd h1.symm eu
      · have hu0 : u ≠ 0 := fun h0 => by subst h0; rw [(bits0 q.r _).2] at hbu; cases hbu
        obtain ⟨_, _, h3 | h3⟩ := q.r.apart y t u ht0 hu0 hwt (Or.inr hbu)
        · obtain ⟨v, hv1, hv2, hv3⟩ := child_on j t u hlu h3 hut
          have hov := open_of_live j hv1 hv2
          have hne := child_false j hch hov
          have hvn := live_le j hv1
          have hlow := j.low v (by omega) hvn
          have h15 := j.n15
          have := j.par v (by omega)
          omega
        · rw [hpth, List.mem_append, List.mem_singleton] at h3
          rcases h3 with h3 | h3
          · have h4 := pth_le (jj_par j) p (live_le j hpl) u h3
            have h5 := pth_le (jj_par j) u (live_le j hlu) p h1
            omega
          · exact absurd h3 hut

/-! ### Abort -/
def keepO (o : Ob) (m : Nat) : Ob := ⟨o.rd &&& m, o.wr &&& m, o.own⟩

def openD (op : Nat → Bool) : Nat → Nat → Nat
  | 0, acc => acc
  | i + 1, acc => openD op i (if op (i + 1) then acc ||| bitN (i + 1) else acc)

theorem openD_bit (op : Nat → Bool) (c : Nat) : ∀ i, i ≤ 15 → ∀ acc, (openD op i acc).testBit c = true ↔ acc.testBit c = true ∨ (1 ≤ c ∧ c ≤ i ∧ op c = true)
  | 0, _, acc => by
    unfold openD
    exact ⟨Or.inl, fun h => h.elim id (fun h => by omega)⟩
  | i + 1, hi, acc => by
    rw [openD, openD_bit op c i (by omega)]
    cases ho : op (i + 1) with
    | true =>
      rw [if_pos rfl, Nat.testBit_or, Bool.or_eq_true, bitN_bit]
      constructor
      · rintro ((h | h) | h)
        · exact Or.inl h
        · exact Or.inr ⟨by omega, by omega, by rw [h.1]; exact ho⟩
        · exact Or.inr ⟨h.1, by omega, h.2.2⟩
      · rintro (h | h)
        · exact Or.inl (Or.inl h)
        · by_cases ec : c = i + 1
          · exact Or.inl (Or.inr ⟨ec, by omega, by omega⟩)
          · exact Or.inr ⟨h.1, by omega, h.2.2⟩
    | false =>
      rw [if_neg (by decide)]
      constructor
      · rintro (h | h)
        · exact Or.inl h
        · exact Or.inr ⟨h.1, by omega, h.2.2⟩
      · rintro (h | h)
        · exact Or.inl h
        · by_cases ec : c = i + 1
          · rw [ec, ho] at h; exact absurd h.2.2 (by decide)
          · exact Or.inr ⟨h.1, by omega, h.2.2⟩

theorem openN_bit (T : Tr) (c : Nat) (hc : c ≠ 0) : (openD T.op 15 0).testBit c = true ↔ Live T c := by
  rw [openD_bit T.op c 15 (by omega), Nat.zero_testBit]
  unfold Live
  constructor
  · rintro (h | h)
    · cases h
    · exact Or.inr h
  · rintro (h | h)
    · exact absurd h hc
    · exact Or.inr h

theorem openN_0 (T : Tr) : (openD T.op 15 0).testBit 0 = false := by
  rw [← Bool.not_eq_true, openD_bit T.op 0 15 (by omega), Nat.zero_testBit]
  rintro (h | h)
  · cases h
  · omega

theorem QInv.abort {es : List Ev} {T : Tr} {W : Nat → List Nat} {O : Nat → Ob} (q : QInv es T W O) (e : Ev) (t : Nat) (hk : e.k = 6) (ho : openL es (t : Int) = true) (r' : RInv (es ++ [e]) (abortT T t) W) :
    QInv (es ++ [e]) (abortT T t) W (fun x => keepO (O x) (openD (abortT T t).op 15 0)) := by
  have j := q.r.s.jj
  have hsub : ∀ c, Live (abortT T t) c → Live T c := fun c h => ((live_abort j t ho c).1 h).1
  have hwr : ∀ y : Nat, y < 4 → (keepO (O y) (openD (abortT T t).op 15 0)).wr = (holdersL (es ++ [e]) (y : Int)).2 := fun y hy => by
    refine wr_is' r' y _ ?_ fun c hc => ?_
    · show ((O y).wr &&& openD (abortT T t).op 15 0).testBit 0 = false
      rw [Nat.testBit_and, openN_0, Bool.and_false]
    · show ((O y).wr &&& openD (abortT T t).op 15 0).testBit c = true ↔ _
      rw [Nat.testBit_and, Bool.and_eq_true, openN_bit _ c hc, q.wr y hy, wr_by q.r y c hc, by_abort q.r e hsub]
  refine ⟨r', fun y hy => ?_, hwr, fun y hy u hu => ?_⟩
  · refine rd_is r' y _ ?_ fun c hc => ?_
    · show ((O y).rd &&& openD (abortT T t).op 15 0).testBit 0 = false
      rw [Nat.testBit_and, openN_0, Bool.and_false]
    · show ((O y).rd &&& openD (abortT T t).op 15 0).testBit c = true ↔ _
      rw [Nat.testBit_and, Bool.and_eq_true, openN_bit _ c hc, q.rd y hy, rd_by q.r y c hc, by_abort q.r e hsub]
  · have hu2 : u = 0 ∨ (holdersL es (y : Int)).2.testBit u = true := by
      rcases hu with h | h
      · exact Or.inl h
      · rw [← hwr y hy] at h
        have h' : ((O y).wr &&& openD (abortT T t).op 15 0).testBit u = true := h
        rw [Nat.testBit_and, Bool.and_eq_true, q.wr y hy] at h'
        exact Or.inr h'.1
    have hlu : Live (abortT T t) u := by
      rcases hu with h | h
      · exact Or.inl h
      · by_cases h0 : u = 0
        · exact Or.inl h0
        · exact ((wr_by r' y u h0).1 h).1
    show (O y).own u = _
    rw [q.own y hy u hu2]
    exact (is_same q.r r' (hsub u hlu) hlu (Or.inl (by omega)) (fun i _ _ _ _ _ => Iff.rfl)).symm

/-! ### What it is for somebody, and who keeps somebody out -/
def lineD (par : Nat → Int) : Nat → Nat → Nat → Nat
  | 0, _, acc => acc
  | i + 1, nx, acc => if i + 1 = nx then lineD par i (par (i + 1)).toNat (acc ||| bitN (i + 1)) else lineD par i nx acc

theorem lineD_bit {par : Nat → Int} {n : Nat} (hpar : ParOk par n) (c : Nat) : ∀ i, i ≤ 15 → ∀ nx, nx ≤ i → nx ≤ n → ∀ acc, ((lineD par i nx acc).testBit c = true ↔ acc.testBit c = true ∨ (c ≠ 0 ∧ c ∈ pth par nx))
  | 0, _, nx, h1, h2, acc => by
    unfold lineD
    have : nx = 0 := by omega
    subst this
    rw [pth_zero, List.mem_singleton]
    exact ⟨Or.inl, fun h => h.elim id (fun h => absurd h.2 h.1)⟩
  | i + 1, hi, nx, h1, h2, acc => by
    rw [lineD]
    by_cases e : i + 1 = nx
    · rw [if_pos e]
      have hlt := hpar (i + 1) (by omega) (by omega)
      rw [lineD_bit hpar c i (by omega) _ (by omega) (by omega), Nat.testBit_or, Bool.or_eq_true, bitN_bit, ← e, pth_step hpar (i + 1) (by omega) (by omega), List.mem_append, List.mem_singleton]
      constructor
      · rintro ((h | h) | h)
        · exact Or.inl h
        · exact Or.inr ⟨by omega, Or.inr h.1⟩
        · exact Or.inr ⟨h.1, Or.inl h.2⟩
      · rintro (h | ⟨h0, h | h⟩)
        · exact Or.inl (Or.inl h)
        · exact Or.inr ⟨h0, h⟩
        · exact Or.inl (Or.inr ⟨h, by omega, by omega⟩)
    · rw [if_neg e]
      exact lineD_bit hpar c i (by omega) nx (by omega) h2 acc

def lineN (T : Tr) (t : Nat) : Nat := lineD T.par 15 t 0

theorem line_bit {es : List Ev} {T : Tr} (j : JJ es T) (t : Nat) (ht : t ≤ T.n) (c : Nat) : (lineN T t).testBit c = true ↔ c ≠ 0 ∧ c ∈ pth T.par t := by
  unfold lineN
  rw [lineD_bit (jj_par j) c 15 (by omega) t (by have := j.n15; omega) ht, Nat.zero_testBit]
  exact ⟨fun h => h.elim (fun h => by cases h) id, Or.inr⟩

theorem lineD_lt (par : Nat → Int) : ∀ i nx acc, acc < 65536 → lineD par i nx acc < 65536
  | 0, _, _, h => by unfold lineD; exact h
  | i + 1, nx, acc, h => by
    rw [lineD]
    split
    · exact lineD_lt par i _ _ (or16 h (bitN_lt _))
    · exact lineD_lt par i _ _ h

theorem openD_lt (op : Nat → Bool) : ∀ i acc, acc < 65536 → openD op i acc < 65536
  | 0, _, h => by unfold openD; exact h
  | i + 1, acc, h => by
    rw [openD]
    refine openD_lt op i _ ?_
    split
    · exact or16 h (bitN_lt _)
    · exact h

def valD (hv : Nat) (own : Nat → Int) : Nat → Int
  | 0 => own 0
  | n + 1 => if hv.testBit (n + 1) then own (n + 1) else valD hv own n

theorem value_is {es : List Ev} {T : Tr} {W : Nat → List Nat} {O : Nat → Ob} (q : QInv es T W O) (t x : Nat) (hx : x < 4) (ht : Live T t) : valD ((O x).wr &&& lineN T t) (O x).own 15 = isL es (t : Int) (x : Int) := by
  have j := q.r.s.jj
  have htn := live_le j ht
  have h15 := j.n15
  have hb : ∀ c, ((O x).wr &&& lineN T t).testBit c = true ↔ (holdersL es (x : Int)).2.testBit c = true ∧ c ≠ 0 ∧ c ∈ pth T.par t := fun c => by
    rw [Nat.testBit_and, Bool.and_eq_true, line_bit j t htn, q.wr x hx]
  have main : ∀ n, (∀ c, n < c → ((O x).wr &&& lineN T t).testBit c = false) → valD ((O x).wr &&& lineN T t) (O x).own n = isL es (t : Int) (x : Int) := by
    intro n
    induction n with
    | zero =>
      intro hno
      rw [valD, q.own x hx 0 (Or.inl rfl)]
      refine (is_inner q.r ht (pth_has0 (jj_par j) t htn) fun c hc h0 => ?_).symm
      have := hno c h0
      rw [← Bool.not_eq_true, hb] at this
      rw [← Bool.not_eq_true]
      exact fun h => this ⟨h, by omega, hc⟩
    | succ n ih =>
      intro hno
      rw [valD]
      cases hbn : ((O x).wr &&& lineN T t).testBit (n + 1) with
      | true =>
        rw [if_pos rfl]
        obtain ⟨h1, _, h3⟩ := (hb (n + 1)).1 hbn
        rw [q.own x hx (n + 1) (Or.inr h1)]
        refine (is_inner q.r ht h3 fun c hc h0 => ?_).symm
        have := hno c h0
        rw [← Bool.not_eq_true, hb] at this
        rw [← Bool.not_eq_true]
        exact fun h => this ⟨h, by omega, hc⟩
      | false =>
        rw [if_neg (by decide)]
        refine ih fun c hc => ?_
        by_cases ec : c = n + 1
        · rw [ec]; exact hbn
        · exact hno c (by omega)
  refine main 15 fun c hc => ?_
  rw [← Bool.not_eq_true, hb]
  rintro ⟨_, _, h⟩
  have := pth_le (jj_par j) t htn c h
  omega

def outB (s line : Nat) : Bool := decide (s &&& (65535 - line) ≠ 0)

theorem out_is {es : List Ev} {T : Tr} (j : JJ es T) (t s : Nat) (ht : t ≤ T.n) (h0 : s.testBit 0 = false) : outB s (lineN T t) = strangerL es (t : Int) s := by
  have hln : lineN T t < 65536 := lineD_lt T.par 15 t 0 (by decide)
  have hb : ∀ c, (s &&& (65535 - lineN T t)).testBit c = true ↔ s.testBit c = true ∧ c < 16 ∧ ¬ (c ≠ 0 ∧ c ∈ pth T.par t) := fun c => by
    rw [Nat.testBit_and, Bool.and_eq_true, not_bit _ _ hln, Bool.and_eq_true, decide_eq_true_iff, Bool.not_eq_true', ← Bool.not_eq_true, line_bit j t ht]
  rw [Bool.eq_iff_iff]
  unfold outB strangerL
  rw [decide_eq_true_iff, List.any_eq_true]
  constructor
  · intro h
    obtain ⟨c, hc⟩ := Nat.exists_testBit_of_ne_zero h
    obtain ⟨h1, h2, h3⟩ := (hb c).1 hc
    have hc0 : c ≠ 0 := fun e => by subst e; rw [h0] at h1; cases h1
    refine ⟨c - 1, by simp; omega, ?_⟩
    rw [show c - 1 + 1 = c by omega, h1, within_pth j c t ht]
    simp
    exact fun h => h3 ⟨hc0, h⟩
  · rintro ⟨i, hi, h⟩ hz
    rw [Bool.and_eq_true, within_pth j (i + 1) t ht] at h
    have := (hb (i + 1)).2 ⟨h.1, by simp at hi; omega, fun q => by have := h.2; simp at this; exact this q.2⟩
    rw [hz, Nat.zero_testBit] at this
    cases this

end Go.Proofs.Ytfdalbmopaemgab
