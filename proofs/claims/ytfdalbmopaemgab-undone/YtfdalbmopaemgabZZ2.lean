import Derived.Test.YtfdalbmopaemgabZZ1
import Derived.Test.YtfdalbmopaemgabZX6
namespace Go.Proofs.Ytfdalbmopaemgab
open Go.RowKit

/-! ### Undone -/
theorem beginR_len (es : List Ev) (t : Int) : (beginR es t).1.length ≤ es.length + 1 := by
  unfold beginR
  split
  · simp
  · split
    · simp
    · split <;> simp

theorem endR_len (es : List Ev) (k t : Int) : (endR es k t).1.length ≤ es.length + 1 := by
  unfold endR
  split
  · simp
  · split
    · simp
    · split <;> simp

theorem accessR_len (es : List Ev) (k t x v : Int) : (accessR es k t x v).1.length ≤ es.length + 1 := by
  unfold accessR
  split
  · simp
  · split
    · simp
    · split
      · simp
      · split <;> simp

theorem actR_len (es : List Ev) (d : StD) : (actR es d).length ≤ es.length + 1 := by
  unfold actR
  split
  · exact beginR_len _ _
  · split
    · exact accessR_len _ _ _ _ _
    · split
      · exact accessR_len _ _ _ _ _
      · split
        · exact accessR_len _ _ _ _ _
        · split
          · exact endR_len _ _ _
          · split
            · exact endR_len _ _ _
            · omega

theorem actsR_len : ∀ (ds : List StD) (es : List Ev), (actsR es ds).length ≤ es.length + ds.length
  | [], es => by simp [actsR]
  | d :: ds, es => by
    show (actsR (actR es d) ds).length ≤ _
    have h1 := actsR_len ds (actR es d)
    have h2 := actR_len es d
    simp only [List.length_cons]
    omega

def UX (es0 : List Ev) (c : Nat) (es : List Ev) : Prop := ∃ T0 W0 T W, RInv es0 T0 W0 ∧ UInv es0 T0 W0 c es T W

theorem UX.act {es0 es : List Ev} {c : Nat} (h : UX es0 c es) (d : StD) {T' : Tr} (j' : JJ es T') (ht1 : 1 ≤ d.t) (ht : d.t ≤ 15) (hin : insideN (upT T') c 256 d.t = true) (hk : d.t ≠ c ∨ (d.k ≠ 5 ∧ d.k ≠ 6)) : UX es0 c (actR es d) := by
  obtain ⟨T0, W0, T, W, r0, u⟩ := h
  have j := u.r.s.jj
  have hc0 : c ≠ 0 := fun e => by have := u.olow 0 (Or.inl rfl); omega
  have hcn := live_le j u.cl
  have hnn : T'.n = T.n := by rw [j'.n, j.n]
  have htn : d.t ≤ T.n := by
    by_cases e : d.t = c
    · rw [e]; exact hcn
    · by_cases e2 : d.t ≤ T.n
      · exact e2
      · rw [insideN_out j' c d.t 256 hc0 (by omega) e (by omega)] at hin
        cases hin
  have hpth : c ∈ pth T.par d.t := by
    rw [insideN_way j' c d.t 256 (by omega) (by omega), decide_eq_true_iff, jj_pth j j' d.t htn] at hin
    exact hin
  unfold actR
  split
  · obtain ⟨T1, W1, h1⟩ := u.begin_ d.t htn hpth
    exact ⟨T0, W0, T1, W1, r0, h1⟩
  · split
    · obtain ⟨T1, W1, h1⟩ := u.access 2 d.t d.x 0 (by omega) htn hpth
      exact ⟨T0, W0, T1, W1, r0, h1⟩
    · split
      · obtain ⟨T1, W1, h1⟩ := u.access 3 d.t d.x d.v (by omega) htn hpth
        exact ⟨T0, W0, T1, W1, r0, h1⟩
      · split
        · obtain ⟨T1, W1, h1⟩ := u.access 4 d.t d.x d.v (by omega) htn hpth
          exact ⟨T0, W0, T1, W1, r0, h1⟩
        · split
          · rename_i k5
            obtain ⟨T1, W1, h1⟩ := u.end_ 5 d.t (Or.inl rfl) htn hpth (hk.elim id (fun h => absurd k5 h.1))
            exact ⟨T0, W0, T1, W1, r0, h1⟩
          · split
            · rename_i k6
              obtain ⟨T1, W1, h1⟩ := u.end_ 6 d.t (Or.inr rfl) htn hpth (hk.elim id (fun h => absurd k6 h.2))
              exact ⟨T0, W0, T1, W1, r0, h1⟩
            · exact ⟨T0, W0, T, W, r0, u⟩

theorem UX.undone {es0 es : List Ev} {c : Nat} (h : UX es0 c es) (hl : es.length < 60) : (endR es 6 (c : Int)).2 = 0 ∧ (∀ x : Int, holdersL (endR es 6 (c : Int)).1 x = holdersL es0 x) ∧ ∀ x : Nat, isL (endR es 6 (c : Int)).1 0 (x : Int) = isL es0 0 (x : Int) := by
  obtain ⟨T0, W0, T, W, r0, u⟩ := h
  exact u.undone r0 hl

/-- A Begin is refused, and answers 0; or it is begun. -/
theorem begin_two {es : List Ev} {T : Tr} {W : Nat → List Nat} (r : RInv es T W) (p : Nat) : ((beginR es (p : Int)).2.2 ≠ 0 ∧ (beginR es (p : Int)).2.1 = 0) ∨ (∃ c : Nat, 1 ≤ c ∧ c ≤ 15 ∧ (beginR es (p : Int)).2 = ((c : Int), 0) ∧ UX es c (beginR es (p : Int)).1) := by
  have j := r.s.jj
  have hn := j.n
  rcases r.begin_or p with h1 | ⟨_, h15, h2, h3⟩
  · left
    unfold beginR at h1 ⊢
    split
    · exact ⟨by simp, rfl⟩
    · split
      · exact ⟨by simp, rfl⟩
      · split
        · exact ⟨by simp, rfl⟩
        · rename_i a1 a2 a3
          rw [if_neg a1, if_neg a2, if_neg a3] at h1
          have := congrArg List.length h1
          simp at this
  · right
    refine ⟨T.n + 1, by omega, by omega, ?_, by rw [h2]; exact ⟨T, W, _, _, r, UInv.start p r h3 h15⟩⟩
    unfold beginR at h2 ⊢
    split
    · rename_i a1
      rw [if_pos a1] at h2
      have := congrArg List.length h2
      simp at this
    · split
      · rename_i a1 a2
        rw [if_neg a1, if_pos a2] at h2
        have := congrArg List.length h2
        simp at this
      · split
        · rename_i a1 a2 a3
          rw [if_neg a1, if_neg a2, if_pos a3] at h2
          have := congrArg List.length h2
          simp at this
        · simp only
          rw [show ((countL es : Int) + 1) = ((T.n + 1 : Nat) : Int) by omega]

structure UnW (w : World) (ba bb : Nat) (ea eb : List Ev) (wr : World) : Prop where
  a : StC wr ba ea
  b : StC wr bb eb
  below : Below w.heap.size w wr

theorem UnW.goA {w wr w' : World} {ba bb : Nat} {ea eb e : List Ev} (h : UnW w ba bb ea eb wr) (h' : StP wr ba e w') (h1 : w.heap.size ≤ ba) (h2 : ba < bb) : UnW w ba bb e eb w' :=
  ⟨h'.1, h.b.of_heap (h'.2.rest _ h.b.lt (by omega)) h'.2.below.size, h'.2.low h.below (by omega) h.below.size⟩
theorem UnW.goB {w wr w' : World} {ba bb : Nat} {ea eb e : List Ev} (h : UnW w ba bb ea eb wr) (h' : StP wr bb e w') (h1 : w.heap.size ≤ ba) (h2 : ba < bb) : UnW w ba bb ea e w' :=
  ⟨h.a.of_heap (h'.2.rest _ h.a.lt (by omega)) h'.2.below.size, h'.1, h'.2.low h.below (by omega) h.below.size⟩
theorem UnW.stay {w wr w' : World} {ba bb : Nat} {ea eb : List Ev} (h : UnW w ba bb ea eb wr) (h' : Below wr.heap.size wr w') : UnW w ba bb ea eb w' :=
  ⟨h.a.of_heap (h'.block _ h.a.lt) h'.size, h.b.of_heap (h'.block _ h.b.lt) h'.size, h.below.trans (h'.mono h.below.size)⟩

end Go.Proofs.Ytfdalbmopaemgab
