import Derived.Test.YtfdalbmopaemgabZX3
namespace Go.Proofs.Ytfdalbmopaemgab
open Go.RowKit

/-! ### One transaction of 0 behind the other -/
structure Su (es : List Ev) (i : Nat) (V : Nat → Int) : Prop where
  q : ∃ T W O, QInv es T W O ∧ T.n = i ∧ (∀ c, 1 ≤ c → c ≤ 15 → T.op c = false)
  len : es.length = 3 * i
  val : ∀ x : Nat, x < 4 → isL es 0 (x : Int) = V x

theorem Su.start : Su [] 0 (fun _ => 0) := ⟨⟨_, _, _, QInv.start, rfl, fun _ _ _ => rfl⟩, rfl, fun _ _ => rfl⟩

theorem valD_zero (own : Nat → Int) : ∀ n, valD 0 own n = own 0
  | 0 => rfl
  | n + 1 => by rw [valD, Nat.zero_testBit, if_neg (by decide), valD_zero own n]

theorem stranger_zero (es : List Ev) (t : Int) : strangerL es t 0 = false := by
  unfold strangerL
  rw [List.any_eq_false]
  intro i _
  rw [Nat.zero_testBit]
  simp

/-- Nobody holds where nobody is open. -/
theorem QInv.empty {es : List Ev} {T : Tr} {W : Nat → List Nat} {O : Nat → Ob} (q : QInv es T W O) (hop : ∀ c, 1 ≤ c → c ≤ 15 → T.op c = false) (x : Nat) (hx : x < 4) : (O x).rd = 0 ∧ (O x).wr = 0 := by
  have hno : ∀ c, c ≠ 0 → ¬ Live T c := fun c hc h => by
    rcases h with h | h
    · exact hc h
    · rw [hop c h.1 h.2.1] at h; exact absurd h.2.2 (by decide)
  constructor
  · rw [q.rd x hx]
    apply Nat.eq_of_testBit_eq
    intro c
    rw [Nat.zero_testBit]
    by_cases hc : c = 0
    · subst hc; exact (bits0 q.r _).1
    · rw [← Bool.not_eq_true, rd_by q.r x c hc]
      exact fun h => hno c hc h.1
  · rw [q.wr x hx]
    apply Nat.eq_of_testBit_eq
    intro c
    rw [Nat.zero_testBit]
    by_cases hc : c = 0
    · subst hc; exact (bits0 q.r _).2
    · rw [← Bool.not_eq_true, wr_by q.r x c hc]
      exact fun h => hno c hc h.1

def su1 (es : List Ev) (i : Nat) : List Ev := es ++ [⟨1, ((i + 1 : Nat) : Int), ((0 : Nat) : Int), 0, 0⟩]
def su2 (es : List Ev) (i x : Nat) (v s : Int) : List Ev := su1 es i ++ [⟨4, ((i + 1 : Nat) : Int), (x : Int), v, s⟩]
def su3 (es : List Ev) (i x : Nat) (v s k : Int) : List Ev := su2 es i x v s ++ [⟨k, ((i + 1 : Nat) : Int), 0, 0, 0⟩]

theorem Su.begin_ {es : List Ev} {i : Nat} {V : Nat → Int} (h : Su es i V) (hi : i < 15) : beginR es ((0 : Nat) : Int) = (su1 es i, ((i + 1 : Nat) : Int), 0) := by
  obtain ⟨T, W, O, q, hn, hop⟩ := h.q
  have hj := q.r.s.jj.n
  have hl := h.len
  unfold beginR su1
  rw [if_neg (by simp), if_neg (by omega), if_neg (by omega), show ((countL es : Int) + 1) = ((i + 1 : Nat) : Int) by omega]

theorem Su.full {es : List Ev} {V : Nat → Int} (h : Su es 15 V) : beginR es ((0 : Nat) : Int) = (es, 0, 10) := by
  obtain ⟨T, W, O, q, hn, hop⟩ := h.q
  have hj := q.r.s.jj.n
  unfold beginR
  rw [if_neg (by simp), if_pos (by omega)]

/-- The state behind the Begin. -/
theorem Su.one {es : List Ev} {i : Nat} {V : Nat → Int} (h : Su es i V) (hi : i < 15) : ∃ T W O, QInv (su1 es i) T W O ∧ T.n = i + 1 ∧ (∀ c, 1 ≤ c → c ≤ 15 → c ≠ i + 1 → T.op c = false) ∧ T.op (i + 1) = true ∧ T.par (i + 1) = ((0 : Nat) : Int) ∧ (∀ y, y < 4 → (O y).rd = 0 ∧ (O y).wr = 0 ∧ (O y).own 0 = V y) := by
  obtain ⟨T, W, O, q, hn, hop⟩ := h.q
  have hb := h.begin_ hi
  have hr : RInv (es ++ [⟨1, ((T.n + 1 : Nat) : Int), ((0 : Nat) : Int), 0, 0⟩]) (beginT T ((0 : Nat) : Int)) W := by
    rcases q.r.begin_or 0 with h1 | ⟨_, _, _, h3⟩
    · rw [hb] at h1
      have := congrArg List.length h1
      unfold su1 at this
      simp at this
    · exact h3
  have q1 := q.begin_ _ ((0 : Nat) : Int) rfl (by omega) hr
  rw [hn] at q1
  refine ⟨beginT T ((0 : Nat) : Int), W, O, q1, ?_, ?_, ?_, ?_, ?_⟩
  · show T.n + 1 = i + 1; omega
  · intro c h1 h2 h3
    show upd T.op (T.n + 1) true c = false
    unfold upd
    rw [if_neg (by omega)]
    exact hop c h1 h2
  · show upd T.op (T.n + 1) true (i + 1) = true
    unfold upd
    rw [if_pos (by omega)]
  · show upd T.par (T.n + 1) ((0 : Nat) : Int) (i + 1) = _
    unfold upd
    rw [if_pos (by omega)]
  · intro y hy
    have he := q.empty hop y hy
    exact ⟨he.1, he.2, by rw [q.own y hy 0 (Or.inl rfl)]; exact h.val y hy⟩

theorem Su.add {es : List Ev} {i : Nat} {V : Nat → Int} (h : Su es i V) (hi : i < 15) (x : Nat) (hx : x < 4) (v : Int) :
    accessR (su1 es i) 4 ((i + 1 : Nat) : Int) (x : Int) v = (su2 es i x v (V x), wrap32 (V x + v), 0) ∧
    ∃ T W O, QInv (su2 es i x v (V x)) T W O ∧ T.n = i + 1 ∧ (∀ c, 1 ≤ c → c ≤ 15 → c ≠ i + 1 → T.op c = false) ∧ T.op (i + 1) = true ∧ T.par (i + 1) = ((0 : Nat) : Int) ∧ (∀ y, y < 4 → (O y).own 0 = V y) ∧ (O x).wr.testBit (i + 1) = true ∧ (O x).own (i + 1) = wrap32 (V x + v) ∧ (∀ y, y < 4 → y ≠ x → (O y).wr = 0) := by
  obtain ⟨T, W, O, q, hn, hop, hot, hpt, hO⟩ := h.one hi
  have j := q.r.s.jj
  have hl := h.len
  have hopen : openL (su1 es i) ((i + 1 : Nat) : Int) = true := by rw [← j.op (i + 1) (by omega)]; exact hot
  have hlive := (live_of_open j hopen).1
  have his : isL (su1 es i) ((i + 1 : Nat) : Int) (x : Int) = V x := by
    rw [← value_is q (i + 1) x hx hlive, (hO x hx).2.1, Nat.zero_and, valD_zero]
    exact (hO x hx).2.2
  have hlen : (su1 es i).length = 3 * i + 1 := by unfold su1; simp; omega
  have hoth : othersL (su1 es i) 4 (x : Int) = 0 := by
    unfold othersL
    rw [if_neg (by decide), ← q.rd x hx, ← q.wr x hx, (hO x hx).1, (hO x hx).2.1]
    rfl
  have hacc : accessR (su1 es i) 4 ((i + 1 : Nat) : Int) (x : Int) v = (su1 es i ++ [accEv (su1 es i) 4 ((i + 1 : Nat) : Int) (x : Int) v], accN (su1 es i) 4 ((i + 1 : Nat) : Int) (x : Int) v, 0) := by
    unfold accessR
    rw [if_neg (by rw [hopen]; decide), if_neg (by omega), hoth, stranger_zero, if_neg (by decide), if_neg (by omega)]
  have hev : accEv (su1 es i) 4 ((i + 1 : Nat) : Int) (x : Int) v = ⟨4, ((i + 1 : Nat) : Int), (x : Int), v, V x⟩ := by unfold accEv; rw [if_neg (by decide), if_neg (by decide), his]
  have hN : accN (su1 es i) 4 ((i + 1 : Nat) : Int) (x : Int) v = wrap32 (V x + v) := by unfold accN; rw [if_neg (by decide), if_neg (by decide), his]
  have hr := q.r.access_fine 4 (i + 1) x v (Or.inr (Or.inr rfl)) hacc
  have q2 := q.write (accEv (su1 es i) 4 ((i + 1 : Nat) : Int) (x : Int) v) (i + 1) x hx (Or.inr rfl) rfl hopen (fun c hc hcl hb => by
    rw [← q.wr x hx, (hO x hx).2.1, Nat.zero_testBit] at hb
    cases hb) hr
  rw [hev] at hacc q2
  rw [hN] at hacc
  have hbec : becL ⟨4, ((i + 1 : Nat) : Int), (x : Int), v, V x⟩ = wrap32 (V x + v) := by unfold becL; rw [if_neg (show ¬ (4 : Int) = 3 by decide), if_pos rfl]
  rw [hbec] at q2
  refine ⟨hacc, T, _, _, q2, hn, hop, hot, hpt, fun y hy => ?_, ?_, ?_, fun y hy hyx => ?_⟩
  · unfold upd
    by_cases e : y = x
    · subst e; rw [if_pos rfl]; simp only; rw [if_neg (by omega)]; exact (hO y hy).2.2
    · rw [if_neg e]; exact (hO y hy).2.2
  · unfold upd
    rw [if_pos rfl]
    simp only
    rw [Nat.testBit_or, (bitN_bit (i + 1) (i + 1)).2 ⟨rfl, by omega, by omega⟩, Bool.or_true]
  · unfold upd
    rw [if_pos rfl]
    simp
  · unfold upd
    rw [if_neg hyx]
    exact (hO y hy).2.1

theorem Su.done {es : List Ev} {i : Nat} {V : Nat → Int} (h : Su es i V) (hi : i < 15) (x : Nat) (hx : x < 4) (v : Int) :
    endR (su2 es i x v (V x)) 5 ((i + 1 : Nat) : Int) = (su3 es i x v (V x) 5, 0) ∧ Su (su3 es i x v (V x) 5) (i + 1) (upd V x (wrap32 (V x + v))) ∧
    endR (su2 es i x v (V x)) 6 ((i + 1 : Nat) : Int) = (su3 es i x v (V x) 6, 0) ∧ Su (su3 es i x v (V x) 6) (i + 1) V := by
  obtain ⟨_, T, W, O, q, hn, hop, hot, hpt, hO, hwr, hown, hoth⟩ := h.add hi x hx v
  have j := q.r.s.jj
  have hl := h.len
  have hopen : openL (su2 es i x v (V x)) ((i + 1 : Nat) : Int) = true := by rw [← j.op (i + 1) (by omega)]; exact hot
  have hlen : (su2 es i x v (V x)).length = 3 * i + 2 := by unfold su2 su1; simp; omega
  have hch : childL (su2 es i x v (V x)) ((i + 1 : Nat) : Int) = false := by
    rw [← child_eq j]
    unfold childT
    rw [List.any_eq_false]
    intro c hc
    rw [List.mem_range] at hc
    by_cases e : c + 1 = i + 1
    · rw [e, hpt]
      simp
      omega
    · rw [hop (c + 1) (by omega) (by omega) e]
      simp
  have h5 : endR (su2 es i x v (V x)) 5 ((i + 1 : Nat) : Int) = (su3 es i x v (V x) 5, 0) := by
    unfold endR su3
    rw [if_neg (by rw [hopen]; decide), if_neg (by rw [hch]; simp), if_neg (by omega)]
  have h6 : endR (su2 es i x v (V x)) 6 ((i + 1 : Nat) : Int) = (su3 es i x v (V x) 6, 0) := by
    unfold endR su3
    rw [if_neg (by rw [hopen]; decide), if_neg (by simp), if_neg (by omega)]
  refine ⟨h5, ?_, h6, ?_⟩
  · obtain ⟨p, hp, hr⟩ : ∃ p : Nat, T.par (i + 1) = (p : Int) ∧ RInv (su2 es i x v (V x) ++ [⟨5, ((i + 1 : Nat) : Int), ((0 : Nat) : Int), 0, 0⟩]) (commitT T (i + 1)) (upd W p (W p ++ W (i + 1))) := by
      rcases q.r.end_or 5 (i + 1) (Or.inl rfl) with h1 | ⟨_, _, h3, _⟩
      · rw [h5] at h1
        have := congrArg List.length h1
        unfold su3 at this
        simp at this
      · exact (h3 rfl).2
    have hp0 : p = 0 := by rw [hpt] at hp; omega
    subst hp0
    have q3 := q.commit ⟨5, ((i + 1 : Nat) : Int), 0, 0, 0⟩ (i + 1) 0 rfl hopen hch hp hr
    refine ⟨⟨_, _, _, q3, ?_, fun c h1 h2 => ?_⟩, ?_, fun y hy => ?_⟩
    · show T.n = i + 1; exact hn
    · show upd T.op (i + 1) false c = false
      unfold upd
      by_cases e : c = i + 1
      · rw [if_pos e]
      · rw [if_neg e]; exact hop c h1 h2 e
    · unfold su3; rw [List.length_append, hlen]; simp; omega
    · have := q3.own y hy 0 (Or.inl rfl)
      have e3 : isL (su3 es i x v (V x) 5) 0 (y : Int) = (handO (O y) (i + 1) 0).own 0 := this.symm
      rw [e3]
      show (if (O y).wr.testBit (i + 1) then upd (O y).own 0 ((O y).own (i + 1)) else (O y).own) 0 = _
      unfold upd
      by_cases e : y = x
      · subst e
        rw [if_pos hwr, if_pos rfl]
        simp only
        rw [if_true]
        exact hown
      · rw [hoth y hy e, Nat.zero_testBit, if_neg (by decide), if_neg e]
        exact hO y hy
  · have hr : RInv (su2 es i x v (V x) ++ [⟨6, ((i + 1 : Nat) : Int), ((0 : Nat) : Int), 0, 0⟩]) (abortT T (i + 1)) W := by
      rcases q.r.end_or 6 (i + 1) (Or.inr rfl) with h1 | ⟨_, _, _, h4⟩
      · rw [h6] at h1
        have := congrArg List.length h1
        unfold su3 at this
        simp at this
      · exact h4 rfl
    have q3 := q.abort ⟨6, ((i + 1 : Nat) : Int), 0, 0, 0⟩ (i + 1) rfl hopen hr
    refine ⟨⟨_, _, _, q3, ?_, fun c h1 h2 => ?_⟩, ?_, fun y hy => ?_⟩
    · show T.n = i + 1; exact hn
    · rw [← Bool.not_eq_true]
      intro hc
      have hlc : Live (abortT T (i + 1)) c := Or.inr ⟨h1, h2, hc⟩
      rw [live_abort j (i + 1) hopen c] at hlc
      by_cases e : c = i + 1
      · subst e
        exact hlc.2 (pth_self (jj_par j) (i + 1) (by omega))
      · rcases hlc.1 with h3 | h3
        · omega
        · rw [hop c h1 h2 e] at h3; exact absurd h3.2.2 (by decide)
    · unfold su3; rw [List.length_append, hlen]; simp; omega
    · have := q3.own y hy 0 (Or.inl rfl)
      have e3 : isL (su3 es i x v (V x) 6) 0 (y : Int) = (keepO (O y) (openD (abortT T (i + 1)).op 15 0)).own 0 := this.symm
      rw [e3]
      exact hO y hy

/-- Behind a last Begin the objects are as they were. -/
theorem Su.after {es : List Ev} {i : Nat} {V : Nat → Int} (h : Su es i V) (hi : i < 15) (y : Nat) (hy : y < 4) : isL (su1 es i) 0 (y : Int) = V y := by
  obtain ⟨T, W, O, q, _, _, _, _, hO⟩ := h.one hi
  rw [← (hO y hy).2.2]
  exact (q.own y hy 0 (Or.inl rfl)).symm

end Go.Proofs.Ytfdalbmopaemgab
