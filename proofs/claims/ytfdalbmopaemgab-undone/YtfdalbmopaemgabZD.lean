import Derived.Test.YtfdalbmopaemgabZA
import Derived.Test.YtfdalbmopaemgabZG6
namespace Go.Proofs.Ytfdalbmopaemgab
open Go.RowKit

/-- Two rows of four values are compared. -/
theorem Try.eqVals (w : World) (x0 x1 x2 x3 y0 y1 y2 y3 : Int) : (Op.equalIn 10000 53 (.agg #[.int .i32 x0, .int .i32 x1, .int .i32 x2, .int .i32 x3]) (.agg #[.int .i32 y0, .int .i32 y1, .int .i32 y2, .int .i32 y3])).run Try.prog w = .ok (x0 == y0 && (x1 == y1 && (x2 == y2 && x3 == y3))) w := by
  have hu := Try.underlying53
  rw [show (10000 : Nat) = 9999 + 1 from rfl, Op.equalIn]
  simp only [Sem.run_bind, run_underlying hu, Result.andThen_ok]
  simp only [Std.Legacy.Range.forIn_eq_forIn_range', Std.Legacy.Range.size]
  simp [List.range', part, go_sem, Try.isAgg21, Try.sizeOf21]
  by_cases h0 : x0 = y0 <;> by_cases h1 : x1 = y1 <;> by_cases h2 : x2 = y2 <;> by_cases h3 : x3 = y3 <;> simp [*]

end Go.Proofs.Ytfdalbmopaemgab

namespace Go.Proofs.Ytfdalbmopaemgab
open Go.RowKit

/-! ### A chain of transactions in one another -/
def sumL (f : Nat → Int) : Nat → Int
  | 0 => 0
  | k + 1 => wrap32 (sumL f k + f k)

def bgE (i : Nat) : Ev := ⟨1, ((i + 1 : Nat) : Int), ((i : Nat) : Int), 0, 0⟩
def adE (f : Nat → Int) (i : Nat) : Ev := ⟨4, ((i + 1 : Nat) : Int), ((1 : Nat) : Int), f i, sumL f i⟩
def enE (cut : Int) (i : Nat) : Ev := ⟨if (i : Int) = cut then 6 else 5, ((i + 1 : Nat) : Int), ((0 : Nat) : Int), 0, 0⟩

def upL (f : Nat → Int) : Nat → List Ev
  | 0 => []
  | k + 1 => upL f k ++ [bgE k] ++ [adE f k]

def dnL (cut : Int) (n : Nat) : Nat → List Ev
  | 0 => []
  | j + 1 => dnL cut n j ++ [enE cut (n - 1 - j)]

def chL (f : Nat → Int) (cut : Int) (n : Nat) : List Ev := upL f n ++ dnL cut n n

def ownP (x : Nat) : List Nat := if x = 0 then [] else [2 * x - 1]

theorem upL_length (f : Nat → Int) : ∀ k, (upL f k).length = 2 * k
  | 0 => rfl
  | k + 1 => by simp [upL, upL_length f k]; omega

theorem dnL_length (cut : Int) (n : Nat) : ∀ j, (dnL cut n j).length = j
  | 0 => rfl
  | j + 1 => by simp [dnL, dnL_length cut n j]

def runG : Tr → (Nat → List Nat) → Nat → List Ev → Tr × (Nat → List Nat)
  | T, W, _, [] => (T, W)
  | T, W, i, e :: l => runG (stepT T e.k e.t.toNat e.a.toNat) (gStep W T.par i e.k e.t.toNat) (i + 1) l

theorem gather_run : ∀ (l : List Ev) (T : Tr) (W : Nat → List Nat) (i : Nat), gatherG T W i l = (runG T W i l).2
  | [], _, _, _ => rfl
  | e :: l, T, W, i => by rw [gatherG, runG, gather_run l]

theorem run_snoc (e : Ev) : ∀ (l : List Ev) (T : Tr) (W : Nat → List Nat) (i : Nat), runG T W i (l ++ [e]) = (stepT (runG T W i l).1 e.k e.t.toNat e.a.toNat, gStep (runG T W i l).2 (runG T W i l).1.par (i + l.length) e.k e.t.toNat)
  | [], T, W, i => rfl
  | x :: l, T, W, i => by
    rw [List.cons_append, runG, runG, run_snoc e l, List.length_cons, show i + 1 + l.length = i + (l.length + 1) by omega]

theorem check_snoc (e : Ev) : ∀ (l pre : List Ev), checkG pre l = (0, 0) → wrongL (pre ++ l) e = 0 → checkG pre (l ++ [e]) = (0, 0)
  | [], pre, _, h => by
    rw [List.append_nil] at h
    rw [List.nil_append, checkG, if_pos h, checkG]
  | x :: l, pre, h, hw => by
    rw [List.cons_append, checkG]
    rw [checkG] at h
    by_cases hx : wrongL pre x = 0
    · rw [if_pos hx] at h ⊢
      exact check_snoc e l (pre ++ [x]) h (by simpa using hw)
    · rw [if_neg hx] at h
      exact absurd (congrArg Prod.fst h) hx

theorem wrong_zero {h : List Ev} {T : Tr} (j : JJ h T) (hl : h.length < 60) (e : Ev) (hk : isKind e.k = true) (hb : e.k = 1 → T.n < 15 ∧ e.t = (T.n : Int) + 1 ∧ (e.a = 0 ∨ openL h e.a = true)) (ho : e.k ≠ 1 → openL h e.t = true) (ha : 2 ≤ e.k → e.k ≤ 4 → e.a < 4) (he : emptyL e = true) (hc : e.k = 5 → childL h e.t = false) : wrongL h e = 0 := by
  unfold wrongL
  rw [if_neg (by omega), if_neg (by rw [hk]; decide), if_neg, if_neg, if_neg, if_neg, if_neg (by rw [he]; decide), if_neg]
  · rintro ⟨h1, h2⟩
    rw [hc h1] at h2
    cases h2
  · rintro ⟨h1, h2, h3⟩
    have := ha h1 h2
    omega
  · rintro ⟨h1, h2⟩
    rw [ho h1] at h2
    cases h2
  · rintro ⟨h1, h2, h3⟩
    rcases (hb h1).2.2 with h4 | h4
    · exact h2 h4
    · rw [h4] at h3; cases h3
  · rintro ⟨h1, h2⟩
    have := hb h1
    rw [← j.n] at h2
    omega

structure Ch (h : List Ev) (T : Tr) (W : Nat → List Nat) (n r : Nat) (C : List Nat) : Prop where
  jj : JJ h T
  run : runG tr0 (fun _ => []) 0 h = (T, W)
  ck : checkG [] h = (0, 0)
  tn : T.n = n
  par : ∀ c, 1 ≤ c → c ≤ n → T.par c = ((c - 1 : Nat) : Int)
  op : ∀ c, c ≤ 15 → T.op c = decide (1 ≤ c ∧ c ≤ r)
  rn : r ≤ n
  low : ∀ x, x < r → W x = ownP x
  at_ : W r = C
  new : ∀ x, n < x → W x = []

theorem Ch.start : Ch [] tr0 (fun _ => []) 0 0 [] :=
  ⟨JJ.start, rfl, rfl, rfl, fun c h1 h2 => by omega, fun c _ => by show false = _; simp; omega, Nat.le_refl _, fun x hx => by omega, rfl, fun _ _ => rfl⟩

theorem Ch.snoc {h : List Ev} {T : Tr} {W : Nat → List Nat} {n r : Nat} {C : List Nat} (g : Ch h T W n r C) (k : Int) (t a : Nat) (v s : Int) (hw : wrongL h ⟨k, (t : Int), (a : Int), v, s⟩ = 0) :
    JJ (h ++ [⟨k, (t : Int), (a : Int), v, s⟩]) (stepT T k t a) ∧ runG tr0 (fun _ => []) 0 (h ++ [⟨k, (t : Int), (a : Int), v, s⟩]) = (stepT T k t a, gStep W T.par h.length k t) ∧ checkG [] (h ++ [⟨k, (t : Int), (a : Int), v, s⟩]) = (0, 0) := by
  refine ⟨(step_ok g.jj k t a v s hw).2, ?_, check_snoc _ h [] g.ck (by simpa using hw)⟩
  rw [run_snoc, g.run]
  simp only [Int.toNat_natCast, Nat.zero_add]

theorem Ch.open_ {h : List Ev} {T : Tr} {W : Nat → List Nat} {n r : Nat} {C : List Nat} (g : Ch h T W n r C) (c : Nat) (h1 : 1 ≤ c) (h2 : c ≤ r) : openL h (c : Int) = true := by
  have h15 := g.jj.n15
  have hn := g.tn
  have hr := g.rn
  rw [← g.jj.op c (by omega), g.op c (by omega)]
  simp
  omega

theorem Ch.begin {h : List Ev} {T : Tr} {W : Nat → List Nat} {r : Nat} (g : Ch h T W r r (ownP r)) (hr : r < 15) (hl : h.length < 60) : Ch (h ++ [bgE r]) (beginT T (r : Int)) W (r + 1) (r + 1) [] := by
  have hn := g.tn
  have hw : wrongL h ⟨1, ((r + 1 : Nat) : Int), ((r : Nat) : Int), 0, 0⟩ = 0 := by
    refine wrong_zero g.jj hl _ rfl (fun _ => ⟨by omega, by simp only; omega, ?_⟩) (fun q => absurd rfl q) (fun q _ => by simp only at q; omega) (by simp [emptyL]) (fun q => by simp only at q; omega)
    simp only
    by_cases h0 : r = 0
    · exact Or.inl (by omega)
    · exact Or.inr (g.open_ r (by omega) (Nat.le_refl _))
  obtain ⟨a1, a2, a3⟩ := g.snoc 1 (r + 1) r 0 0 hw
  have hT : stepT T 1 (r + 1) r = beginT T (r : Int) := by unfold stepT; rw [if_pos rfl]
  have hW : gStep W T.par h.length 1 (r + 1) = W := gStep_not (by decide) (by decide)
  rw [hT] at a1 a2
  rw [hW] at a2
  refine ⟨a1, a2, a3, by simp [beginT, hn], fun c h1 h2 => ?_, fun c hc => ?_, Nat.le_refl _, fun x hx => ?_, g.new _ (by omega), fun x hx => g.new x (by omega)⟩
  · simp only [beginT, upd]
    by_cases e : c = T.n + 1
    · rw [if_pos e, e, hn]; simp
    · rw [if_neg e]; exact g.par c h1 (by omega)
  · simp only [beginT, upd]
    by_cases e : c = T.n + 1
    · rw [if_pos e]; simp; omega
    · rw [if_neg e, g.op c hc, Bool.eq_iff_iff]; simp; omega
  · by_cases e : x = r
    · subst e; exact g.at_
    · exact g.low x (by omega)

theorem Ch.add {h : List Ev} {T : Tr} {W : Nat → List Nat} {r : Nat} (g : Ch h T W (r + 1) (r + 1) []) (f : Nat → Int) (hl : h.length < 60) (hh : h.length = 2 * r + 1) : Ch (h ++ [adE f r]) T (upd W (r + 1) (ownP (r + 1))) (r + 1) (r + 1) (ownP (r + 1)) := by
  have hn := g.tn
  have h15 := g.jj.n15
  have hw : wrongL h ⟨4, ((r + 1 : Nat) : Int), ((1 : Nat) : Int), f r, sumL f r⟩ = 0 := by
    refine wrong_zero g.jj hl _ rfl (fun q => by simp only at q; omega) (fun _ => g.open_ (r + 1) (by omega) (Nat.le_refl _)) (fun _ _ => by simp only; omega) (by simp [emptyL]) (fun q => by simp only at q; omega)
  obtain ⟨a1, a2, a3⟩ := g.snoc 4 (r + 1) 1 (f r) (sumL f r) hw
  have hT : stepT T 4 (r + 1) 1 = T := by unfold stepT; rw [if_neg (by decide), if_neg (by decide), if_neg (by decide)]
  have hW : gStep W T.par h.length 4 (r + 1) = upd W (r + 1) (ownP (r + 1)) := by
    rw [gStep_obj (by decide), g.at_]
    unfold ownP
    rw [if_neg (by omega), hh, List.nil_append, show 2 * (r + 1) - 1 = 2 * r + 1 by omega]
  rw [hT] at a1 a2
  rw [hW] at a2
  refine ⟨a1, a2, a3, hn, g.par, g.op, Nat.le_refl _, fun x hx => ?_, ?_, fun x hx => ?_⟩
  · unfold upd; rw [if_neg (by omega)]; exact g.low x hx
  · unfold upd; rw [if_pos rfl]
  · unfold upd; rw [if_neg (by omega)]; exact g.new x hx

theorem Ch.commit {h : List Ev} {T : Tr} {W : Nat → List Nat} {n r : Nat} {C : List Nat} (g : Ch h T W n (r + 1) C) (hl : h.length < 60) : Ch (h ++ [⟨5, ((r + 1 : Nat) : Int), ((0 : Nat) : Int), 0, 0⟩]) (commitT T (r + 1)) (upd W r (ownP r ++ C)) n r (ownP r ++ C) := by
  have hn := g.tn
  have h15 := g.jj.n15
  have hrn := g.rn
  have hch : childL h ((r + 1 : Nat) : Int) = false := by
    rw [← child_eq g.jj]
    unfold childT
    rw [List.any_eq_false]
    intro i hi
    have hi' : i < 15 := by simpa using hi
    rw [g.op (i + 1) (by omega)]
    by_cases e : i + 1 ≤ r + 1
    · rw [g.par (i + 1) (by omega) (by omega)]
      simp
      omega
    · simp
      omega
  have hw : wrongL h ⟨5, ((r + 1 : Nat) : Int), ((0 : Nat) : Int), 0, 0⟩ = 0 :=
    wrong_zero g.jj hl _ rfl (fun q => by simp only at q; omega) (fun _ => g.open_ (r + 1) (by omega) (Nat.le_refl _)) (fun q q' => by simp only at q'; omega) (by simp [emptyL]) (fun _ => hch)
  obtain ⟨a1, a2, a3⟩ := g.snoc 5 (r + 1) 0 0 0 hw
  have hT : stepT T 5 (r + 1) 0 = commitT T (r + 1) := by unfold stepT; rw [if_neg (by decide), if_pos rfl]
  have hW : gStep W T.par h.length 5 (r + 1) = upd W r (ownP r ++ C) := by
    rw [gStep_com (p := r) (by rw [g.par (r + 1) (by omega) hrn]; rfl), g.at_, g.low r (by omega)]
  rw [hT] at a1 a2
  rw [hW] at a2
  refine ⟨a1, a2, a3, hn, g.par, fun c hc => ?_, by omega, fun x hx => ?_, ?_, fun x hx => ?_⟩
  · simp only [commitT, upd]
    by_cases e : c = r + 1
    · rw [if_pos e]; simp; omega
    · rw [if_neg e, g.op c hc, Bool.eq_iff_iff]; simp; omega
  · unfold upd; rw [if_neg (by omega)]; exact g.low x (by omega)
  · unfold upd; rw [if_pos rfl]
  · unfold upd; rw [if_neg (by omega)]; exact g.new x hx

theorem within_lt {h : List Ev} {T : Tr} (j : JJ h T) (a : Nat) : ∀ (f c : Nat), c ≤ T.n → c < a → withinG h (a : Int) f (c : Int) = false
  | 0, c, _, hc => by unfold withinG; simp; omega
  | f + 1, c, hn, hc => by
    unfold withinG
    rw [if_neg (by omega)]
    by_cases h0 : c = 0
    · rw [if_pos (by omega)]
    · rw [if_neg (by omega)]
      have hl := j.low c (by omega) hn
      obtain ⟨p, hp⟩ : ∃ p : Nat, parentL h (c : Int) = (p : Int) := ⟨(parentL h (c : Int)).toNat, by omega⟩
      rw [hp] at hl ⊢
      exact within_lt j a f p (by omega) (by omega)

theorem Ch.abort {h : List Ev} {T : Tr} {W : Nat → List Nat} {n r : Nat} {C : List Nat} (g : Ch h T W n (r + 1) C) (hl : h.length < 60) : Ch (h ++ [⟨6, ((r + 1 : Nat) : Int), ((0 : Nat) : Int), 0, 0⟩]) (abortT T (r + 1)) W n r (ownP r) := by
  have hn := g.tn
  have h15 := g.jj.n15
  have hrn := g.rn
  have ho := g.open_ (r + 1) (by omega) (Nat.le_refl _)
  have hw : wrongL h ⟨6, ((r + 1 : Nat) : Int), ((0 : Nat) : Int), 0, 0⟩ = 0 :=
    wrong_zero g.jj hl _ rfl (fun q => by simp only at q; omega) (fun _ => ho) (fun q q' => by simp only at q'; omega) (by simp [emptyL]) (fun q => by simp only at q; omega)
  obtain ⟨a1, a2, a3⟩ := g.snoc 6 (r + 1) 0 0 0 hw
  have hT : stepT T 6 (r + 1) 0 = abortT T (r + 1) := by unfold stepT; rw [if_neg (by decide), if_neg (by decide), if_pos rfl]
  have hW : gStep W T.par h.length 6 (r + 1) = W := gStep_not (by decide) (by decide)
  rw [hT] at a1 a2
  rw [hW] at a2
  refine ⟨a1, a2, a3, hn, g.par, fun c hc => ?_, by omega, fun x hx => g.low x (by omega), g.low r (by omega), g.new⟩
  simp only [abortT]
  rw [ab_main g.jj (r + 1) ho 15 (by omega) c hc, if_pos hc, ← g.jj.op c hc, g.op c hc]
  by_cases e : c ≤ r
  · rw [within_lt g.jj (r + 1) 16 c (by omega) (by omega), Bool.eq_iff_iff]
    simp
    omega
  · by_cases e' : c = r + 1
    · subst e'
      have : withinG h ((r + 1 : Nat) : Int) 16 ((r + 1 : Nat) : Int) = true := by rw [withinG, if_pos rfl]
      rw [this, Bool.eq_iff_iff]
      simp
    · rw [Bool.eq_iff_iff]
      simp
      omega

def Cf (cut : Int) (n : Nat) : Nat → List Nat
  | 0 => ownP n
  | j + 1 => ownP (n - 1 - j) ++ (if ((n - 1 - j : Nat) : Int) = cut then [] else Cf cut n j)

theorem ch_up (f : Nat → Int) : ∀ k, k ≤ 15 → ∃ T W, Ch (upL f k) T W k k (ownP k)
  | 0, _ => ⟨_, _, Ch.start⟩
  | k + 1, hk => by
    obtain ⟨T, W, g⟩ := ch_up f k (by omega)
    have hl := upL_length f k
    exact ⟨_, _, (g.begin (by omega) (by omega)).add f (by simp; omega) (by simp; omega)⟩

theorem ch_dn (f : Nat → Int) (cut : Int) (n : Nat) (hn : n ≤ 15) : ∀ j, j ≤ n → ∃ T W, Ch (upL f n ++ dnL cut n j) T W n (n - j) (Cf cut n j)
  | 0, _ => by
    obtain ⟨T, W, g⟩ := ch_up f n hn
    exact ⟨T, W, by simpa [dnL, Cf] using g⟩
  | j + 1, hj => by
    obtain ⟨T, W, g⟩ := ch_dn f cut n hn j (by omega)
    have hl : (upL f n ++ dnL cut n j).length < 60 := by rw [List.length_append, upL_length, dnL_length]; omega
    rw [show n - j = (n - 1 - j) + 1 by omega] at g
    rw [dnL, ← List.append_assoc, show n - (j + 1) = n - 1 - j by omega, Cf, enE]
    by_cases e : ((n - 1 - j : Nat) : Int) = cut
    · rw [if_pos e, if_pos e, List.append_nil]
      exact ⟨_, _, g.abort hl⟩
    · rw [if_neg e, if_neg e]
      exact ⟨_, _, g.commit hl⟩

/-! ### What is played of it -/
def rng (a : Nat) : Nat → List Nat
  | 0 => []
  | c + 1 => ownP a ++ rng (a + 1) c

def cnt (cut : Int) (n : Nat) : Nat → Nat
  | 0 => 1
  | j + 1 => 1 + (if ((n - 1 - j : Nat) : Int) = cut then 0 else cnt cut n j)

theorem cf_rng (cut : Int) (n : Nat) : ∀ j, j ≤ n → Cf cut n j = rng (n - j) (cnt cut n j)
  | 0, _ => by simp [Cf, cnt, rng]
  | j + 1, hj => by
    rw [Cf, cnt, show 1 + (if ((n - 1 - j : Nat) : Int) = cut then 0 else cnt cut n j) = (if ((n - 1 - j : Nat) : Int) = cut then 0 else cnt cut n j) + 1 by omega, rng, show n - (j + 1) = n - 1 - j by omega]
    by_cases e : ((n - 1 - j : Nat) : Int) = cut
    · rw [if_pos e, if_pos e, rng]
    · rw [if_neg e, if_neg e, cf_rng cut n j (by omega), show n - 1 - j + 1 = n - j by omega]

def mOf (cut : Int) (n : Nat) : Nat := if 0 ≤ cut ∧ cut < (n : Int) then cut.toNat else n

theorem cnt_none (cut : Int) (n : Nat) : ∀ j, j ≤ n → (∀ i, i < j → ((n - 1 - i : Nat) : Int) ≠ cut) → cnt cut n j = j + 1
  | 0, _, _ => rfl
  | j + 1, hj, h => by
    rw [cnt, if_neg (h j (by omega)), cnt_none cut n j (by omega) fun i hi => h i (by omega)]
    omega

theorem cnt_cut (c n : Nat) (hc : c < n) : ∀ j, j ≤ n → n - c ≤ j → cnt (c : Int) n j = j - (n - c) + 1
  | 0, _, h => by omega
  | j + 1, hj, h => by
    rw [cnt]
    by_cases e : n - 1 - j = c
    · rw [if_pos (by omega)]; omega
    · rw [if_neg (by omega), cnt_cut c n hc j (by omega) (by omega)]; omega

theorem cnt_all (cut : Int) (n : Nat) : cnt cut n n = mOf cut n + 1 := by
  unfold mOf
  by_cases h : 0 ≤ cut ∧ cut < (n : Int)
  · rw [if_pos h]
    obtain ⟨c, rfl⟩ : ∃ c : Nat, cut = (c : Int) := ⟨cut.toNat, by omega⟩
    rw [Int.toNat_natCast, cnt_cut c n (by omega) n (Nat.le_refl _) (by omega)]
    omega
  · rw [if_neg h, cnt_none cut n n (Nat.le_refl _) fun i hi e => h (by omega)]

theorem up_at (f : Nat → Int) (i : Nat) : ∀ n, i < n → (upL f n)[2 * i + 1]? = some (adE f i)
  | 0, h => by omega
  | n + 1, h => by
    have hl := upL_length f n
    rw [upL]
    by_cases e : i = n
    · subst e
      rw [List.getElem?_append_right (by simp; omega)]
      simp [hl]
    · rw [List.append_assoc, List.getElem?_append_left (by omega)]
      exact up_at f i n (by omega)

theorem ch_play (f : Nat → Int) (cut : Int) (n : Nat) : ∀ (c a : Nat) (V : Nat → Int), a + c ≤ n → V 1 = sumL f a → ∃ V', playL (chL f cut n) V (rng (a + 1) c) = (-1, V') ∧ V' 1 = sumL f (a + c) ∧ ∀ i, i ≠ 1 → V' i = V i
  | 0, a, V, _, h => ⟨V, rfl, by simpa using h, fun _ _ => rfl⟩
  | c + 1, a, V, hac, h => by
    have he : (chL f cut n)[2 * a + 1]? = some (adE f a) := by
      unfold chL
      rw [List.getElem?_append_left (by rw [upL_length]; omega)]
      exact up_at f a n (by omega)
    obtain ⟨V', h1, h2, h3⟩ := ch_play f cut n c (a + 1) (upd V 1 (sumL f (a + 1))) (by omega) (by simp [upd])
    refine ⟨V', ?_, by rw [h2]; congr 1; omega, fun i hi => by rw [h3 i hi]; simp [upd, hi]⟩
    have ho : ownP (a + 1) = [2 * a + 1] := by unfold ownP; rw [if_neg (by omega), show 2 * (a + 1) - 1 = 2 * a + 1 by omega]
    have hb : becL (adE f a) = sumL f (a + 1) := by simp [becL, adE, sumL]
    have ha : (adE f a).a.toNat = 1 := rfl
    rw [rng, ho, List.cons_append, List.nil_append, playL, he]
    simp only
    rw [ha, hb, if_neg (fun q => q.2 (by rw [h]; rfl)), h1]

def keptL (f : Nat → Int) (cut : Int) : Nat → Int
  | 0 => 0
  | k + 1 => if (k : Int) < cut then sumL f (k + 1) else keptL f cut k

def keptF (f : Nat → Int) (cut : Int) (n : Nat) : Int := if cut < 0 then sumL f n else keptL f cut n

theorem kept_le (f : Nat → Int) (cut : Int) : ∀ k, ((k : Nat) : Int) ≤ cut → keptL f cut k = sumL f k
  | 0, _ => rfl
  | k + 1, h => by rw [keptL, if_pos (by omega)]

theorem kept_ge (f : Nat → Int) (c : Nat) : ∀ k, c ≤ k → keptL f (c : Int) k = sumL f c
  | 0, h => by rw [show c = 0 by omega]; rfl
  | k + 1, h => by
    by_cases e : c = k + 1
    · subst e; exact kept_le f _ (k + 1) (Int.le_refl _)
    · rw [keptL, if_neg (by omega)]; exact kept_ge f c k (by omega)

theorem kept_sum (f : Nat → Int) (cut : Int) (n : Nat) : sumL f (mOf cut n) = keptF f cut n := by
  unfold mOf keptF
  by_cases h0 : cut < 0
  · rw [if_pos h0, if_neg (by omega)]
  · rw [if_neg h0]
    obtain ⟨c, rfl⟩ : ∃ c : Nat, cut = (c : Int) := ⟨cut.toNat, by omega⟩
    by_cases h1 : c < n
    · rw [if_pos (by omega), Int.toNat_natCast, kept_ge f c n (by omega)]
    · rw [if_neg (by omega), kept_le f _ n (by omega)]

theorem deeper_pure (f : Nat → Int) (cut : Int) (n : Nat) (hn : n ≤ 15) : checkG [] (chL f cut n) = (0, 0) ∧ ∃ V, replayG (chL f cut n) = (-1, V, 0) ∧ V 0 = 0 ∧ V 1 = keptF f cut n ∧ V 2 = 0 ∧ V 3 = 0 := by
  obtain ⟨T, W, g⟩ := ch_dn f cut n hn n (Nat.le_refl _)
  have hck := g.ck
  refine ⟨hck, ?_⟩
  have hord : orderL (chL f cut n) = rng 1 (mOf cut n) := by
    unfold orderL
    have h1 : runG tr0 (fun _ => []) 0 (chL f cut n) = (T, W) := g.run
    have h2 := g.at_
    rw [Nat.sub_self, cf_rng cut n n (Nat.le_refl _), Nat.sub_self, cnt_all, rng] at h2
    rw [gather_run, h1]
    show W 0 = _
    rw [h2]
    rfl
  have hm : mOf cut n ≤ n := by unfold mOf; split <;> omega
  obtain ⟨V, h1, h2, h3⟩ := ch_play f cut n (mOf cut n) 0 (fun _ => 0) (by omega) rfl
  refine ⟨V, ?_, h3 0 (by omega), by rw [h2, Nat.zero_add, kept_sum], h3 2 (by omega), h3 3 (by omega)⟩
  have hck' : (checkG [] (chL f cut n)).1 = 0 := by unfold chL; rw [hck]
  unfold replayG
  rw [if_pos hck', hord, h1]

end Go.Proofs.Ytfdalbmopaemgab
