import Derived.Test.YtfdalbmopaemgabZT1
import Derived.Test.YtfdalbmopaemgabZD
namespace Go.Proofs.Ytfdalbmopaemgab
open Go.RowKit

/-! ### The last that wrote an object, of those in a list -/
def lastW (es : List Ev) (L : List Nat) (x : Nat) : Nat → Int
  | 0 => 0
  | k + 1 => match es[k]? with
    | none => lastW es L x k
    | some e => if (e.k = 3 ∨ e.k = 4) ∧ e.a.toNat = x ∧ k ∈ L then becL e else lastW es L x k

theorem lastW_congr {es : List Ev} {L L' : List Nat} {x : Nat} : ∀ k, (∀ i, i < k → ∀ e, es[i]? = some e → (e.k = 3 ∨ e.k = 4) → e.a.toNat = x → (i ∈ L ↔ i ∈ L')) → lastW es L x k = lastW es L' x k
  | 0, _ => rfl
  | k + 1, h => by
    have ih := lastW_congr (L := L) (L' := L') k fun i hi => h i (by omega)
    rw [lastW, lastW]
    cases he : es[k]? with
    | none => exact ih
    | some e =>
      simp only
      by_cases h1 : (e.k = 3 ∨ e.k = 4) ∧ e.a.toNat = x
      · have hm := h k (by omega) e he h1.1 h1.2
        by_cases h2 : k ∈ L
        · rw [if_pos ⟨h1.1, h1.2, h2⟩, if_pos ⟨h1.1, h1.2, hm.1 h2⟩]
        · rw [if_neg (fun q => h2 q.2.2), if_neg (fun q => h2 (hm.2 q.2.2)), ih]
      · rw [if_neg (fun q => h1 ⟨q.1, q.2.1⟩), if_neg (fun q => h1 ⟨q.1, q.2.1⟩), ih]

theorem lastW_ext {es : List Ev} (m : List Ev) {L : List Nat} {x : Nat} : ∀ k, k ≤ es.length → lastW (es ++ m) L x k = lastW es L x k
  | 0, _ => rfl
  | k + 1, h => by
    rw [lastW, lastW, List.getElem?_append_left (by omega), lastW_ext m k (by omega)]

theorem lastW_old {es : List Ev} (e : Ev) {L : List Nat} {x : Nat} (h : es.length ∉ L) : lastW (es ++ [e]) L x (es.length + 1) = lastW es L x es.length := by
  rw [lastW]
  have he : (es ++ [e])[es.length]? = some e := by simp
  rw [he]
  simp only
  rw [if_neg (fun q => h q.2.2)]
  exact lastW_ext [e] es.length (Nat.le_refl _)

theorem lastW_new {es : List Ev} (e : Ev) {L : List Nat} {x : Nat} (h : es.length ∈ L) (hk : e.k = 3 ∨ e.k = 4) (hx : e.a.toNat = x) : lastW (es ++ [e]) L x (es.length + 1) = becL e := by
  rw [lastW]
  have he : (es ++ [e])[es.length]? = some e := by simp
  rw [he]
  simp only
  rw [if_pos ⟨hk, hx, h⟩]

theorem lastW_not {es : List Ev} (e : Ev) {L : List Nat} {x : Nat} (h : ¬ ((e.k = 3 ∨ e.k = 4) ∧ e.a.toNat = x)) : lastW (es ++ [e]) L x (es.length + 1) = lastW es L x es.length := by
  rw [lastW]
  have he : (es ++ [e])[es.length]? = some e := by simp
  rw [he]
  simp only
  rw [if_neg (fun q => h ⟨q.1, q.2.1⟩)]
  exact lastW_ext [e] es.length (Nat.le_refl _)

/-! ### What holds of a store's events -/
def Live (T : Tr) (u : Nat) : Prop := u = 0 ∨ (1 ≤ u ∧ u ≤ 15 ∧ T.op u = true)

def zeroV : Nat → Int := fun _ => 0

structure PlaysAs (es : List Ev) (L : List Nat) : Prop where
  fits : (playL es zeroV L).1 = -1
  val : ∀ x, (playL es zeroV L).2 x = lastW es L x es.length

structure SInv (es : List Ev) (T : Tr) (W : Nat → List Nat) : Prop where
  gi : GI es es.length T W
  run : runG tr0 (fun _ => []) 0 es = (T, W)
  ck : checkG [] es = (0, 0)
  ap : ∀ a b, a ≠ 0 → b ≠ 0 → Live T a → Live T b → ∀ i ∈ W a, ∀ j ∈ W b, ∀ x, wrOn es x i → isOn es x j → a ∈ pth T.par b ∨ b ∈ pth T.par a
  ok : ∀ u, Live T u → PlaysAs es (onWay T.par W u)

theorem SInv.jj {es : List Ev} {T : Tr} {W : Nat → List Nat} (g : SInv es T W) : JJ es T := by have := g.gi.jj; rwa [List.take_length] at this

theorem jj_par {es : List Ev} {T : Tr} (j : JJ es T) : ParOk T.par T.n := fun c h1 h2 => by
  have h15 := j.n15
  have := j.low c h1 h2
  rw [j.par c (by omega)]
  omega

theorem live_le {es : List Ev} {T : Tr} (j : JJ es T) {u : Nat} (h : Live T u) : u ≤ T.n := by
  rcases h with rfl | ⟨h1, h2, h3⟩
  · omega
  · rw [j.op u h2] at h3
    have := j.open_range h3
    omega

theorem live_up {es : List Ev} {T : Tr} (j : JJ es T) {u : Nat} (h : Live T u) (h0 : u ≠ 0) : Live T (T.par u).toNat := by
  have hle := live_le j h
  have h15 := j.n15
  rcases h with h | ⟨h1, h2, h3⟩
  · exact absurd h h0
  · rw [j.op u h2] at h3
    have hl := j.low u h1 hle
    rw [j.par u h2]
    rcases j.up _ h3 with h4 | h4
    · rw [h4]; exact Or.inl rfl
    · obtain ⟨p, hp⟩ : ∃ p : Nat, parentL es (u : Int) = (p : Int) := ⟨(parentL es (u : Int)).toNat, by omega⟩
      rw [hp] at h4 hl ⊢
      have hr := j.open_range h4
      exact Or.inr ⟨by simp; omega, by simp; omega, by simp only [Int.toNat_natCast]; rw [j.op p (by omega)]; exact h4⟩

theorem live_path {es : List Ev} {T : Tr} (j : JJ es T) : ∀ u, Live T u → ∀ c ∈ pth T.par u, Live T c := by
  intro u
  induction u using Nat.strongRecOn with
  | _ u ih =>
    intro hu c hc
    by_cases h0 : u = 0
    · subst h0; simp [pth_zero] at hc; subst hc; exact Or.inl rfl
    · have hle := live_le j hu
      have hp := jj_par j u (by omega) hle
      rw [pth_step (jj_par j) u (by omega) hle, List.mem_append, List.mem_singleton] at hc
      rcases hc with hc | rfl
      · exact ih _ hp (live_up j hu h0) c hc
      · exact hu

theorem way_lt {es : List Ev} {T : Tr} {W : Nat → List Nat} (g : GI es es.length T W) (u : Nat) : ∀ p ∈ onWay T.par W u, p < es.length := fun p hp => by
  obtain ⟨c, _, hc⟩ := onWay_mem.1 hp
  exact (g.pl c p hc).lt

theorem wrOn_ext {es : List Ev} {m : List Ev} {x p : Nat} (hp : p < es.length) : wrOn (es ++ m) x p ↔ wrOn es x p := by
  unfold wrOn
  rw [List.getElem?_append_left hp]

theorem isOn_ext {es : List Ev} {m : List Ev} {x p : Nat} (hp : p < es.length) : isOn (es ++ m) x p ↔ isOn es x p := by
  unfold isOn
  rw [List.getElem?_append_left hp]

theorem wr_is {es : List Ev} {x p : Nat} (h : wrOn es x p) : isOn es x p := by
  obtain ⟨e, h1, h2, _⟩ := h
  exact ⟨e, h1, h2⟩

/-- One event more that nobody plays. -/
theorem PlaysAs.more {es : List Ev} {L : List Nat} (h : PlaysAs es L) (hl : ∀ p ∈ L, p < es.length) (e : Ev) : PlaysAs (es ++ [e]) L := by
  have hx := play_ext [e] L zeroV hl
  refine ⟨by rw [hx]; exact h.fits, fun x => ?_⟩
  rw [hx, h.val x, List.length_append, List.length_singleton, lastW_old e (fun q => by have := hl _ q; omega)]

/-- A comes behind what lies on the way to b; who lies below b meets it at no object that it writes. -/
theorem plays_ins {es : List Ev} {T : Tr} {W : Nat → List Nat} (j : JJ es T) (e : Ev) (hlt : ∀ c, ∀ p ∈ W c, p < es.length) {b u : Nat} {A : List Nat} (hu : u ≤ T.n) (hbu : b ∈ pth T.par u) (hb : PlaysAs es (onWay T.par W b)) (hU : PlaysAs es (onWay T.par W u)) (hA : PlaysAs (es ++ [e]) (onWay T.par W b ++ A))
    (hd : ∀ c, b < c → b ∈ pth T.par c → c ∈ pth T.par u → ∀ x, ∀ i ∈ A, wrOn (es ++ [e]) x i → ∀ q ∈ W c, ¬ isOn es x q) : PlaysAs (es ++ [e]) (onWay T.par (upd W b (W b ++ A)) u) := by
  have hpo := jj_par j
  have hbn : b ≤ T.n := by have := pth_le hpo u hu b hbu; omega
  obtain ⟨r, hr, h1, h2⟩ := onWay_cut hpo W b u hu hbu
  have h3 := h2 (upd W b (W b ++ A)) fun c hc => by unfold upd; rw [if_neg (by omega)]
  rw [onWay_more hpo W b hbn A] at h3
  have hwl : ∀ c, ∀ p ∈ onWay T.par W c, p < es.length := fun c p hp => by obtain ⟨c', _, hc'⟩ := onWay_mem.1 hp; exact hlt c' p hc'
  have hb' := hb.more (hwl b) e
  have hU' := hU.more (hwl u) e
  rw [h1] at hU'
  rw [h3, List.append_assoc]
  have hR : ∀ p ∈ r.flatMap W, ∃ c ∈ r, p ∈ W c := fun p hp => by rw [List.mem_flatMap] at hp; exact hp
  have hd' : ∀ x, ∀ i ∈ A, wrOn (es ++ [e]) x i → ∀ q ∈ r.flatMap W, ¬ isOn (es ++ [e]) x q := fun x i hi hw q hq => by
    obtain ⟨c, hc, hqc⟩ := hR q hq
    obtain ⟨c1, _, c3, c4⟩ := hr c hc
    rw [isOn_ext (hlt c q hqc)]
    exact hd c c1 c3 c4 x i hi hw q hqc
  have pA := play_app (es := es ++ [e]) (onWay T.par W b) A zeroV hb'.fits
  have pR := play_app (es := es ++ [e]) (onWay T.par W b) (r.flatMap W) zeroV hb'.fits
  have pAR := play_app (es := es ++ [e]) (onWay T.par W b) (A ++ r.flatMap W) zeroV hb'.fits
  have fA := hA.fits
  rw [pA] at fA
  have fR := hU'.fits
  rw [pR] at fR
  obtain ⟨m1, m2⟩ := play_merge fA fR hd'
  refine ⟨by rw [pAR]; exact m1, fun x => ?_⟩
  rw [pAR]
  by_cases hx : ∃ i ∈ A, wrOn (es ++ [e]) x i
  · rw [(m2 x).1 hx, ← pA, hA.val x]
    obtain ⟨i0, hi0, hw0⟩ := hx
    refine lastW_congr _ fun i _ e' he' hk hxe => ?_
    rw [← List.append_assoc, List.mem_append (s := onWay T.par W b ++ A)]
    refine ⟨Or.inl, fun q => ?_⟩
    rcases q with q | q
    · exact q
    · exact absurd ⟨e', he', hxe⟩ (hd' x i0 hi0 hw0 i q)
  · rw [(m2 x).2 hx, ← pR, hU'.val x]
    refine lastW_congr _ fun i _ e' he' hk hxe => ?_
    have hnA : i ∉ A := fun q => hx ⟨i, q, e', he', hxe, by omega⟩
    simp only [List.mem_append]
    constructor
    · rintro (q | q)
      · exact Or.inl q
      · exact Or.inr (Or.inr q)
    · rintro (q | q | q)
      · exact Or.inl q
      · exact absurd q hnA
      · exact Or.inr q

/-- The list of all events is one longer: the gathering so far stays what it was. -/
theorem GI.longer {es : List Ev} {T : Tr} {W : Nat → List Nat} (g : GI es es.length T W) (e : Ev) : GI (es ++ [e]) es.length T W := by
  have hj := g.jj
  rw [List.take_length] at hj
  refine ⟨by rw [List.take_append_of_le_length (Nat.le_refl _), List.take_length]; exact hj, fun x => ?_, fun x p hp => ?_, g.nd, g.ap, g.new⟩
  · refine (g.eq x).trans ?_
    unfold flat
    · refine flatMap_same _ fun i hi => ?_
      have hi' : i < es.length := List.mem_range.1 hi
      unfold seg
      rw [List.getElem?_append_left hi']
      cases he : es[i]? with
      | none => rfl
      | some e' =>
        simp only
        by_cases h5 : e'.k = 5
        · have hm : e' ∈ es := List.mem_of_getElem? he
          have hc := hj.com e'.t (List.any_eq_true.2 ⟨e', hm, by unfold isC; simp [h5]⟩)
          obtain ⟨m, hmm⟩ : ∃ m : Nat, e'.t = (m : Int) := ⟨e'.t.toNat, by omega⟩
          have hb := hj.got m (by omega) (by omega)
          rw [hmm, parentL_more es [e] hb]
        · rw [if_neg (show ¬ (e'.k = 5 ∧ parentL es e'.t = (x : Int)) from fun q => h5 q.1), if_neg (show ¬ (e'.k = 5 ∧ parentL (es ++ [e]) e'.t = (x : Int)) from fun q => h5 q.1)]
  · obtain ⟨h1, e', h2, h3⟩ := g.pl x p hp
    exact ⟨h1, e', by rw [List.getElem?_append_left h1]; exact h2, h3⟩

end Go.Proofs.Ytfdalbmopaemgab
