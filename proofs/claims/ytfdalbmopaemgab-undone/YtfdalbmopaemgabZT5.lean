import Derived.Test.YtfdalbmopaemgabZT4
import Derived.Test.YtfdalbmopaemgabZS8
namespace Go.Proofs.Ytfdalbmopaemgab
open Go.RowKit

/-! ### The document's words, by what lies in whom -/
theorem within_pth {es : List Ev} {T : Tr} (j : JJ es T) (a : Nat) : ∀ u, u ≤ T.n → withinG es (a : Int) 16 (u : Int) = decide (a ∈ pth T.par u) := by
  have hpo := jj_par j
  have h15 := j.n15
  intro u
  induction u using Nat.strongRecOn with
  | _ u ih =>
    intro hu
    by_cases h0 : u = 0
    · subst h0
      rw [show (((0 : Nat) : Int)) = 0 from rfl, within_zero, pth_zero, Bool.eq_iff_iff]
      simp
      omega
    · have hl := j.low u (by omega) hu
      have hp := j.par u (by omega)
      obtain ⟨p, hpp⟩ : ∃ p : Nat, parentL es (u : Int) = (p : Int) := ⟨(parentL es (u : Int)).toNat, by omega⟩
      rw [hpp] at hl hp
      rw [within_step j (a : Int) u (by omega) hu, pth_step hpo u (by omega) hu, hpp, hp, Int.toNat_natCast, ih p (by omega) (by omega), Bool.eq_iff_iff]
      by_cases e : (u : Int) = (a : Int)
      · rw [if_pos e]
        simp
        omega
      · rw [if_neg e]
        simp
        omega

theorem made_bec {e : Ev} (h : e.k = 3 ∨ e.k = 4) : madeBy e = becL e := by
  unfold madeBy becL
  rcases h with h | h
  · rw [if_pos h, if_pos h]
  · rw [if_neg (by omega), if_neg (by omega), if_pos h]

/-- An event's doing is seen by u where it lies on the way to u. -/
theorem seen_way {es : List Ev} {T : Tr} {W : Nat → List Nat} (j : JJ es T) (h : HInv es T W) {u : Nat} (hu : Live T u) {i : Nat} {e : Ev} (he : es[i]? = some e) (hk : onObj e.k = true) :
    ((holderG es 16 e.t).2 && withinG es (holderG es 16 e.t).1 16 (u : Int)) = decide (i ∈ onWay T.par W u) := by
  obtain ⟨t, ht, h1, h2⟩ := h.rg i e he hk
  have hun := live_le j hu
  rw [ht]
  have hh : holderG es 16 (t : Int) = hold es t := rfl
  rw [hh, Bool.eq_iff_iff]
  rcases hold_live j t h2 with ⟨a, ha, hla⟩ | ha
  · rw [ha]
    simp only [Bool.true_and]
    rw [within_pth j a u hun]
    simp only [decide_eq_true_eq]
    rw [onWay_mem]
    constructor
    · intro q
      exact ⟨a, q, (h.hw i e he hk t ht a hla).2 ha⟩
    · rintro ⟨c, hc, hic⟩
      have hcl := live_path j u hu c hc
      have := (h.hw i e he hk t ht c hcl).1 hic
      rw [ha] at this
      have := congrArg Prod.fst this
      simp only at this
      have : a = c := by omega
      rw [this]
      exact hc
  · rw [ha]
    simp only [Bool.false_and, Bool.false_eq_true, false_iff, decide_eq_true_eq]
    intro q
    obtain ⟨c, hc, hic⟩ := onWay_mem.1 q
    have hcl := live_path j u hu c hc
    have := (h.hw i e he hk t ht c hcl).1 hic
    rw [ha] at this
    cases congrArg Prod.snd this

theorem is_last {es : List Ev} {T : Tr} {W : Nat → List Nat} (j : JJ es T) (h : HInv es T W) (hna : ∀ e ∈ es, 0 ≤ e.a) {u : Nat} (hu : Live T u) (x : Nat) : isL es (u : Int) (x : Int) = lastW es (onWay T.par W u) x es.length := by
  have hall : ∀ k, k ≤ es.length → isG es (u : Int) (x : Int) k = lastW es (onWay T.par W u) x k := by
    intro k
    induction k with
    | zero => intro _; rfl
    | succ k ih =>
      intro hk
      have he := List.getElem?_eq_getElem (show k < es.length by omega)
      have hea := hna _ (List.getElem_mem (show k < es.length by omega))
      rw [isG, lastW, he]
      simp only
      generalize es[k] = e at he hea
      rw [ih (by omega)]
      by_cases h34 : e.k = 3 ∨ e.k = 4
      · have hob : onObj e.k = true := onObj_iff.2 (by omega)
        have hsw := seen_way j h hu he hob
        by_cases hx : e.a.toNat = x
        · have hx' : (e.a == (x : Int)) = true := by simp; omega
          have h34' : (e.k == 3 || e.k == 4) = true := by simpa using h34
          have hit : isHit es (u : Int) (x : Int) e = decide (k ∈ onWay T.par W u) := by unfold isHit; rw [h34', hx', hsw]; rfl
          rw [hit]
          by_cases hm : k ∈ onWay T.par W u
          · rw [if_pos (by simpa using hm), if_pos ⟨h34, hx, hm⟩, made_bec h34]
          · rw [if_neg (by simpa using hm), if_neg (fun q => hm q.2.2)]
        · have hx' : (e.a == (x : Int)) = false := by simp; omega
          have hit : isHit es (u : Int) (x : Int) e = false := by unfold isHit; rw [hx']; simp
          rw [hit, if_neg (by decide), if_neg (fun q => hx q.2.1)]
      · have h34' : (e.k == 3 || e.k == 4) = false := by simp; omega
        have hit : isHit es (u : Int) (x : Int) e = false := by unfold isHit; rw [h34']; rfl
        rw [hit, if_neg (by decide), if_neg (fun q => h34 q.1)]
  exact hall es.length (Nat.le_refl _)

theorem low15 {es : List Ev} {T : Tr} (j : JJ es T) : Low15 es := fun t ht => by
  have := j.open_range ht
  have := j.n15
  omega

/-- The bits of those who hold. -/
theorem bit_up {es : List Ev} {x : Int} {p : Nat × Nat} {e : Ev} {c : Nat} : (p.1.testBit c = true → (hstep es x p e).1.testBit c = true) ∧ (p.2.testBit c = true → (hstep es x p e).2.testBit c = true) := by
  unfold hstep
  split
  · split
    · exact ⟨fun q => by simp [Nat.testBit_or, q], fun q => q⟩
    · exact ⟨fun q => q, fun q => by simp [Nat.testBit_or, q]⟩
  · exact ⟨id, id⟩

theorem bit_at {es : List Ev} {x : Int} {e : Ev} {c : Nat} (q : Nat) (he : es[q]? = some e) (hob : onObj e.k = true) (hx : e.a = x) (hh : (holderG es 16 e.t).1 = (c : Int)) (hc : c ≠ 0) : ∀ k, q < k → k ≤ es.length → (e.k = 2 → (holdK es x k).1.testBit c = true) ∧ (e.k ≠ 2 → (holdK es x k).2.testBit c = true) := by
  intro k
  induction k with
  | zero => intro h; omega
  | succ k ih =>
    intro hq hk
    rw [holdK_succ es x k (by omega)]
    by_cases hqk : q < k
    · obtain ⟨i1, i2⟩ := ih hqk (by omega)
      exact ⟨fun h => bit_up.1 (i1 h), fun h => bit_up.2 (i2 h)⟩
    · have hqe : q = k := by omega
      subst hqe
      rw [List.getElem?_eq_getElem (by omega)] at he
      rw [Option.some.inj he]
      unfold hstep
      rw [if_pos ⟨hob, hx, by omega⟩, hh, Int.toNat_natCast]
      refine ⟨fun h => ?_, fun h => ?_⟩
      · rw [if_pos h]; simp [Nat.testBit_or, Nat.testBit_two_pow_self]
      · rw [if_neg h]; simp [Nat.testBit_or, Nat.testBit_two_pow_self]

theorem held_bit {es : List Ev} {T : Tr} {W : Nat → List Nat} (h : HInv es T W) (hna : ∀ e ∈ es, 0 ≤ e.a) (g : GI es es.length T W) {c x : Nat} (hc : c ≠ 0) (hl : Live T c) {q : Nat} (hq : q ∈ W c) {e : Ev} (he : es[q]? = some e) (hx : e.a.toNat = x) : (e.k = 2 → (holdersL es (x : Int)).1.testBit c = true) ∧ (e.k ≠ 2 → (holdersL es (x : Int)).2.testBit c = true) := by
  obtain ⟨hqlt, e', he', hob, _⟩ := g.pl c q hq
  rw [he] at he'
  cases he'
  obtain ⟨t, ht, h1, h2⟩ := h.rg q e he hob
  have hh := (h.hw q e he hob t ht c hl).1 hq
  have hea := hna e (List.mem_of_getElem? he)
  have := bit_at (es := es) (x := (x : Int)) (c := c) q he hob (by omega) (by rw [ht]; show (hold es t).1 = _; rw [hh]) hc es.length hqlt (Nat.le_refl _)
  unfold holdK at this
  rw [List.take_length] at this
  exact this

theorem stranger_none {es : List Ev} {t : Int} {s : Nat} (h : strangerL es t s = false) (c : Nat) (h1 : 1 ≤ c) (h2 : c ≤ 15) (hb : s.testBit c = true) : withinG es (c : Int) 16 t = true := by
  unfold strangerL at h
  rw [List.any_eq_false] at h
  have := h (c - 1) (by simp; omega)
  rw [show c - 1 + 1 = c by omega, hb] at this
  simpa using this

/-! ### What a store's events are -/
structure RInv (es : List Ev) (T : Tr) (W : Nat → List Nat) : Prop where
  s : SInv es T W
  h : HInv es T W
  na : ∀ e ∈ es, 0 ≤ e.a

theorem RInv.start : RInv [] tr0 (fun _ => []) := ⟨SInv.start, HInv.start, fun e he => by cases he⟩

theorem na_snoc {es : List Ev} (h : ∀ e ∈ es, 0 ≤ e.a) (e : Ev) (he : 0 ≤ e.a) : ∀ e' ∈ es ++ [e], 0 ≤ e'.a := fun e' h' => by
  rw [List.mem_append, List.mem_singleton] at h'
  rcases h' with h' | rfl
  · exact h e' h'
  · exact he

theorem RInv.begin_or {es : List Ev} {T : Tr} {W : Nat → List Nat} (r : RInv es T W) (up : Nat) : (beginR es (up : Int)).1 = es ∨ (Live T up ∧ T.n < 15 ∧ (beginR es (up : Int)).1 = es ++ [⟨1, ((T.n + 1 : Nat) : Int), (up : Int), 0, 0⟩] ∧ RInv (es ++ [⟨1, ((T.n + 1 : Nat) : Int), (up : Int), 0, 0⟩]) (beginT T (up : Int)) W) := by
  have j := r.s.jj
  unfold beginR
  by_cases h5 : (up : Int) ≠ 0 ∧ openL es (up : Int) = false
  · rw [if_pos h5]; exact Or.inl rfl
  · rw [if_neg h5]
    by_cases h15 : 15 ≤ countL es
    · rw [if_pos h15]; exact Or.inl rfl
    · rw [if_neg h15]
      by_cases h60 : 60 ≤ es.length
      · rw [if_pos h60]; exact Or.inl rfl
      · rw [if_neg h60]
        have hn := j.n
        have hup : (up : Int) = 0 ∨ openL es (up : Int) = true := by
          by_cases hz : (up : Int) = 0
          · exact Or.inl hz
          · cases ho : openL es (up : Int) with
            | true => exact Or.inr rfl
            | false => exact absurd ⟨hz, ho⟩ h5
        have hw : wrongL es ⟨1, ((T.n + 1 : Nat) : Int), (up : Int), 0, 0⟩ = 0 :=
          wrong_zero j (by omega) _ rfl (fun _ => ⟨by omega, by simp only; omega, hup⟩) (fun q => absurd rfl q) (fun q _ => by simp only at q; omega) (by simp [emptyL]) (fun q => by simp only at q; omega)
        have hlive : Live T up := by
          rcases hup with h | h
          · exact Or.inl (by omega)
          · exact (live_of_open j h).1
        have hs := r.s.begin_ (T.n + 1) up hw hlive
        have hj' := hs.jj
        rw [show ((countL es : Int) + 1) = ((T.n + 1 : Nat) : Int) by omega]
        exact Or.inr ⟨hlive, by omega, rfl, hs, r.h.begin_ j r.s.gi _ up rfl hj', na_snoc r.na _ (by simp only; omega)⟩

theorem RInv.end_or {es : List Ev} {T : Tr} {W : Nat → List Nat} (r : RInv es T W) (k : Int) (t : Nat) (hk : k = 5 ∨ k = 6) : (endR es k (t : Int)).1 = es ∨ (openL es (t : Int) = true ∧ (endR es k (t : Int)).1 = es ++ [⟨k, (t : Int), ((0 : Nat) : Int), 0, 0⟩] ∧ (k = 5 → childL es (t : Int) = false ∧ ∃ p : Nat, T.par t = (p : Int) ∧ RInv (es ++ [⟨5, (t : Int), ((0 : Nat) : Int), 0, 0⟩]) (commitT T t) (upd W p (W p ++ W t))) ∧ (k = 6 → RInv (es ++ [⟨6, (t : Int), ((0 : Nat) : Int), 0, 0⟩]) (abortT T t) W)) := by
  have j := r.s.jj
  unfold endR
  cases ho : openL es (t : Int) with
  | false => rw [if_pos rfl]; exact Or.inl rfl
  | true =>
    rw [if_neg (by decide)]
    by_cases h8 : k = 5 ∧ childL es (t : Int) = true
    · rw [if_pos h8]; exact Or.inl rfl
    · rw [if_neg h8]
      by_cases h60 : 60 ≤ es.length
      · rw [if_pos h60]; exact Or.inl rfl
      · rw [if_neg h60]
        have hch : k = 5 → childL es (t : Int) = false := fun q => by
          cases hc : childL es (t : Int) with
          | false => rfl
          | true => exact absurd ⟨q, hc⟩ h8
        have hw : wrongL es ⟨k, (t : Int), ((0 : Nat) : Int), 0, 0⟩ = 0 := by
          refine wrong_zero j (by omega) _ ?_ (fun q => by simp only at q; omega) (fun _ => ho) (fun q q' => by simp only at q'; omega) ?_ (fun q => hch q)
          · rcases hk with rfl | rfl <;> rfl
          · rcases hk with rfl | rfl <;> simp [emptyL]
        obtain ⟨hl, ht0⟩ := live_of_open j ho
        have htn := live_le j hl
        rcases hk with rfl | rfl
        · have hlo := jj_par j t (by omega) htn
          have h15 := j.n15
          have hpn := j.low t (by omega) htn
          have hpe := j.par t (by omega)
          obtain ⟨p, hp⟩ : ∃ p : Nat, T.par t = (p : Int) := ⟨(T.par t).toNat, by omega⟩
          have hs := r.s.commit t p hw hp (hch rfl)
          exact Or.inr ⟨rfl, rfl, fun _ => ⟨hch rfl, p, hp, hs, r.h.commit j _ t p rfl rfl ho hp hs.jj, na_snoc r.na _ (by simp)⟩, fun q => by omega⟩
        · have hs := r.s.abort t hw
          exact Or.inr ⟨rfl, rfl, fun q => by omega, fun _ => ⟨hs, r.h.abort j _ t rfl ho hs.jj, na_snoc r.na _ (by simp)⟩⟩

theorem RInv.access_or {es : List Ev} {T : Tr} {W : Nat → List Nat} (r : RInv es T W) (k : Int) (t x : Nat) (v : Int) (hk : k = 2 ∨ k = 3 ∨ k = 4) : (accessR es k (t : Int) (x : Int) v).1 = es ∨ (openL es (t : Int) = true ∧ (accessR es k (t : Int) (x : Int) v).1 = es ++ [accEv es k (t : Int) (x : Int) v] ∧ RInv (es ++ [accEv es k (t : Int) (x : Int) v]) T (upd W t (W t ++ [es.length]))) := by
  have j := r.s.jj
  unfold accessR
  cases ho : openL es (t : Int) with
  | false => rw [if_pos rfl]; exact Or.inl rfl
  | true =>
    rw [if_neg (by decide)]
    by_cases hx4 : 4 ≤ (x : Int)
    · rw [if_pos hx4]; exact Or.inl rfl
    · rw [if_neg hx4]
      cases hst : strangerL es (t : Int) (othersL es k (x : Int)) with
      | true => rw [if_pos rfl]; exact Or.inl rfl
      | false =>
        rw [if_neg (by decide)]
        by_cases h60 : 60 ≤ es.length
        · rw [if_pos h60]; exact Or.inl rfl
        · rw [if_neg h60]
          obtain ⟨hl, ht0⟩ := live_of_open j ho
          have htn := live_le j hl
          have hin : ∀ c, c ≠ 0 → Live T c → (othersL es k (x : Int)).testBit c = true → c ∈ pth T.par t := fun c hc hcl hb => by
            have hcr : 1 ≤ c ∧ c ≤ 15 := by
              rcases hcl with h | h
              · exact absurd h hc
              · exact ⟨h.1, h.2.1⟩
            have := stranger_none hst c hcr.1 hcr.2 hb
            rw [within_pth j c t htn] at this
            simpa using this
          have hs1 := is_last j r.h r.na hl x
          have hw : wrongL es ⟨k, (t : Int), (x : Int), if k = 2 then 0 else v, if k = 3 then 0 else isL es (t : Int) (x : Int)⟩ = 0 := by
            refine wrong_zero j (by omega) _ ?_ (fun q => by simp only at q; omega) (fun _ => ho) (fun _ _ => by simp only; omega) ?_ (fun q => by simp only at q; omega)
            · rcases hk with rfl | rfl | rfl <;> rfl
            · rcases hk with rfl | rfl | rfl <;> simp [emptyL]
          have hobj : onObj k = true := onObj_iff.2 (by omega)
          have hs := r.s.access k t x _ _ hk hw (fun hk2 c hc hcl ⟨q, hq, e, he, hxe⟩ => hin c hc hcl (by
              have hb := held_bit r.h r.na r.s.gi hc hcl hq he hxe
              unfold othersL
              rw [if_neg hk2, Nat.testBit_or]
              by_cases h2 : e.k = 2
              · rw [hb.1 h2]; simp
              · rw [hb.2 h2]; simp))
            (fun hk2 c hc hcl ⟨q, hq, e, he, hxe, hne⟩ => hin c hc hcl (by
              have hb := held_bit r.h r.na r.s.gi hc hcl hq he hxe
              unfold othersL
              rw [if_pos hk2]
              exact hb.2 hne))
            (fun hk3 => by rw [if_neg hk3]; exact hs1)
          exact Or.inr ⟨rfl, rfl, hs, r.h.access j r.s.gi _ t rfl hobj ho, na_snoc r.na _ (show (0 : Int) ≤ (x : Int) by omega)⟩

theorem RInv.begin_ {es : List Ev} {T : Tr} {W : Nat → List Nat} (r : RInv es T W) (up : Nat) : ∃ T' W', RInv (beginR es (up : Int)).1 T' W' := by
  rcases r.begin_or up with h | ⟨_, _, h, hr⟩
  · rw [h]; exact ⟨T, W, r⟩
  · rw [h]; exact ⟨_, _, hr⟩

theorem RInv.end_ {es : List Ev} {T : Tr} {W : Nat → List Nat} (r : RInv es T W) (k : Int) (t : Nat) (hk : k = 5 ∨ k = 6) : ∃ T' W', RInv (endR es k (t : Int)).1 T' W' := by
  rcases r.end_or k t hk with h | ⟨_, h, h5, h6⟩
  · rw [h]; exact ⟨T, W, r⟩
  · rw [h]
    rcases hk with rfl | rfl
    · obtain ⟨_, p, _, hr⟩ := h5 rfl
      exact ⟨_, _, hr⟩
    · exact ⟨_, _, h6 rfl⟩

theorem RInv.access {es : List Ev} {T : Tr} {W : Nat → List Nat} (r : RInv es T W) (k : Int) (t x : Nat) (v : Int) (hk : k = 2 ∨ k = 3 ∨ k = 4) : ∃ T' W', RInv (accessR es k (t : Int) (x : Int) v).1 T' W' := by
  rcases r.access_or k t x v hk with h | ⟨_, h, hr⟩
  · rw [h]; exact ⟨T, W, r⟩
  · rw [h]; exact ⟨_, _, hr⟩

/-- The top statement, of events alone. -/
theorem RInv.serial {es : List Ev} {T : Tr} {W : Nat → List Nat} (r : RInv es T W) : checkG [] es = (0, 0) ∧ ∃ V, replayG es = (-1, V, 0) ∧ ∀ x : Nat, V x = isL es 0 (x : Int) := by
  obtain ⟨h1, V, h2, h3⟩ := r.s.serial
  refine ⟨h1, V, h2, fun x => ?_⟩
  have := is_last r.s.jj r.h r.na (u := 0) (Or.inl rfl) x
  rw [onWay_zero] at this
  rw [h3 x, ← this]
  rfl

end Go.Proofs.Ytfdalbmopaemgab
