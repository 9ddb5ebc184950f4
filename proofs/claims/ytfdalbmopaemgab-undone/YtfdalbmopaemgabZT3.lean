import Derived.Test.YtfdalbmopaemgabZT2
namespace Go.Proofs.Ytfdalbmopaemgab
open Go.RowKit

theorem SInv.start : SInv [] tr0 (fun _ => []) :=
  ⟨GI.start [], rfl, rfl, fun a b _ _ _ _ i hi => (by cases hi), fun u hu => by
    have h0 : u = 0 := by
      rcases hu with h | ⟨_, _, h⟩
      · exact h
      · cases h
    subst h0
    exact ⟨rfl, fun _ => rfl⟩⟩

/-- What each event brings, whichever it is. -/
theorem SInv.snoc {es : List Ev} {T : Tr} {W : Nat → List Nat} (g : SInv es T W) (k : Int) (t a : Nat) (v s : Int) (hw : wrongL es ⟨k, (t : Int), (a : Int), v, s⟩ = 0) :
    GI (es ++ [(⟨k, (t : Int), (a : Int), v, s⟩ : Ev)]) (es ++ [(⟨k, (t : Int), (a : Int), v, s⟩ : Ev)]).length (stepT T k t a) (gStep W T.par es.length k t) ∧ runG tr0 (fun _ => []) 0 (es ++ [⟨k, (t : Int), (a : Int), v, s⟩]) = (stepT T k t a, gStep W T.par es.length k t) ∧ checkG [] (es ++ [⟨k, (t : Int), (a : Int), v, s⟩]) = (0, 0) := by
  refine ⟨?_, ?_, check_snoc _ es [] g.ck (by simpa using hw)⟩
  · have h := (g.gi.longer ⟨k, (t : Int), (a : Int), v, s⟩).step (by simp) k t a v s (by simp) (by rw [List.take_append_of_le_length (Nat.le_refl _), List.take_length]; exact hw)
    simpa using h
  · rw [run_snoc, g.run]
    simp only [Int.toNat_natCast, Nat.zero_add]

theorem live_of_open {es : List Ev} {T : Tr} (j : JJ es T) {t : Nat} (h : openL es (t : Int) = true) : Live T t ∧ t ≠ 0 := by
  have hr := j.open_range h
  have h15 := j.n15
  exact ⟨Or.inr ⟨by omega, by omega, by rw [j.op t (by omega)]; exact h⟩, by omega⟩

theorem open_of_live {es : List Ev} {T : Tr} (j : JJ es T) {t : Nat} (h : Live T t) (h0 : t ≠ 0) : openL es (t : Int) = true := by
  rcases h with h | ⟨_, h2, h3⟩
  · exact absurd h h0
  · rw [← j.op t h2]; exact h3

/-- Read, Write, Add. -/
theorem SInv.access {es : List Ev} {T : Tr} {W : Nat → List Nat} (g : SInv es T W) (k : Int) (t a : Nat) (v s : Int) (hk : k = 2 ∨ k = 3 ∨ k = 4) (hw : wrongL es ⟨k, (t : Int), (a : Int), v, s⟩ = 0)
    (hlw : k ≠ 2 → ∀ c, c ≠ 0 → Live T c → (∃ q ∈ W c, isOn es a q) → c ∈ pth T.par t) (hlr : k = 2 → ∀ c, c ≠ 0 → Live T c → (∃ q ∈ W c, wrOn es a q) → c ∈ pth T.par t)
    (hs : k ≠ 3 → s = lastW es (onWay T.par W t) a es.length) :
    SInv (es ++ [⟨k, (t : Int), (a : Int), v, s⟩]) T (upd W t (W t ++ [es.length])) := by
  have j := g.jj
  have hpo := jj_par j
  obtain ⟨a1, a2, a3⟩ := g.snoc k t a v s hw
  obtain ⟨_, _, hop, _⟩ := wrong_facts hw
  have hto := hop (by omega)
  obtain ⟨hlt, ht0⟩ := live_of_open j hto
  have htn := live_le j hlt
  have hobj : onObj k = true := onObj_iff.2 (by omega)
  have hT : stepT T k t a = T := by unfold stepT; rw [if_neg (by omega), if_neg (by omega), if_neg (by omega)]
  rw [hT, gStep_obj hobj] at a1 a2
  have hwl : ∀ c, ∀ p ∈ W c, p < es.length := fun c p hp => (g.gi.pl c p hp).lt
  have hel : (es ++ [(⟨k, (t : Int), (a : Int), v, s⟩ : Ev)])[es.length]? = some ⟨k, (t : Int), (a : Int), v, s⟩ := by simp
  have hnew : ∀ x, isOn (es ++ [⟨k, (t : Int), (a : Int), v, s⟩]) x es.length → a = x := fun x ⟨e', h1, h2⟩ => by
    rw [hel] at h1
    cases h1
    simpa using h2
  have hneww : ∀ x, wrOn (es ++ [⟨k, (t : Int), (a : Int), v, s⟩]) x es.length → a = x ∧ k ≠ 2 := fun x ⟨e', h1, h2, h3⟩ => by
    rw [hel] at h1
    cases h1
    exact ⟨by simpa using h2, h3⟩
  -- what t itself plays
  have hA : PlaysAs (es ++ [⟨k, (t : Int), (a : Int), v, s⟩]) (onWay T.par W t ++ [es.length]) := by
    have ht := g.ok t hlt
    have htm := ht.more (fun p hp => by obtain ⟨c, _, hc⟩ := onWay_mem.1 hp; exact hwl c p hc) ⟨k, (t : Int), (a : Int), v, s⟩
    have hnin : es.length ∉ onWay T.par W t := fun q => by obtain ⟨c, _, hc⟩ := onWay_mem.1 q; have := hwl c _ hc; omega
    have pA := play_app (es := es ++ [⟨k, (t : Int), (a : Int), v, s⟩]) (onWay T.par W t) [es.length] zeroV htm.fits
    have hval : (playL (es ++ [⟨k, (t : Int), (a : Int), v, s⟩]) zeroV (onWay T.par W t)).2 a = lastW es (onWay T.par W t) a es.length := by
      rw [htm.val a, List.length_append, List.length_singleton, lastW_old _ hnin]
    have h1 := play_one (V := (playL (es ++ [⟨k, (t : Int), (a : Int), v, s⟩]) zeroV (onWay T.par W t)).2) hel
    simp only [Int.toNat_natCast] at h1
    have hfit : ¬ (nSeen k = true ∧ (playL (es ++ [⟨k, (t : Int), (a : Int), v, s⟩]) zeroV (onWay T.par W t)).2 a ≠ s) := by
      rintro ⟨q1, q2⟩
      have hk3 : k ≠ 3 := fun q => by rw [q] at q1; exact absurd q1 (by decide)
      exact q2 (by rw [hval]; exact (hs hk3).symm)
    rw [if_neg hfit] at h1
    refine ⟨by rw [pA, h1], fun x => ?_⟩
    rw [pA, h1, List.length_append, List.length_singleton]
    simp only
    by_cases hx : x = a
    · subst hx
      by_cases hk2 : k = 2
      · rw [lastW_not _ (by simp only; omega)]
        unfold upd
        rw [if_pos rfl]
        have : becL ⟨k, (t : Int), (x : Int), v, s⟩ = s := by unfold becL; rw [if_neg (by simp only; omega), if_neg (by simp only; omega)]
        rw [this, hs (by omega)]
        exact lastW_congr _ fun i hi e' _ _ _ => by
          rw [List.mem_append, List.mem_singleton]
          exact ⟨Or.inl, fun q => q.elim id (fun q => by omega)⟩
      · rw [lastW_new _ (by simp) (by simp only; omega) (by simp)]
        unfold upd
        rw [if_pos rfl]
    · rw [lastW_not _ (by simp; omega)]
      unfold upd
      rw [if_neg hx, htm.val x, List.length_append, List.length_singleton, lastW_old _ hnin]
      exact lastW_congr _ fun i hi e' _ _ _ => by
        rw [List.mem_append, List.mem_singleton]
        exact ⟨Or.inl, fun q => q.elim id (fun q => by omega)⟩
  have hupd : ∀ c, ∀ q ∈ upd W t (W t ++ [es.length]) c, q ∈ W c ∨ (c = t ∧ q = es.length) := fun c q hq => by
    unfold upd at hq
    by_cases e : c = t
    · rw [if_pos e, List.mem_append, List.mem_singleton] at hq
      rcases hq with hq | hq
      · exact Or.inl (by rw [e]; exact hq)
      · exact Or.inr ⟨e, hq⟩
    · rw [if_neg e] at hq; exact Or.inl hq
  refine ⟨a1, a2, a3, fun b c hb0 hc0 hb hc i hi q hq x hwi hoq => ?_, fun u hu => ?_⟩
  · rcases hupd b i hi with h1 | ⟨rfl, rfl⟩
    · rw [wrOn_ext (hwl b i h1)] at hwi
      rcases hupd c q hq with h2 | ⟨rfl, rfl⟩
      · rw [isOn_ext (hwl c q h2)] at hoq
        exact g.ap b c hb0 hc0 hb hc i h1 q h2 x hwi hoq
      · have hax := hnew x hoq
        subst hax
        left
        by_cases hk2 : k = 2
        · exact hlr hk2 b hb0 hb ⟨i, h1, hwi⟩
        · exact hlw hk2 b hb0 hb ⟨i, h1, wr_is hwi⟩
    · obtain ⟨hax, hk2⟩ := hneww x hwi
      subst hax
      right
      rcases hupd c q hq with h2 | ⟨rfl, rfl⟩
      · rw [isOn_ext (hwl c q h2)] at hoq
        exact hlw hk2 c hc0 hc ⟨q, h2, hoq⟩
      · exact pth_self hpo _ htn
  · have hun := live_le j hu
    by_cases htu : t ∈ pth T.par u
    · refine plays_ins j _ hwl hun htu (g.ok t hlt) (g.ok u hu) hA fun c hc1 hc2 hc3 x i hi hwi q hq hoq => ?_
      rw [List.mem_singleton] at hi
      subst hi
      obtain ⟨hax, hk2⟩ := hneww x hwi
      subst hax
      have hcl := live_path j u hu c hc3
      have := hlw hk2 c (by omega) hcl ⟨q, hq, hoq⟩
      have := pth_le hpo t htn c this
      omega
    · rw [onWay_same fun c hc => by unfold upd; rw [if_neg (fun e => htu (by rw [← e]; exact hc))]]
      exact (g.ok u hu).more (fun p hp => by obtain ⟨c, _, hc⟩ := onWay_mem.1 hp; exact hwl c p hc) _

/-- Begin. -/
theorem SInv.begin_ {es : List Ev} {T : Tr} {W : Nat → List Nat} (g : SInv es T W) (t p : Nat) (hw : wrongL es ⟨1, (t : Int), (p : Int), 0, 0⟩ = 0) (hp : Live T p) :
    SInv (es ++ [⟨1, (t : Int), (p : Int), 0, 0⟩]) (beginT T (p : Int)) W := by
  have j := g.jj
  have hpo := jj_par j
  obtain ⟨a1, a2, a3⟩ := g.snoc 1 t p 0 0 hw
  have hT : stepT T 1 t p = beginT T (p : Int) := by unfold stepT; rw [if_pos rfl]
  rw [hT, gStep_not (by decide) (by decide)] at a1 a2
  have hpn := live_le j hp
  have hpar : ∀ c, 1 ≤ c → c ≤ T.n → (beginT T (p : Int)).par c = T.par c := fun c h1 h2 => by simp only [beginT, upd]; rw [if_neg (by omega)]
  have hpth : ∀ c, c ≤ T.n → pth (beginT T (p : Int)).par c = pth T.par c := fun c hc => pth_same hpo hpar c hc
  have hwl : ∀ c, ∀ q ∈ W c, q < es.length := fun c q hq => (g.gi.pl c q hq).lt
  have hlive : ∀ u, Live (beginT T (p : Int)) u → Live T u ∨ u = T.n + 1 := fun u hu => by
    rcases hu with h | ⟨h1, h2, h3⟩
    · exact Or.inl (Or.inl h)
    · simp only [beginT, upd] at h3
      by_cases e : u = T.n + 1
      · exact Or.inr e
      · rw [if_neg e] at h3; exact Or.inl (Or.inr ⟨h1, h2, h3⟩)
  have hWn : W (T.n + 1) = [] := g.gi.new _ (by omega)
  have hj' := a1.jj
  rw [List.take_length] at hj'
  have hpo' := jj_par hj'
  refine ⟨a1, a2, a3, fun b c hb0 hc0 hb hc i hi q hq x hwi hoq => ?_, fun u hu => ?_⟩
  · rcases hlive b hb with hb | rfl
    · rcases hlive c hc with hc | rfl
      · rw [wrOn_ext (hwl b i hi)] at hwi
        rw [isOn_ext (hwl c q hq)] at hoq
        rw [hpth b (live_le j hb), hpth c (live_le j hc)]
        exact g.ap b c hb0 hc0 hb hc i hi q hq x hwi hoq
      · rw [hWn] at hq; cases hq
    · rw [hWn] at hi; cases hi
  · have hlt : ∀ c, ∀ q ∈ onWay T.par W c, q < es.length := fun c q hq => by obtain ⟨c', _, hc'⟩ := onWay_mem.1 hq; exact hwl c' q hc'
    rcases hlive u hu with hu' | rfl
    · have : onWay (beginT T (p : Int)).par W u = onWay T.par W u := by unfold onWay; rw [hpth u (live_le j hu')]
      rw [this]
      exact (g.ok u hu').more (hlt u) _
    · have hn1 : (beginT T (p : Int)).n = T.n + 1 := rfl
      have hp1 : ((beginT T (p : Int)).par (T.n + 1)).toNat = p := by simp [beginT, upd]
      rw [onWay_step hpo' W (T.n + 1) (by omega) (by rw [hn1]; exact Nat.le_refl _), hp1, hWn, List.append_nil]
      have : onWay (beginT T (p : Int)).par W p = onWay T.par W p := by unfold onWay; rw [hpth p hpn]
      rw [this]
      exact (g.ok p hp).more (hlt p) _

/-- Commit. -/
theorem SInv.commit {es : List Ev} {T : Tr} {W : Nat → List Nat} (g : SInv es T W) (t p : Nat) (hw : wrongL es ⟨5, (t : Int), ((0 : Nat) : Int), 0, 0⟩ = 0) (hp : T.par t = (p : Int)) (hch : childL es (t : Int) = false) :
    SInv (es ++ [⟨5, (t : Int), ((0 : Nat) : Int), 0, 0⟩]) (commitT T t) (upd W p (W p ++ W t)) := by
  have j := g.jj
  have hpo := jj_par j
  obtain ⟨a1, a2, a3⟩ := g.snoc 5 t 0 0 0 hw
  obtain ⟨_, _, hop, _⟩ := wrong_facts hw
  obtain ⟨hlt, ht0⟩ := live_of_open j (hop (by omega))
  have htn := live_le j hlt
  have hT : stepT T 5 t 0 = commitT T t := by unfold stepT; rw [if_neg (by decide), if_pos rfl]
  rw [hT, gStep_com hp] at a1 a2
  have hpt : p < t := by have := hpo t (by omega) htn; rw [hp] at this; simpa using this
  have hpl : Live T p := by have := live_up j hlt ht0; rw [hp] at this; simpa using this
  have hwl : ∀ c, ∀ q ∈ W c, q < es.length := fun c q hq => (g.gi.pl c q hq).lt
  have hpar : (commitT T t).par = T.par := rfl
  have hlive : ∀ u, Live (commitT T t) u → Live T u ∧ u ≠ t := fun u hu => by
    rcases hu with h | ⟨h1, h2, h3⟩
    · exact ⟨Or.inl h, by omega⟩
    · simp only [commitT, upd] at h3
      by_cases e : u = t
      · rw [if_pos e] at h3; cases h3
      · rw [if_neg e] at h3; exact ⟨Or.inr ⟨h1, h2, h3⟩, e⟩
  -- nobody open lies in t
  have hnone : ∀ u, Live T u → t ∈ pth T.par u → u = t := by
    intro u
    induction u using Nat.strongRecOn with
    | _ u ih =>
      intro hu htu
      by_cases e : u = t
      · exact e
      · have hun := live_le j hu
        have hu0 : u ≠ 0 := fun q => by subst q; simp [pth_zero] at htu; omega
        have hup := live_up j hu hu0
        have hlo := hpo u (by omega) hun
        rw [pth_step hpo u (by omega) hun, List.mem_append, List.mem_singleton] at htu
        rcases htu with htu | htu
        · have h1 := ih _ hlo hup htu
          have h15 := j.n15
          have := child_false j hch (open_of_live j hu hu0)
          exfalso
          apply this
          have hl := j.low u (by omega) hun
          rw [j.par u (by omega)] at h1
          omega
        · exact absurd htu.symm e
  have hSt : onWay T.par W p ++ W t = onWay T.par W t := by rw [onWay_step hpo W t (by omega) htn, hp]; simp
  have hupd : ∀ c, ∀ q ∈ upd W p (W p ++ W t) c, q ∈ W c ∨ (c = p ∧ q ∈ W t) := fun c q hq => by
    unfold upd at hq
    by_cases e : c = p
    · rw [if_pos e, List.mem_append] at hq
      rcases hq with hq | hq
      · exact Or.inl (by rw [e]; exact hq)
      · exact Or.inr ⟨e, hq⟩
    · rw [if_neg e] at hq; exact Or.inl hq
  -- who meets what t has
  have hmeet : ∀ c, c ≠ t → Live T c → (t ∈ pth T.par c ∨ c ∈ pth T.par t) → c ∈ pth T.par p := fun c hct hc h => by
    rcases h with h | h
    · exact absurd (hnone c hc h) hct
    · rw [pth_step hpo t (by omega) htn, hp, List.mem_append, List.mem_singleton] at h
      rcases h with h | h
      · simpa using h
      · exact absurd h hct
  refine ⟨a1, a2, a3, fun b c hb0 hc0 hb hc i hi q hq x hwi hoq => ?_, fun u hu => ?_⟩
  · obtain ⟨hb, hbt⟩ := hlive b hb
    obtain ⟨hc, hct⟩ := hlive c hc
    rw [hpar]
    rcases hupd b i hi with h1 | ⟨rfl, h1⟩
    · rw [wrOn_ext (hwl b i h1)] at hwi
      rcases hupd c q hq with h2 | ⟨rfl, h2⟩
      · rw [isOn_ext (hwl c q h2)] at hoq
        exact g.ap b c hb0 hc0 hb hc i h1 q h2 x hwi hoq
      · rw [isOn_ext (hwl t q h2)] at hoq
        exact Or.inl (hmeet b hbt hb (g.ap b t hb0 ht0 hb hlt i h1 q h2 x hwi hoq).symm)
    · rw [wrOn_ext (hwl t i h1)] at hwi
      rcases hupd c q hq with h2 | ⟨rfl, h2⟩
      · rw [isOn_ext (hwl c q h2)] at hoq
        exact Or.inr (hmeet c hct hc (g.ap t c ht0 hc0 hlt hc i h1 q h2 x hwi hoq))
      · exact Or.inl (pth_self hpo _ (live_le j hpl))
  · obtain ⟨hu, hut⟩ := hlive u hu
    rw [hpar]
    have hun := live_le j hu
    have hltw : ∀ c, ∀ q ∈ onWay T.par W c, q < es.length := fun c q hq => by obtain ⟨c', _, hc'⟩ := onWay_mem.1 hq; exact hwl c' q hc'
    by_cases hpu : p ∈ pth T.par u
    · refine plays_ins j _ hwl hun hpu (g.ok p hpl) (g.ok u hu) (by rw [hSt]; exact (g.ok t hlt).more (hltw t) _) fun c hc1 hc2 hc3 x i hi hwi q hq hoq => ?_
      rw [wrOn_ext (hwl t i hi)] at hwi
      have hcl := live_path j u hu c hc3
      have hct : c ≠ t := fun e => hut (hnone u hu (by rw [← e]; exact hc3))
      have h1 := hmeet c hct hcl (g.ap t c ht0 (by omega) hlt hcl i hi q hq x hwi hoq)
      have := pth_le hpo p (live_le j hpl) c h1
      omega
    · rw [onWay_same fun c hc => by unfold upd; rw [if_neg (fun e => hpu (by rw [← e]; exact hc))]]
      exact (g.ok u hu).more (hltw u) _

/-- Abort. -/
theorem SInv.abort {es : List Ev} {T : Tr} {W : Nat → List Nat} (g : SInv es T W) (t : Nat) (hw : wrongL es ⟨6, (t : Int), ((0 : Nat) : Int), 0, 0⟩ = 0) :
    SInv (es ++ [⟨6, (t : Int), ((0 : Nat) : Int), 0, 0⟩]) (abortT T t) W := by
  have j := g.jj
  obtain ⟨a1, a2, a3⟩ := g.snoc 6 t 0 0 0 hw
  obtain ⟨_, _, hop, _⟩ := wrong_facts hw
  have hT : stepT T 6 t 0 = abortT T t := by unfold stepT; rw [if_neg (by decide), if_neg (by decide), if_pos rfl]
  have hlive : ∀ u, Live (abortT T t) u → Live T u := fun u hu => by
    rcases hu with h | ⟨h1, h2, h3⟩
    · exact Or.inl h
    · rw [← hT] at h3
      rcases live_back j hop h2 h3 with h4 | h4
      · exact Or.inr ⟨h1, h2, h4⟩
      · omega
  rw [hT, gStep_not (by decide) (by decide)] at a1 a2
  have hwl : ∀ c, ∀ q ∈ W c, q < es.length := fun c q hq => (g.gi.pl c q hq).lt
  have hpar : (abortT T t).par = T.par := rfl
  refine ⟨a1, a2, a3, fun b c hb0 hc0 hb hc i hi q hq x hwi hoq => ?_, fun u hu => ?_⟩
  · rw [wrOn_ext (hwl b i hi)] at hwi
    rw [isOn_ext (hwl c q hq)] at hoq
    exact g.ap b c hb0 hc0 (hlive b hb) (hlive c hc) i hi q hq x hwi hoq
  · rw [hpar]
    exact (g.ok u (hlive u hu)).more (fun q hq => by obtain ⟨c', _, hc'⟩ := onWay_mem.1 hq; exact hwl c' q hc') _

/-- What is written down comes out as it has come out. -/
theorem SInv.serial {es : List Ev} {T : Tr} {W : Nat → List Nat} (g : SInv es T W) : (checkG [] es) = (0, 0) ∧ ∃ V, replayG es = (-1, V, 0) ∧ ∀ x, V x = lastW es (W 0) x es.length := by
  have h := g.ok 0 (Or.inl rfl)
  rw [onWay_zero] at h
  have hord : orderL es = W 0 := by unfold orderL; rw [gather_run, g.run]
  refine ⟨g.ck, (playL es zeroV (W 0)).2, ?_, h.val⟩
  unfold replayG
  rw [if_pos (by rw [g.ck]), hord]
  have := h.fits
  unfold zeroV at this
  rw [this]
  rfl

end Go.Proofs.Ytfdalbmopaemgab
