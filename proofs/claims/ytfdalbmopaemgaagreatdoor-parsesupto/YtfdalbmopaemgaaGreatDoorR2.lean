import Derived.Test.YtfdalbmopaemgaaGreatDoorR1
namespace Go.Proofs.YtfdalbmopaemgaaGreatDoor
open Go.RowKit

/-! ### What a word is worth -/
def vN (l : List UInt8) : Nat := l.foldl (fun n c => if isDig c then n * 10 + (c.toNat - 48) else n) 0
def vS (l : List UInt8) : Int := l.foldl (fun s c => if c = 45 then -1 else s) 1

theorem vN_snoc (l : List UInt8) (c : UInt8) : vN (l ++ [c]) = if isDig c then vN l * 10 + (c.toNat - 48) else vN l := by simp [vN]
theorem vS_snoc (l : List UInt8) (c : UInt8) : vS (l ++ [c]) = if c = 45 then -1 else vS l := by simp [vS]

theorem vS_or (l : List UInt8) : vS l = 1 ∨ vS l = -1 := by
  obtain ⟨r, rfl⟩ : ∃ r : List UInt8, l = r.reverse := ⟨l.reverse, by simp⟩
  induction r with
  | nil => exact Or.inl rfl
  | cons c r ih =>
    simp only [List.reverse_cons]
    rw [vS_snoc]
    split
    · exact Or.inr rfl
    · exact ih

theorem vN_lt (l : List UInt8) : vN l < 10 ^ l.length := by
  obtain ⟨r, rfl⟩ : ∃ r : List UInt8, l = r.reverse := ⟨l.reverse, by simp⟩
  induction r with
  | nil => simp [vN]
  | cons c r ih =>
    simp only [List.reverse_cons]
    rw [vN_snoc, List.length_append, List.length_singleton, Nat.pow_succ]
    have : isDig c = true → c.toNat - 48 ≤ 9 := by intro h; unfold isDig at h; simp at h; omega
    split
    · rename_i h; have := this h; omega
    · omega

theorem vN_digits (l : List UInt8) (h : ∀ c ∈ l, isDig c = true) : vN l = valL l ∧ vS l = 1 := by
  obtain ⟨r, rfl⟩ : ∃ r : List UInt8, l = r.reverse := ⟨l.reverse, by simp⟩
  induction r with
  | nil => exact ⟨rfl, rfl⟩
  | cons c r ih =>
    simp only [List.reverse_cons] at h ⊢
    have hc : isDig c = true := h c (by simp)
    obtain ⟨i1, i2⟩ := ih (fun d hd => h d (by simp at hd ⊢; exact Or.inl hd))
    refine ⟨by rw [vN_snoc, valL_snoc, if_pos hc, i1], ?_⟩
    rw [vS_snoc, if_neg, i2]
    intro e
    subst e
    simp [isDig] at hc

theorem vN_cons45 (l : List UInt8) : vN (45 :: l) = vN l := by simp [vN, isDig]
theorem vS_cons45 (l : List UInt8) (h : ∀ c ∈ l, isDig c = true) : vS (45 :: l) = -1 := by
  obtain ⟨r, rfl⟩ : ∃ r : List UInt8, l = r.reverse := ⟨l.reverse, by simp⟩
  induction r with
  | nil => rfl
  | cons c r ih =>
    simp only [List.reverse_cons] at h ⊢
    rw [← List.cons_append, vS_snoc, ih (fun d hd => h d (by simp at hd ⊢; exact Or.inl hd))]
    simp

def vW (l : List UInt8) : Int := (vN (l.take 12) : Int) * vS (l.take 12)

theorem vW_itoa (m : Int) (h0 : -2147483648 ≤ m) (h1 : m ≤ 2147483647) : vW (Lib.itoa m) = m := by
  have hlen := itoa_length 9 m (by omega) (by omega)
  unfold vW
  rw [List.take_of_length_le (by omega)]
  by_cases hn : m < 0
  · obtain ⟨u, rfl⟩ : ∃ u : Nat, m = -(u : Int) := ⟨m.natAbs, by omega⟩
    rw [itoa_min u (by omega), vN_cons45, vS_cons45 _ (dec_digits u), (vN_digits _ (dec_digits u)).1, dec_val]
    omega
  · obtain ⟨u, rfl⟩ : ∃ u : Nat, m = (u : Int) := ⟨m.toNat, by omega⟩
    rw [itoa_pos, (vN_digits _ (dec_digits u)).1, (vN_digits _ (dec_digits u)).2, dec_val]
    omega

theorem take_snoc (s : ByteArray) (k : Nat) (h : k < s.size) : s.data.toList.take (k + 1) = s.data.toList.take k ++ [s[k]] := by
  rw [List.take_succ_eq_append_getElem (by simpa using h)]
  rfl

theorem byte45 (c : UInt8) : ((c.toNat : Int) == 45) = true ↔ c = 45 := by
  rw [beq_iff_eq]
  exact ⟨fun e => UInt8.toNat_inj.1 (Int.ofNat_inj.1 e), fun e => by rw [e]; rfl⟩

set_option maxRecDepth 100000 in
set_option maxHeartbeats 1000000 in
theorem value_any (s : ByteArray) (w : World) (hs : s.size ≤ 9223372036854775000) :
    Calls Tryz.prog 80 #[.string s] w fun r w' => r = .returned (.int .i64 (vW s.data.toList)) ∧ w' = w := by
  go_enter Tryz.func80, Tryz.ntmps80
  go_wp2_with fail
  go_loop [3, 4, 5] (fun n sg i => ∃ k : Nat, k ≤ s.size ∧ k ≤ 12 ∧ i = .int .i64 k ∧ n = .int .i64 (vN (s.data.toList.take k) : Nat) ∧ sg = .int .i64 (vS (s.data.toList.take k))) (fun _ _ i => 12 - (intOf i).toNat)
  case atStart => exact ⟨0, by omega, by omega, rfl, rfl, rfl⟩
  case round =>
    obtain ⟨k, hk, hk12, rfl, rfl, rfl⟩ := hrel
    have hb := vN_lt (s.data.toList.take k)
    have hlk : (s.data.toList.take k).length = k := by simp; omega
    rw [hlk] at hb
    have hso := vS_or (s.data.toList.take k)
    by_cases hgo : k < s.size ∧ k < 12
    · obtain ⟨h1, h2⟩ := hgo
      have h1' : (k : Int) < (s.size : Int) := by omega
      have h2' : (k : Int) < 12 := by omega
      have hN := hidIt (vN_snoc (s.data.toList.take k) s[k])
      have hS := hidIt (vS_snoc (s.data.toList.take k) s[k])
      rw [← take_snoc s k h1] at hN hS
      obtain ⟨m, hm⟩ : ∃ m, vN (s.data.toList.take k) = m := ⟨_, rfl⟩
      obtain ⟨sg, hsg⟩ : ∃ sg, vS (s.data.toList.take k) = sg := ⟨_, rfl⟩
      rw [hm] at hb hN ⊢
      rw [hsg] at hS hso ⊢
      have hb2 : m ≤ 99999999999 := by
        have := Nat.pow_le_pow_right (n := 10) (by decide) (show k ≤ 11 by omega)
        omega
      clear hm hsg hb hlk hso
      have hct := s[k].toNat_lt
      cases hd : isDig s[k] with
      | true =>
        have hdd := hd
        unfold isDig at hdd
        simp at hdd
        obtain ⟨d1, d2⟩ := hdd
        have d1' : (48 : Int) ≤ (s[k].toNat : Int) := by omega
        have d2' : (s[k].toNat : Int) ≤ 57 := by omega
        have d3 : ((s[k].toNat : Int) == 45) = false := by simp; omega
        have d4 : ¬ s[k] = 45 := fun e => by rw [(byte45 _).2 e] at d3; cases d3
        go_wp2_with fail
        go_round
        case rel =>
          refine ⟨k + 1, by omega, by omega, by go_num, ?_, ?_⟩
          · rw [hN.out, if_pos hd]
            congr 1
            omega
          · rw [hS.out, if_neg d4]
        case measure => simp [intOf]; omega
      | false =>
        have hdd := hd
        unfold isDig at hdd
        simp at hdd
        cases hm45 : ((s[k].toNat : Int) == 45) with
        | true =>
          have e45 := (byte45 _).1 hm45
          have d1' : ¬ (48 : Int) ≤ (s[k].toNat : Int) := by have := beq_iff_eq.1 hm45; omega
          go_wp2_with fail
          go_round
          case rel =>
            refine ⟨k + 1, by omega, by omega, by go_num, ?_, ?_⟩
            · rw [hN.out, hd]; rfl
            · rw [hS.out, if_pos e45]
          case measure => simp [intOf]; omega
        | false =>
          have e45 : ¬ s[k] = 45 := fun e => by rw [(byte45 _).2 e] at hm45; cases hm45
          by_cases d1 : (48 : Int) ≤ (s[k].toNat : Int)
          · have d2 : ¬ (s[k].toNat : Int) ≤ 57 := by omega
            go_wp2_with fail
            go_round
            case rel =>
              refine ⟨k + 1, by omega, by omega, by go_num, ?_, ?_⟩
              · rw [hN.out, hd]; rfl
              · rw [hS.out, if_neg e45]
            case measure => simp [intOf]; omega
          · go_wp2_with fail
            go_round
            case rel =>
              refine ⟨k + 1, by omega, by omega, by go_num, ?_, ?_⟩
              · rw [hN.out, hd]; rfl
              · rw [hS.out, if_neg e45]
            case measure => simp [intOf]; omega
    · have hend : s.data.toList.take k = s.data.toList.take 12 := by
        by_cases h12 : k = 12
        · rw [h12]
        · have hks : k = s.size := by omega
          rw [List.take_of_length_le (by simp; omega), List.take_of_length_le (by simp; omega)]
      have hv : vW s.data.toList = (vN (s.data.toList.take k) : Int) * vS (s.data.toList.take k) := by unfold vW; rw [hend]
      have HV := hidIt hv
      obtain ⟨m, hm⟩ : ∃ m, vN (s.data.toList.take k) = m := ⟨_, rfl⟩
      obtain ⟨sg, hsg⟩ : ∃ sg, vS (s.data.toList.take k) = sg := ⟨_, rfl⟩
      rw [hm] at hb HV ⊢
      rw [hsg] at HV hso ⊢
      have hb2 : m ≤ 999999999999 := by
        have := Nat.pow_le_pow_right (n := 10) (by decide) hk12
        omega
      clear hm hsg hb hend hv hlk
      have hgo2 : ¬ (k : Int) < (s.size : Int) ∨ ((k : Int) < (s.size : Int) ∧ ¬ (k : Int) < 12) := by omega
      rcases hso with rfl | rfl
      all_goals rcases hgo2 with hg | ⟨hg1, hg2⟩
      all_goals go_wp2_with fail
      all_goals go_ret
      all_goals refine ⟨ret_int ?_, rfl⟩
      all_goals rw [HV.out]
      all_goals omega

/-! ### Words -/
def wordsL : List UInt8 → List UInt8 → List (List UInt8)
  | cur, [] => [cur]
  | cur, c :: l => if c = 32 then cur :: wordsL [] l else wordsL (cur ++ [c]) l

theorem wordsL_app (a r : List UInt8) (cur : List UInt8) (h : ∀ c ∈ a, c ≠ 32) : wordsL cur (a ++ r) = wordsL (cur ++ a) r := by
  induction a generalizing cur with
  | nil => simp
  | cons c a ih =>
    simp only [List.cons_append, wordsL]
    rw [if_neg (h c (by simp)), ih _ (fun d hd => h d (by simp [hd]))]
    simp

theorem wordsL_num (cur : List UInt8) (n : Int) (r : List UInt8) : wordsL cur (numL n ++ r) = cur :: wordsL (Lib.itoa n) r := by
  simp only [numL, List.cons_append, wordsL, if_true]
  rw [wordsL_app _ _ _ (fun c hc => ?_)]
  · simp
  · unfold Lib.itoa at hc
    intro e
    subst e
    split at hc
    · simp only [List.mem_cons] at hc
      rcases hc with hc | hc
      · exact absurd hc (by decide)
      · have := dec_digits _ _ hc; simp [isDig] at this
    · have := dec_digits _ _ hc; simp [isDig] at this

def optW (b : Bool) (n : Int) : List (List UInt8) := if b then [Lib.itoa n] else []

theorem wordsL_num0 (cur : List UInt8) (n : Int) : wordsL cur (numL n) = [cur, Lib.itoa n] := by
  have := wordsL_num cur n []
  simpa [wordsL] using this

theorem words_line (e : Ev) (hk : isKind e.k = true) : ∃ c, letterL e.k = [c] ∧ kindOfL c = e.k ∧ wordsL [] (lineL e) = [c] :: Lib.itoa e.t :: (optW (nArg e.k) e.a ++ (optW (nVal e.k) e.v ++ optW (nSeen e.k) e.s)) := by
  obtain ⟨c, h1, h2, _⟩ := kindOf_letterL e.k hk
  have hc : c ≠ 32 := by
    intro e'
    subst e'
    have : kindOfL 32 = 0 := rfl
    rw [this] at h2
    unfold isKind at hk
    simp at hk
    omega
  refine ⟨c, h1, h2, ?_⟩
  unfold lineL numbersL
  rw [h1]
  simp only [List.cons_append, List.nil_append, wordsL]
  rw [if_neg hc]
  rw [wordsL_num]
  cases hA : nArg e.k <;> cases hV : nVal e.k <;> cases hS : nSeen e.k <;> simp [optL, optW, wordsL, wordsL_num, wordsL_num0]

/-! ### words -/
theorem Tryz.infoStr : (Tryz.prog.info? 9).map (fun i => (i.zero, i.size, i.bytes)) = some (some (.string ⟨#[]⟩), 1, 16) := by kernel_rfl

def strV (l : List (List UInt8)) : List Value := l.map fun x => .string ⟨x.toArray⟩

/-- A list of texts of the call's own. -/
def OwnS (w : World) (B : Nat) (v : Value) (ws : List (List UInt8)) : Prop := w.ownsRow B 9 1 v ws.length (strV ws)

theorem OwnS.form {w : World} {B : Nat} {v : Value} {ws : List (List UInt8)} (h : OwnS w B v ws) : ∃ a c, v = .slice a ws.length c := by
  rcases h.2 with ⟨rfl, h0⟩ | ⟨g, cap, cur, rfl, _⟩
  · exact ⟨none, 0, by rw [h0]⟩
  · exact ⟨_, cap, rfl⟩

theorem OwnS.cell {w : World} {B : Nat} {v : Value} {ws : List (List UInt8)} (h : OwnS w B v ws) (i : Nat) (hi : i < ws.length) : ∃ g cap, v = .slice (some ⟨g, 0, none⟩) ws.length cap ∧ g < w.heap.size ∧ ∀ j (hj : j < ws.length), w.cell? ⟨g, j, none⟩ = some (.string ⟨ws[j].toArray⟩) := by
  rcases h.2 with ⟨_, h0⟩ | ⟨g, cap, cur, h1, h2, h3, _⟩
  · omega
  · refine ⟨g, cap, h1, (Array.getElem?_eq_some_iff.1 h3).1, fun j hj => ?_⟩
    have hc := World.ownsRow.cells h (g := g) (by rw [h1]; rfl) j (.string ⟨ws[j].toArray⟩) (by simp [strV, hj])
    have hadd : (⟨g, 0, none⟩ : Addr).add j = ⟨g, j, none⟩ := by unfold Addr.add; split <;> simp_all
    rw [hadd] at hc
    exact hc

theorem OwnS.below {w w' : World} {B : Nat} {v : Value} {ws : List (List UInt8)} (h : OwnS w B v ws) (hb : Below w.heap.size w w') : OwnS w' B v ws := by
  refine ⟨h.1, ?_⟩
  rcases h.2 with hn | ⟨g, cap, cur, rfl, h1, h2, h3⟩
  · exact Or.inl hn
  · refine Or.inr ⟨g, cap, cur, rfl, h1, ?_, h3⟩
    rw [hb.block g (Array.getElem?_eq_some_iff.1 h2).1]
    exact h2

def WordsPost (w : World) (l : List UInt8) (r : Ending) (w' : World) : Prop :=
  ∃ v, r = .returned v ∧ OwnS w' w.heap.size v (wordsL [] l) ∧ Below w.heap.size w w'

theorem sub_ext (s : ByteArray) (p q : Nat) : s.extract p q = ⟨(sub s p q).toArray⟩ := Lib.extract_eq s p q

theorem byte32 (c : UInt8) : ((c.toNat : Int) == 32) = true ↔ c = 32 := by
  rw [beq_iff_eq]
  exact ⟨fun e => UInt8.toNat_inj.1 (Int.ofNat_inj.1 e), fun e => by rw [e]; rfl⟩

theorem str_new (w1 : World) (T : TypeId) (s : ByteArray) : ∀ j u, ([.string s] : List Value)[j]? = some u → (w1.alloc (.cells #[.string s] T)).cell? ((⟨w1.heap.size, 0, none⟩ : Addr).add j) = some u := by
  intro j u hj
  have hlt : j < 1 := by
    have := (List.getElem?_eq_some_iff.1 hj).1
    simpa using this
  have hc : j = 0 := by omega
  subst hc
  simp at hj
  subst hj
  simp [go_sem, Addr.add]

/-- Where the words' loop stands. -/
def WLoop (w : World) (s : ByteArray) (i from_ : Nat) (v : Value) (wr : World) : Prop :=
  ∃ W : List (List UInt8), OwnS wr w.heap.size v W ∧ W.length ≤ i ∧ Below w.heap.size w wr ∧
    ((i ≤ s.size ∧ from_ ≤ i ∧ wordsL [] s.data.toList = W ++ wordsL (sub s from_ i) (s.data.toList.drop i)) ∨ (i = s.size + 1 ∧ from_ = s.size + 1 ∧ wordsL [] s.data.toList = W))

set_option maxRecDepth 100000 in
set_option maxHeartbeats 1000000 in
theorem words_any (s : ByteArray) (w : World) (hs : s.size ≤ 1048576) :
    Calls Tryz.prog 79 #[.string s] w (WordsPost w s.data.toList) := by
  obtain ⟨i0, hi, hz0, hz1, hz2⟩ := info_parts Tryz.infoStr
  have HI := hidIt hi
  have HZ0 := hidIt hz0
  have HZ1 := hidIt hz1
  have HZ2 := hidIt hz2
  clear hi hz0 hz1 hz2
  go_enter Tryz.func79, Tryz.ntmps79
  go_wp2_with fail
  go_loopw [3, 4, 5] (fun v f i wr => ∃ (k p : Nat), i = .int .i64 k ∧ f = .int .i64 p ∧ k ≤ s.size + 1 ∧ WLoop w s k p v wr) (fun _ _ i _ => s.size + 1 - (intOf i).toNat)
  case atStart => exact ⟨0, 0, rfl, rfl, by omega, [], World.ownsRow_nil _ _ _ _, by simp, Below.refl _ _, Or.inl ⟨by omega, by omega, by simp [sub]⟩⟩
  case round =>
    obtain ⟨k, p, rfl, rfl, hk, W, hown, hWl, hnx, hcase⟩ := hrel
    rcases hcase with ⟨hks, hpk, hw⟩ | ⟨hks, hp, hw⟩
    · have hk' : (k : Int) ≤ (s.size : Int) := by omega
      have HW := hidIt hw
      clear hw
      obtain ⟨a, c, rfl⟩ := hown.form
      by_cases hend : k = s.size
      · have e0 : ((k : Int) == (s.size : Int)) = true := by simp; omega
        have HE := hidIt hend
        clear hend
        go_wp2_with (at_builtin; refine wpList_append_own _ rfl _ _ 114 rfl w.heap.size 9 i0 (.string ⟨#[]⟩) 1 16 Tryz.underlying114 HI.out HZ0.out HZ1.out HZ2.out rfl (by decide) _ _ _ rfl (World.ownsRow.alloc hown _) ⟨wr.heap.size, 0, none⟩ 1 1 [.string (s.extract p k)] rfl rfl (str_new wr _ _) ?c2 ?c3 ?c4 ?c5 ?_)
        case c2 => intro u hu; simp at hu; subst hu; rfl
        case c3 => unfold maxLen; omega
        case c4 => omega
        case c5 => have := hnx.size; simp; omega
        intro v' w1 hown' hgrow _
        have hown2 : OwnS w1 w.heap.size v' (W ++ [sub s p k]) := by
          unfold OwnS
          rw [List.length_append]
          rw [sub_ext] at hown'
          simpa [strV] using hown'
        have hnx2 : Below w.heap.size w w1 := Below.grown (hnx.alloc hnx.size _) hgrow (by have := hnx.size; simp; omega) (fun j hj => (World.ownsRow.lt hown j hj).1)
        clear hown' hgrow
        go_wp2_with fail
        go_roundw
        case rel =>
          refine ⟨k + 1, k + 1, by go_num, by go_num, by omega, W ++ [sub s p k], hown2, by simp; omega, hnx2, Or.inr ⟨by rw [HE.out], by rw [HE.out], ?_⟩⟩
          rw [HW.out, List.drop_eq_nil_of_le (by simp; have := HE.out; omega)]
          rfl
        case measure => simp [intOf]; omega
      · have e0 : ((k : Int) == (s.size : Int)) = false := by simp; omega
        have hlt : k < s.size := by omega
        have hlt' : (k : Int) < (s.size : Int) := by omega
        have hdrop : s.data.toList.drop k = s[k] :: s.data.toList.drop (k + 1) := by rw [List.drop_eq_getElem_cons (by simpa using hlt)]; rfl
        have HD := hidIt hdrop
        clear hdrop
        cases hc : ((s[k].toNat : Int) == 32) with
        | true =>
          have hc32 := hidIt ((byte32 _).1 hc)
          go_wp2_with (at_builtin; refine wpList_append_own _ rfl _ _ 114 rfl w.heap.size 9 i0 (.string ⟨#[]⟩) 1 16 Tryz.underlying114 HI.out HZ0.out HZ1.out HZ2.out rfl (by decide) _ _ _ rfl (World.ownsRow.alloc hown _) ⟨wr.heap.size, 0, none⟩ 1 1 [.string (s.extract p k)] rfl rfl (str_new wr _ _) ?c2 ?c3 ?c4 ?c5 ?_)
          case c2 => intro u hu; simp at hu; subst hu; rfl
          case c3 => unfold maxLen; omega
          case c4 => omega
          case c5 => have := hnx.size; simp; omega
          intro v' w1 hown' hgrow _
          have hown2 : OwnS w1 w.heap.size v' (W ++ [sub s p k]) := by
            unfold OwnS
            rw [List.length_append]
            rw [sub_ext] at hown'
            simpa [strV] using hown'
          have hnx2 : Below w.heap.size w w1 := Below.grown (hnx.alloc hnx.size _) hgrow (by have := hnx.size; simp; omega) (fun j hj => (World.ownsRow.lt hown j hj).1)
          clear hown' hgrow
          go_wp2_with fail
          go_roundw
          case rel =>
            refine ⟨k + 1, k + 1, by go_num, by go_num, by omega, W ++ [sub s p k], hown2, by simp; omega, hnx2, Or.inl ⟨by omega, by omega, ?_⟩⟩
            rw [HW.out, HD.out, wordsL, if_pos hc32.out, List.append_assoc]
            simp [sub]
          case measure => simp [intOf]; omega
        | false =>
          have hc32 : Hid (¬ s[k] = 32) := fun e => (by rw [(byte32 _).2 e] at hc; cases hc)
          go_wp2_with fail
          go_roundw
          case rel =>
            refine ⟨k + 1, p, by go_num, rfl, by omega, W, hown, by omega, hnx, Or.inl ⟨by omega, by omega, ?_⟩⟩
            rw [HW.out, HD.out, wordsL, if_neg hc32.out, sub_snoc s p k hpk hlt]
          case measure => simp [intOf]; omega
    · have hge : ¬ (k : Int) ≤ (s.size : Int) := by omega
      have HW := hidIt hw
      clear hw
      go_wp2_with fail
      go_ret
      exact ⟨_, rfl, by rw [HW.out]; exact hown, hnx⟩

end Go.Proofs.YtfdalbmopaemgaaGreatDoor
