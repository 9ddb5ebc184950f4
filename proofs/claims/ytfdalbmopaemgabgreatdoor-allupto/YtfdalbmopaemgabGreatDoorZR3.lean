import Derived.Test.YtfdalbmopaemgabGreatDoorR1
namespace Go.Proofs.YtfdalbmopaemgabGreatDoor
open Go.RowKit

/-! ### What a word is worth -/
def vN (l : List UInt8) : Nat := l.foldl (fun n c => if isDig c then n * 10 + (c.toNat - 48) else n) 0
def vS (l : List UInt8) : Int := l.foldl (fun s c => if c = 45 then -1 else s) 1

theorem vN_snoc (l : List UInt8) (c : UInt8) : vN (l ++ [c]) = if isDig c then vN l * 10 + (c.toNat - 48) else vN l := by simp [vN]
theorem vS_snoc (l : List UInt8) (c : UInt8) : vS (l ++ [c]) = if c = 45 then -1 else vS l := by simp [vS]

theorem vS_or (l : List UInt8) : vS l = 1 ∨ vS l = -1 := by
  obtain ⟨r, rfl⟩ : ∃ r : List UInt8, l = r.reverse := ⟨l.reverse, by simp⟩
  induction r with
  | nil => exact Or.inl rfl
  | cons c r ih =>
    simp only [List.reverse_cons]
    rw [vS_snoc]
    split
    · exact Or.inr rfl
    · exact ih

theorem vN_lt (l : List UInt8) : vN l < 10 ^ l.length := by
  obtain ⟨r, rfl⟩ : ∃ r : List UInt8, l = r.reverse := ⟨l.reverse, by simp⟩
  induction r with
  | nil => simp [vN]
  | cons c r ih =>
    simp only [List.reverse_cons]
    rw [vN_snoc, List.length_append, List.length_singleton, Nat.pow_succ]
    have : isDig c = true → c.toNat - 48 ≤ 9 := by intro h; unfold isDig at h; simp at h; omega
    split
    · rename_i h; have := this h; omega
    · omega

theorem vN_digits (l : List UInt8) (h : ∀ c ∈ l, isDig c = true) : vN l = valL l ∧ vS l = 1 := by
  obtain ⟨r, rfl⟩ : ∃ r : List UInt8, l = r.reverse := ⟨l.reverse, by simp⟩
  induction r with
  | nil => exact ⟨rfl, rfl⟩
  | cons c r ih =>
    simp only [List.reverse_cons] at h ⊢
    have hc : isDig c = true := h c (by simp)
    obtain ⟨i1, i2⟩ := ih (fun d hd => h d (by simp at hd ⊢; exact Or.inl hd))
    refine ⟨by rw [vN_snoc, valL_snoc, if_pos hc, i1], ?_⟩
    rw [vS_snoc, if_neg, i2]
    intro e
    subst e
    simp [isDig] at hc

theorem vN_cons45 (l : List UInt8) : vN (45 :: l) = vN l := by simp [vN, isDig]
theorem vS_cons45 (l : List UInt8) (h : ∀ c ∈ l, isDig c = true) : vS (45 :: l) = -1 := by
  obtain ⟨r, rfl⟩ : ∃ r : List UInt8, l = r.reverse := ⟨l.reverse, by simp⟩
  induction r with
  | nil => rfl
  | cons c r ih =>
    simp only [List.reverse_cons] at h ⊢
    rw [← List.cons_append, vS_snoc, ih (fun d hd => h d (by simp at hd ⊢; exact Or.inl hd))]
    simp

def vW (l : List UInt8) : Int := (vN (l.take 12) : Int) * vS (l.take 12)

theorem vW_itoa (m : Int) (h0 : -2147483648 ≤ m) (h1 : m ≤ 2147483647) : vW (Lib.itoa m) = m := by
  have hlen := itoa_length 9 m (by omega) (by omega)
  unfold vW
  rw [List.take_of_length_le (by omega)]
  by_cases hn : m < 0
  · obtain ⟨u, rfl⟩ : ∃ u : Nat, m = -(u : Int) := ⟨m.natAbs, by omega⟩
    rw [itoa_min u (by omega), vN_cons45, vS_cons45 _ (dec_digits u), (vN_digits _ (dec_digits u)).1, dec_val]
    omega
  · obtain ⟨u, rfl⟩ : ∃ u : Nat, m = (u : Int) := ⟨m.toNat, by omega⟩
    rw [itoa_pos, (vN_digits _ (dec_digits u)).1, (vN_digits _ (dec_digits u)).2, dec_val]
    omega

theorem take_snoc (s : ByteArray) (k : Nat) (h : k < s.size) : s.data.toList.take (k + 1) = s.data.toList.take k ++ [s[k]] := by
  rw [List.take_succ_eq_append_getElem (by simpa using h)]
  rfl

theorem byte45 (c : UInt8) : ((c.toNat : Int) == 45) = true ↔ c = 45 := by
  rw [beq_iff_eq]
  exact ⟨fun e => UInt8.toNat_inj.1 (Int.ofNat_inj.1 e), fun e => by rw [e]; rfl⟩

set_option maxRecDepth 100000 in
set_option maxHeartbeats 1000000 in
theorem value_any (s : ByteArray) (w : World) (hs : s.size ≤ 9223372036854775000) :
    Calls Tryz.prog 75 #[.string s] w fun r w' => r = .returned (.int .i64 (vW s.data.toList)) ∧ w' = w := by
  go_enter Tryz.func75, Tryz.ntmps75
  go_wp2_with fail
  go_loop [3, 4, 5] (fun n sg i => ∃ k : Nat, k ≤ s.size ∧ k ≤ 12 ∧ i = .int .i64 k ∧ n = .int .i64 (vN (s.data.toList.take k) : Nat) ∧ sg = .int .i64 (vS (s.data.toList.take k))) (fun _ _ i => 12 - (intOf i).toNat)
  case atStart => exact ⟨0, by omega, by omega, rfl, rfl, rfl⟩
  case round =>
    obtain ⟨k, hk, hk12, rfl, rfl, rfl⟩ := hrel
    have hb := vN_lt (s.data.toList.take k)
    have hlk : (s.data.toList.take k).length = k := by simp; omega
    rw [hlk] at hb
    have hso := vS_or (s.data.toList.take k)
    by_cases hgo : k < s.size ∧ k < 12
    · obtain ⟨h1, h2⟩ := hgo
      have h1' : (k : Int) < (s.size : Int) := by omega
      have h2' : (k : Int) < 12 := by omega
      have hN := hidIt (vN_snoc (s.data.toList.take k) s[k])
      have hS := hidIt (vS_snoc (s.data.toList.take k) s[k])
      rw [← take_snoc s k h1] at hN hS
      obtain ⟨m, hm⟩ : ∃ m, vN (s.data.toList.take k) = m := ⟨_, rfl⟩
      obtain ⟨sg, hsg⟩ : ∃ sg, vS (s.data.toList.take k) = sg := ⟨_, rfl⟩
      rw [hm] at hb hN ⊢
      rw [hsg] at hS hso ⊢
      have hb2 : m ≤ 99999999999 := by
        have := Nat.pow_le_pow_right (n := 10) (by decide) (show k ≤ 11 by omega)
        omega
      clear hm hsg hb hlk hso
      have hct := s[k].toNat_lt
      cases hd : isDig s[k] with
      | true =>
        have hdd := hd
        unfold isDig at hdd
        simp at hdd
        obtain ⟨d1, d2⟩ := hdd
        have d1' : (48 : Int) ≤ (s[k].toNat : Int) := by omega
        have d2' : (s[k].toNat : Int) ≤ 57 := by omega
        have d3 : ((s[k].toNat : Int) == 45) = false := by simp; omega
        have d4 : ¬ s[k] = 45 := fun e => by rw [(byte45 _).2 e] at d3; cases d3
        go_wp2_with fail
        go_round
        case rel =>
          refine ⟨k + 1, by omega, by omega, by go_num, ?_, ?_⟩
          · rw [hN.out, if_pos hd]
            congr 1
            omega
          · rw [hS.out, if_neg d4]
        case measure => simp [intOf]; omega
      | false =>
        have hdd := hd
        unfold isDig at hdd
        simp at hdd
        cases hm45 : ((s[k].toNat : Int) == 45) with
        | true =>
          have e45 := (byte45 _).1 hm45
          have d1' : ¬ (48 : Int) ≤ (s[k].toNat : Int) := by have := beq_iff_eq.1 hm45; omega
          go_wp2_with fail
          go_round
          case rel =>
            refine ⟨k + 1, by omega, by omega, by go_num, ?_, ?_⟩
            · rw [hN.out, hd]; rfl
            · rw [hS.out, if_pos e45]
          case measure => simp [intOf]; omega
        | false =>
          have e45 : ¬ s[k] = 45 := fun e => by rw [(byte45 _).2 e] at hm45; cases hm45
          by_cases d1 : (48 : Int) ≤ (s[k].toNat : Int)
          · have d2 : ¬ (s[k].toNat : Int) ≤ 57 := by omega
            go_wp2_with fail
            go_round
            case rel =>
              refine ⟨k + 1, by omega, by omega, by go_num, ?_, ?_⟩
              · rw [hN.out, hd]; rfl
              · rw [hS.out, if_neg e45]
            case measure => simp [intOf]; omega
          · go_wp2_with fail
            go_round
            case rel =>
              refine ⟨k + 1, by omega, by omega, by go_num, ?_, ?_⟩
              · rw [hN.out, hd]; rfl
              · rw [hS.out, if_neg e45]
            case measure => simp [intOf]; omega
    · have hend : s.data.toList.take k = s.data.toList.take 12 := by
        by_cases h12 : k = 12
        · rw [h12]
        · have hks : k = s.size := by omega
          rw [List.take_of_length_le (by simp; omega), List.take_of_length_le (by simp; omega)]
      have hv : vW s.data.toList = (vN (s.data.toList.take k) : Int) * vS (s.data.toList.take k) := by unfold vW; rw [hend]
      have HV := hidIt hv
      obtain ⟨m, hm⟩ : ∃ m, vN (s.data.toList.take k) = m := ⟨_, rfl⟩
      obtain ⟨sg, hsg⟩ : ∃ sg, vS (s.data.toList.take k) = sg := ⟨_, rfl⟩
      rw [hm] at hb HV ⊢
      rw [hsg] at HV hso ⊢
      have hb2 : m ≤ 999999999999 := by
        have := Nat.pow_le_pow_right (n := 10) (by decide) hk12
        omega
      clear hm hsg hb hend hv hlk
      have hgo2 : ¬ (k : Int) < (s.size : Int) ∨ ((k : Int) < (s.size : Int) ∧ ¬ (k : Int) < 12) := by omega
      rcases hso with rfl | rfl
      all_goals rcases hgo2 with hg | ⟨hg1, hg2⟩
      all_goals go_wp2_with fail
      all_goals go_ret
      all_goals refine ⟨ret_int ?_, rfl⟩
      all_goals rw [HV.out]
      all_goals omega

/-! ### Words -/
def wordsL : List UInt8 → List UInt8 → List (List UInt8)
  | cur, [] => [cur]
  | cur, c :: l => if c = 32 then cur :: wordsL [] l else wordsL (cur ++ [c]) l

theorem wordsL_app (a r : List UInt8) (cur : List UInt8) (h : ∀ c ∈ a, c ≠ 32) : wordsL cur (a ++ r) = wordsL (cur ++ a) r := by
  induction a generalizing cur with
  | nil => simp
  | cons c a ih =>
    simp only [List.cons_append, wordsL]
    rw [if_neg (h c (by simp)), ih _ (fun d hd => h d (by simp [hd]))]
    simp

theorem wordsL_num (cur : List UInt8) (n : Int) (r : List UInt8) : wordsL cur (numL n ++ r) = cur :: wordsL (Lib.itoa n) r := by
  simp only [numL, List.cons_append, wordsL, if_true]
  rw [wordsL_app _ _ _ (fun c hc => ?_)]
  · simp
  · unfold Lib.itoa at hc
    intro e
    subst e
    split at hc
    · simp only [List.mem_cons] at hc
      rcases hc with hc | hc
      · exact absurd hc (by decide)
      · have := dec_digits _ _ hc; simp [isDig] at this
    · have := dec_digits _ _ hc; simp [isDig] at this

def optW (b : Bool) (n : Int) : List (List UInt8) := if b then [Lib.itoa n] else []

theorem wordsL_num0 (cur : List UInt8) (n : Int) : wordsL cur (numL n) = [cur, Lib.itoa n] := by
  have := wordsL_num cur n []
  simpa [wordsL] using this

theorem words_line (e : Ev) (hk : isKind e.k = true) : ∃ c, letterL e.k = [c] ∧ kindOfL c = e.k ∧ wordsL [] (lineL e) = [c] :: Lib.itoa e.t :: (optW (nArg e.k) e.a ++ (optW (nVal e.k) e.v ++ optW (nSeen e.k) e.s)) := by
  obtain ⟨c, h1, h2, _⟩ := kindOf_letterL e.k hk
  have hc : c ≠ 32 := by
    intro e'
    subst e'
    have : kindOfL 32 = 0 := rfl
    rw [this] at h2
    unfold isKind at hk
    simp at hk
    omega
  refine ⟨c, h1, h2, ?_⟩
  unfold lineL numbersL
  rw [h1]
  simp only [List.cons_append, List.nil_append, wordsL]
  rw [if_neg hc]
  rw [wordsL_num]
  cases hA : nArg e.k <;> cases hV : nVal e.k <;> cases hS : nSeen e.k <;> simp [optL, optW, wordsL, wordsL_num, wordsL_num0]

/-! ### words -/
theorem Tryz.infoStr : (Tryz.prog.info? 9).map (fun i => (i.zero, i.size, i.bytes)) = some (some (.string ⟨#[]⟩), 1, 16) := by kernel_rfl

def strV (l : List (List UInt8)) : List Value := l.map fun x => .string ⟨x.toArray⟩

/-- A list of texts of the call's own. -/
def OwnS (w : World) (B : Nat) (v : Value) (ws : List (List UInt8)) : Prop := w.ownsRow B 9 1 v ws.length (strV ws)

theorem OwnS.form {w : World} {B : Nat} {v : Value} {ws : List (List UInt8)} (h : OwnS w B v ws) : ∃ a c, v = .slice a ws.length c := by
  rcases h.2 with ⟨rfl, h0⟩ | ⟨g, cap, cur, rfl, _⟩
  · exact ⟨none, 0, by rw [h0]⟩
  · exact ⟨_, cap, rfl⟩

theorem OwnS.cell {w : World} {B : Nat} {v : Value} {ws : List (List UInt8)} (h : OwnS w B v ws) (i : Nat) (hi : i < ws.length) : ∃ g cap, v = .slice (some ⟨g, 0, none⟩) ws.length cap ∧ g < w.heap.size ∧ ∀ j (hj : j < ws.length), w.cell? ⟨g, j, none⟩ = some (.string ⟨ws[j].toArray⟩) := by
  rcases h.2 with ⟨_, h0⟩ | ⟨g, cap, cur, h1, h2, h3, _⟩
  · omega
  · refine ⟨g, cap, h1, (Array.getElem?_eq_some_iff.1 h3).1, fun j hj => ?_⟩
    have hc := World.ownsRow.cells h (g := g) (by rw [h1]; rfl) j (.string ⟨ws[j].toArray⟩) (by simp [strV, hj])
    have hadd : (⟨g, 0, none⟩ : Addr).add j = ⟨g, j, none⟩ := by unfold Addr.add; split <;> simp_all
    rw [hadd] at hc
    exact hc

theorem OwnS.below {w w' : World} {B : Nat} {v : Value} {ws : List (List UInt8)} (h : OwnS w B v ws) (hb : Below w.heap.size w w') : OwnS w' B v ws := by
  refine ⟨h.1, ?_⟩
  rcases h.2 with hn | ⟨g, cap, cur, rfl, h1, h2, h3⟩
  · exact Or.inl hn
  · refine Or.inr ⟨g, cap, cur, rfl, h1, ?_, h3⟩
    rw [hb.block g (Array.getElem?_eq_some_iff.1 h2).1]
    exact h2

def WordsPost (w : World) (l : List UInt8) (r : Ending) (w' : World) : Prop :=
  ∃ v, r = .returned v ∧ OwnS w' w.heap.size v (wordsL [] l) ∧ Below w.heap.size w w'

theorem sub_ext (s : ByteArray) (p q : Nat) : s.extract p q = ⟨(sub s p q).toArray⟩ := Lib.extract_eq s p q

theorem byte32 (c : UInt8) : ((c.toNat : Int) == 32) = true ↔ c = 32 := by
  rw [beq_iff_eq]
  exact ⟨fun e => UInt8.toNat_inj.1 (Int.ofNat_inj.1 e), fun e => by rw [e]; rfl⟩

theorem str_new (w1 : World) (T : TypeId) (s : ByteArray) : ∀ j u, ([.string s] : List Value)[j]? = some u → (w1.alloc (.cells #[.string s] T)).cell? ((⟨w1.heap.size, 0, none⟩ : Addr).add j) = some u := by
  intro j u hj
  have hlt : j < 1 := by
    have := (List.getElem?_eq_some_iff.1 hj).1
    simpa using this
  have hc : j = 0 := by omega
  subst hc
  simp at hj
  subst hj
  simp [go_sem, Addr.add]

/-- Where the words' loop stands. -/
def WLoop (w : World) (s : ByteArray) (i from_ : Nat) (v : Value) (wr : World) : Prop :=
  ∃ W : List (List UInt8), OwnS wr w.heap.size v W ∧ W.length ≤ i ∧ Below w.heap.size w wr ∧
    ((i ≤ s.size ∧ from_ ≤ i ∧ wordsL [] s.data.toList = W ++ wordsL (sub s from_ i) (s.data.toList.drop i)) ∨ (i = s.size + 1 ∧ from_ = s.size + 1 ∧ wordsL [] s.data.toList = W))

set_option maxRecDepth 100000 in
set_option maxHeartbeats 1000000 in
theorem words_any (s : ByteArray) (w : World) (hs : s.size ≤ 1048576) :
    Calls Tryz.prog 74 #[.string s] w (WordsPost w s.data.toList) := by
  obtain ⟨i0, hi, hz0, hz1, hz2⟩ := info_parts Tryz.infoStr
  have HI := hidIt hi
  have HZ0 := hidIt hz0
  have HZ1 := hidIt hz1
  have HZ2 := hidIt hz2
  clear hi hz0 hz1 hz2
  go_enter Tryz.func74, Tryz.ntmps74
  go_wp2_with fail
  go_loopw [3, 4, 5] (fun v f i wr => ∃ (k p : Nat), i = .int .i64 k ∧ f = .int .i64 p ∧ k ≤ s.size + 1 ∧ WLoop w s k p v wr) (fun _ _ i _ => s.size + 1 - (intOf i).toNat)
  case atStart => exact ⟨0, 0, rfl, rfl, by omega, [], World.ownsRow_nil _ _ _ _, by simp, Below.refl _ _, Or.inl ⟨by omega, by omega, by simp [sub]⟩⟩
  case round =>
    obtain ⟨k, p, rfl, rfl, hk, W, hown, hWl, hnx, hcase⟩ := hrel
    rcases hcase with ⟨hks, hpk, hw⟩ | ⟨hks, hp, hw⟩
    · have hk' : (k : Int) ≤ (s.size : Int) := by omega
      have HW := hidIt hw
      clear hw
      obtain ⟨a, c, rfl⟩ := hown.form
      by_cases hend : k = s.size
      · have e0 : ((k : Int) == (s.size : Int)) = true := by simp; omega
        have HE := hidIt hend
        clear hend
        go_wp2_with (at_builtin; refine wpList_append_own _ rfl _ _ 114 rfl w.heap.size 9 i0 (.string ⟨#[]⟩) 1 16 Tryz.underlying114 HI.out HZ0.out HZ1.out HZ2.out rfl (by decide) _ _ _ rfl (World.ownsRow.alloc hown _) ⟨wr.heap.size, 0, none⟩ 1 1 [.string (s.extract p k)] rfl rfl (str_new wr _ _) ?c2 ?c3 ?c4 ?c5 ?_)
        case c2 => intro u hu; simp at hu; subst hu; rfl
        case c3 => unfold maxLen; omega
        case c4 => omega
        case c5 => have := hnx.size; simp; omega
        intro v' w1 hown' hgrow _
        have hown2 : OwnS w1 w.heap.size v' (W ++ [sub s p k]) := by
          unfold OwnS
          rw [List.length_append]
          rw [sub_ext] at hown'
          simpa [strV] using hown'
        have hnx2 : Below w.heap.size w w1 := Below.grown (hnx.alloc hnx.size _) hgrow (by have := hnx.size; simp; omega) (fun j hj => (World.ownsRow.lt hown j hj).1)
        clear hown' hgrow
        go_wp2_with fail
        go_roundw
        case rel =>
          refine ⟨k + 1, k + 1, by go_num, by go_num, by omega, W ++ [sub s p k], hown2, by simp; omega, hnx2, Or.inr ⟨by rw [HE.out], by rw [HE.out], ?_⟩⟩
          rw [HW.out, List.drop_eq_nil_of_le (by simp; have := HE.out; omega)]
          rfl
        case measure => simp [intOf]; omega
      · have e0 : ((k : Int) == (s.size : Int)) = false := by simp; omega
        have hlt : k < s.size := by omega
        have hlt' : (k : Int) < (s.size : Int) := by omega
        have hdrop : s.data.toList.drop k = s[k] :: s.data.toList.drop (k + 1) := by rw [List.drop_eq_getElem_cons (by simpa using hlt)]; rfl
        have HD := hidIt hdrop
        clear hdrop
        cases hc : ((s[k].toNat : Int) == 32) with
        | true =>
          have hc32 := hidIt ((byte32 _).1 hc)
          go_wp2_with (at_builtin; refine wpList_append_own _ rfl _ _ 114 rfl w.heap.size 9 i0 (.string ⟨#[]⟩) 1 16 Tryz.underlying114 HI.out HZ0.out HZ1.out HZ2.out rfl (by decide) _ _ _ rfl (World.ownsRow.alloc hown _) ⟨wr.heap.size, 0, none⟩ 1 1 [.string (s.extract p k)] rfl rfl (str_new wr _ _) ?c2 ?c3 ?c4 ?c5 ?_)
          case c2 => intro u hu; simp at hu; subst hu; rfl
          case c3 => unfold maxLen; omega
          case c4 => omega
          case c5 => have := hnx.size; simp; omega
          intro v' w1 hown' hgrow _
          have hown2 : OwnS w1 w.heap.size v' (W ++ [sub s p k]) := by
            unfold OwnS
            rw [List.length_append]
            rw [sub_ext] at hown'
            simpa [strV] using hown'
          have hnx2 : Below w.heap.size w w1 := Below.grown (hnx.alloc hnx.size _) hgrow (by have := hnx.size; simp; omega) (fun j hj => (World.ownsRow.lt hown j hj).1)
          clear hown' hgrow
          go_wp2_with fail
          go_roundw
          case rel =>
            refine ⟨k + 1, k + 1, by go_num, by go_num, by omega, W ++ [sub s p k], hown2, by simp; omega, hnx2, Or.inl ⟨by omega, by omega, ?_⟩⟩
            rw [HW.out, HD.out, wordsL, if_pos hc32.out, List.append_assoc]
            simp [sub]
          case measure => simp [intOf]; omega
        | false =>
          have hc32 : Hid (¬ s[k] = 32) := fun e => (by rw [(byte32 _).2 e] at hc; cases hc)
          go_wp2_with fail
          go_roundw
          case rel =>
            refine ⟨k + 1, p, by go_num, rfl, by omega, W, hown, by omega, hnx, Or.inl ⟨by omega, by omega, ?_⟩⟩
            rw [HW.out, HD.out, wordsL, if_neg hc32.out, sub_snoc s p k hpk hlt]
          case measure => simp [intOf]; omega
    · have hge : ¬ (k : Int) ≤ (s.size : Int) := by omega
      have HW := hidIt hw
      clear hw
      go_wp2_with fail
      go_ret
      exact ⟨_, rfl, by rw [HW.out]; exact hown, hnx⟩

end Go.Proofs.YtfdalbmopaemgabGreatDoor

namespace Go.Proofs.YtfdalbmopaemgabGreatDoor
open Go.RowKit

/-! ### guess -/
theorem wordsL_ne : ∀ (l cur : List UInt8), 0 < (wordsL cur l).length
  | [], cur => by simp [wordsL]
  | c :: l, cur => by
    unfold wordsL
    split
    · simp
    · exact wordsL_ne l _

def kindW (w0 : List UInt8) : Int := match w0 with
  | [c] => kindOfL c
  | _ => 0

/-- What stands at place j of the numbers when k of them have been looked at. -/
def vAt (W : List (List UInt8)) (j k : Nat) : Int := if j < k ∧ j < W.length then vW (W.getD j []) else 0

structure GC (w : World) (nb : Nat) (x1 x2 x3 x4 : Int) : Prop where
  c0 : w.cell? ⟨nb, 0, none⟩ = some (.int .i64 0)
  c1 : w.cell? ⟨nb, 1, none⟩ = some (.int .i64 x1)
  c2 : w.cell? ⟨nb, 2, none⟩ = some (.int .i64 x2)
  c3 : w.cell? ⟨nb, 3, none⟩ = some (.int .i64 x3)
  c4 : w.cell? ⟨nb, 4, none⟩ = some (.int .i64 x4)
  f1 : w.frozen? ⟨nb, 1, none⟩ = false
  f2 : w.frozen? ⟨nb, 2, none⟩ = false
  f3 : w.frozen? ⟨nb, 3, none⟩ = false
  f4 : w.frozen? ⟨nb, 4, none⟩ = false

def GLoop (w1 : World) (nb : Nat) (W : List (List UInt8)) (k : Nat) (wr : World) : Prop :=
  ∃ x1 x2 x3 x4, GC wr nb x1 x2 x3 x4 ∧ Below nb w1 wr ∧ Hid (x1 = vAt W 1 k ∧ x2 = vAt W 2 k ∧ x3 = vAt W 3 k ∧ x4 = vAt W 4 k)

theorem GC.set1 {w : World} {nb : Nat} {x1 x2 x3 x4 : Int} (h : GC w nb x1 x2 x3 x4) (y : Int) : GC (w.setCell ⟨nb, 1, none⟩ (.int .i64 y)) nb y x2 x3 x4 := by
  obtain ⟨a0, a1, a2, a3, a4, b1, b2, b3, b4⟩ := h
  exact ⟨by rw [World.cell?_setCell_other _ _ _ _ (by simp)]; exact a0, World.cell?_setCell_same _ _ _ a1, by rw [World.cell?_setCell_other _ _ _ _ (by simp)]; exact a2, by rw [World.cell?_setCell_other _ _ _ _ (by simp)]; exact a3, by rw [World.cell?_setCell_other _ _ _ _ (by simp)]; exact a4, by rw [World.frozen?_setCell]; exact b1, by rw [World.frozen?_setCell]; exact b2, by rw [World.frozen?_setCell]; exact b3, by rw [World.frozen?_setCell]; exact b4⟩
theorem GC.set2 {w : World} {nb : Nat} {x1 x2 x3 x4 : Int} (h : GC w nb x1 x2 x3 x4) (y : Int) : GC (w.setCell ⟨nb, 2, none⟩ (.int .i64 y)) nb x1 y x3 x4 := by
  obtain ⟨a0, a1, a2, a3, a4, b1, b2, b3, b4⟩ := h
  exact ⟨by rw [World.cell?_setCell_other _ _ _ _ (by simp)]; exact a0, by rw [World.cell?_setCell_other _ _ _ _ (by simp)]; exact a1, World.cell?_setCell_same _ _ _ a2, by rw [World.cell?_setCell_other _ _ _ _ (by simp)]; exact a3, by rw [World.cell?_setCell_other _ _ _ _ (by simp)]; exact a4, by rw [World.frozen?_setCell]; exact b1, by rw [World.frozen?_setCell]; exact b2, by rw [World.frozen?_setCell]; exact b3, by rw [World.frozen?_setCell]; exact b4⟩
theorem GC.set3 {w : World} {nb : Nat} {x1 x2 x3 x4 : Int} (h : GC w nb x1 x2 x3 x4) (y : Int) : GC (w.setCell ⟨nb, 3, none⟩ (.int .i64 y)) nb x1 x2 y x4 := by
  obtain ⟨a0, a1, a2, a3, a4, b1, b2, b3, b4⟩ := h
  exact ⟨by rw [World.cell?_setCell_other _ _ _ _ (by simp)]; exact a0, by rw [World.cell?_setCell_other _ _ _ _ (by simp)]; exact a1, by rw [World.cell?_setCell_other _ _ _ _ (by simp)]; exact a2, World.cell?_setCell_same _ _ _ a3, by rw [World.cell?_setCell_other _ _ _ _ (by simp)]; exact a4, by rw [World.frozen?_setCell]; exact b1, by rw [World.frozen?_setCell]; exact b2, by rw [World.frozen?_setCell]; exact b3, by rw [World.frozen?_setCell]; exact b4⟩
theorem GC.set4 {w : World} {nb : Nat} {x1 x2 x3 x4 : Int} (h : GC w nb x1 x2 x3 x4) (y : Int) : GC (w.setCell ⟨nb, 4, none⟩ (.int .i64 y)) nb x1 x2 x3 y := by
  obtain ⟨a0, a1, a2, a3, a4, b1, b2, b3, b4⟩ := h
  exact ⟨by rw [World.cell?_setCell_other _ _ _ _ (by simp)]; exact a0, by rw [World.cell?_setCell_other _ _ _ _ (by simp)]; exact a1, by rw [World.cell?_setCell_other _ _ _ _ (by simp)]; exact a2, by rw [World.cell?_setCell_other _ _ _ _ (by simp)]; exact a3, World.cell?_setCell_same _ _ _ a4, by rw [World.frozen?_setCell]; exact b1, by rw [World.frozen?_setCell]; exact b2, by rw [World.frozen?_setCell]; exact b3, by rw [World.frozen?_setCell]; exact b4⟩

theorem words_len : ∀ (l cur : List UInt8), ∀ x ∈ wordsL cur l, x.length ≤ cur.length + l.length
  | [], cur, x, hx => by simp [wordsL] at hx; subst hx; simp
  | c :: l, cur, x, hx => by
    unfold wordsL at hx
    split at hx
    · rcases List.mem_cons.1 hx with rfl | hx
      · simp
      · have := words_len l [] x hx; simp at this ⊢; omega
    · have := words_len l (cur ++ [c]) x hx; simp at this ⊢; omega

theorem vAt_new (W : List (List UInt8)) (k : Nat) (h : k < W.length) : vAt W k (k + 1) = vW W[k] := by
  unfold vAt
  rw [if_pos ⟨by omega, h⟩]
  simp [h]
theorem vAt_old (W : List (List UInt8)) (j k : Nat) (h : j ≠ k) : vAt W j (k + 1) = vAt W j k := by
  unfold vAt
  by_cases h1 : j < k ∧ j < W.length
  · rw [if_pos h1, if_pos ⟨by omega, h1.2⟩]
  · rw [if_neg h1, if_neg (by omega)]

theorem kindW_hit (w0 : List UInt8) (c : UInt8) (h : (w0 == [c]) = true) : kindW w0 = kindOfL c := by
  have : w0 = [c] := by simpa using h
  rw [this]
  rfl

theorem kindW_inv (w0 : List UInt8) (c : UInt8) (hc : kindOfL c ≠ 0) (h : kindW w0 = kindOfL c) : (w0 == [c]) = true := by
  unfold kindW at h
  split at h
  · rename_i d
    have h1 := (letterL_kindOf c hc).1
    have h2 := (letterL_kindOf d (by rw [h]; exact hc)).1
    rw [h, h1] at h2
    simp at h2
    simp [h2]
  · exact absurd h.symm hc

theorem kindW_range (w0 : List UInt8) : 0 ≤ kindW w0 ∧ kindW w0 ≤ 6 := by
  unfold kindW
  split
  · unfold kindOfL
    repeat' split
    all_goals omega
  · omega

theorem kw_hit (w0 : List UInt8) (c : UInt8) (j : Nat) (hc : kindOfL c = (j : Int)) (h : (w0 == [c]) = true) : (if kindW w0 < ((j + 1 : Nat) : Int) then kindW w0 else 0) = (j : Int) := by
  rw [kindW_hit w0 c h, hc, if_pos (by omega)]

theorem kw_miss (w0 : List UInt8) (c : UInt8) (j : Nat) (hj : 1 ≤ j) (hc : kindOfL c = (j : Int)) (h : (w0 == [c]) = false) : (if kindW w0 < ((j + 1 : Nat) : Int) then kindW w0 else 0) = if kindW w0 < (j : Int) then kindW w0 else 0 := by
  have hne : kindW w0 ≠ (j : Int) := fun e => by
    have := kindW_inv w0 c (by omega) (by rw [e, hc])
    rw [h] at this
    cases this
  by_cases hl : kindW w0 < (j : Int)
  · rw [if_pos hl, if_pos (by omega)]
  · rw [if_neg hl, if_neg (by omega)]

theorem kw_start (w0 : List UInt8) : (if kindW w0 < ((1 : Nat) : Int) then kindW w0 else 0) = 0 := by
  have := kindW_range w0
  split <;> omega

structure GF (w wq : World) (nb wg : Nat) (w0 : List UInt8) (x1 x2 x3 x4 kd : Int) : Prop where
  e : EvAt wq (w.heap.size + 1) 0 ⟨kd, 0, 0, 0, 0⟩
  r : EvAt wq w.heap.size 0 ⟨0, 0, 0, 0, 0⟩
  fe : ∀ j, wq.frozen? ⟨w.heap.size + 1, j, none⟩ = false
  fr : ∀ j, wq.frozen? ⟨w.heap.size, j, none⟩ = false
  n : GC wq nb x1 x2 x3 x4
  w0 : wq.cell? ⟨wg, 0, none⟩ = some (.string ⟨w0.toArray⟩)
  b : Below w.heap.size w wq
  ne1 : w.heap.size + 1 ≠ nb
  ne2 : w.heap.size + 1 ≠ wg

theorem GF.drewN {w wq : World} {nb wg : Nat} {w0 : List UInt8} {x1 x2 x3 x4 kd : Int} (h : GF w wq nb wg w0 x1 x2 x3 x4 kd) (m : Nat) : GF w (wq.drewN m) nb wg w0 x1 x2 x3 x4 kd :=
  ⟨⟨h.e.c0, h.e.c1, h.e.c2, h.e.c3, h.e.c4⟩, ⟨h.r.c0, h.r.c1, h.r.c2, h.r.c3, h.r.c4⟩, h.fe, h.fr, ⟨h.n.c0, h.n.c1, h.n.c2, h.n.c3, h.n.c4, h.n.f1, h.n.f2, h.n.f3, h.n.f4⟩, h.w0, below_drewN h.b m, h.ne1, h.ne2⟩

theorem GF.setK {w wq : World} {nb wg : Nat} {w0 : List UInt8} {x1 x2 x3 x4 kd : Int} (h : GF w wq nb wg w0 x1 x2 x3 x4 kd) (kd' : Int) : GF w (wq.setCell ⟨w.heap.size + 1, 0, none⟩ (.int .u8 kd')) nb wg w0 x1 x2 x3 x4 kd' := by
  have ho : ∀ (a : Addr), (⟨w.heap.size + 1, 0, none⟩ : Addr) ≠ a → (wq.setCell ⟨w.heap.size + 1, 0, none⟩ (.int .u8 kd')).cell? a = wq.cell? a := fun a ha => World.cell?_setCell_other _ _ _ _ ha
  have hn : ∀ j, (⟨w.heap.size + 1, 0, none⟩ : Addr) ≠ ⟨nb, j, none⟩ := fun j e => h.ne1 (by simpa using congrArg Addr.block e)
  refine ⟨⟨World.cell?_setCell_same _ _ _ h.e.c0, ?_, ?_, ?_, ?_⟩, ⟨?_, ?_, ?_, ?_, ?_⟩, fun j => by rw [World.frozen?_setCell]; exact h.fe j, fun j => by rw [World.frozen?_setCell]; exact h.fr j, ⟨?_, ?_, ?_, ?_, ?_, ?_, ?_, ?_, ?_⟩, ?_, h.b.setCell (p := ⟨w.heap.size + 1, 0, none⟩) (Nat.le_succ _) _, h.ne1, h.ne2⟩
  · rw [ho _ (by simp)]; exact h.e.c1
  · rw [ho _ (by simp)]; exact h.e.c2
  · rw [ho _ (by simp)]; exact h.e.c3
  · rw [ho _ (by simp)]; exact h.e.c4
  · rw [ho _ (by simp)]; exact h.r.c0
  · rw [ho _ (by simp)]; exact h.r.c1
  · rw [ho _ (by simp)]; exact h.r.c2
  · rw [ho _ (by simp)]; exact h.r.c3
  · rw [ho _ (by simp)]; exact h.r.c4
  · rw [ho _ (hn 0)]; exact h.n.c0
  · rw [ho _ (hn 1)]; exact h.n.c1
  · rw [ho _ (hn 2)]; exact h.n.c2
  · rw [ho _ (hn 3)]; exact h.n.c3
  · rw [ho _ (hn 4)]; exact h.n.c4
  · rw [World.frozen?_setCell]; exact h.n.f1
  · rw [World.frozen?_setCell]; exact h.n.f2
  · rw [World.frozen?_setCell]; exact h.n.f3
  · rw [World.frozen?_setCell]; exact h.n.f4
  · rw [ho _ (fun e => h.ne2 (by simpa using congrArg Addr.block e))]; exact h.w0

/-- The event that a line would have to be. -/
structure Guessed (l : List UInt8) (g : Ev) : Prop where
  ok : g.Ok
  kind : g.k = 0 ∨ isKind g.k = true
  hit : ∀ e, parseLineL l = some e → g = e

def gOf (kd x1 x2 x3 x4 : Int) : Ev := ⟨kd, x1 % 256, x2 % 256, if kd = 3 ∨ kd = 4 then wrap32 x3 else 0, if kd = 2 then wrap32 x3 else if kd = 4 then wrap32 x4 else 0⟩

theorem wrap32_range (x : Int) : -2147483648 ≤ wrap32 x ∧ wrap32 x ≤ 2147483647 := by
  unfold wrap32
  omega
theorem wrap32_id (x : Int) (h0 : -2147483648 ≤ x) (h1 : x ≤ 2147483647) : wrap32 x = x := by
  unfold wrap32
  omega

theorem guessed_of {l : List UInt8} {W : List (List UInt8)} {w0 : List UInt8} {kd x1 x2 x3 x4 : Int} (hl : 0 < W.length) (hW : wordsL [] l = W) (h0 : W[0] = w0) (hk : kindW w0 = kd)
    (hx : x1 = vAt W 1 5 ∧ x2 = vAt W 2 5 ∧ x3 = vAt W 3 5 ∧ x4 = vAt W 4 5) : Guessed l (gOf kd x1 x2 x3 x4) := by
  have hkr := kindW_range w0
  rw [hk] at hkr
  refine ⟨⟨hkr.1, by simp only [gOf]; omega, ?_, ?_, ?_, ?_, ?_, ?_, ?_, ?_⟩, ?_, ?_⟩
  · simp only [gOf]; omega
  · simp only [gOf]; omega
  · simp only [gOf]; omega
  · simp only [gOf]; omega
  · simp only [gOf]; split <;> first | exact (wrap32_range _).1 | omega
  · simp only [gOf]; split <;> first | exact (wrap32_range _).2 | omega
  · simp only [gOf]; split <;> first | exact (wrap32_range _).1 | (split <;> first | exact (wrap32_range _).1 | omega)
  · simp only [gOf]; split <;> first | exact (wrap32_range _).2 | (split <;> first | exact (wrap32_range _).2 | omega)
  · by_cases hz : kd = 0
    · exact Or.inl hz
    · refine Or.inr ?_
      have h1 : decide (1 ≤ kd) = true := decide_eq_true (by omega)
      have h2 : decide (kd ≤ 6) = true := decide_eq_true (by omega)
      show isKind kd = true
      unfold isKind
      rw [h1, h2]
      rfl
  · intro e he
    obtain ⟨p1, p2, p3, p4⟩ := parseLineL_some he
    obtain ⟨c, c1, c2, c3⟩ := words_line e p4
    rw [← p1, hW] at c3
    subst c3
    simp only [List.getElem_cons_zero] at h0
    subst h0
    have hke : kd = e.k := by rw [← hk, ← c2]; rfl
    subst hke
    obtain ⟨hx1, hx2, hx3, hx4⟩ := hx
    have ht : x1 = e.t := by rw [hx1]; simp [vAt, vW_itoa e.t (by have := p2.t0; omega) (by have := p2.t1; omega)]
    have va := vW_itoa e.a (by have := p2.a0; omega) (by have := p2.a1; omega)
    have vv := vW_itoa e.v p2.v0 p2.v1
    have vs := vW_itoa e.s p2.s0 p2.s1
    have wv := wrap32_id e.v p2.v0 p2.v1
    have ws := wrap32_id e.s p2.s0 p2.s1
    have ba := congrArg Ev.a p3
    have bv := congrArg Ev.v p3
    have bs := congrArg Ev.s p3
    simp only [bare] at ba bv bs
    have t0 := p2.t0; have t1 := p2.t1; have a0 := p2.a0; have a1 := p2.a1
    obtain ⟨k, t, a, v, s⟩ := e
    simp only at *
    have hkk : k = 1 ∨ k = 2 ∨ k = 3 ∨ k = 4 ∨ k = 5 ∨ k = 6 := by
      unfold isKind at p4
      simp at p4
      omega
    rcases hkk with rfl | rfl | rfl | rfl | rfl | rfl
    all_goals simp [nArg, nVal, nSeen, onObj, optW, vAt] at hx2 hx3 hx4 ba bv bs
    all_goals simp only [gOf, Ev.mk.injEq]
    all_goals refine ⟨trivial, by rw [ht]; omega, ?_, ?_, ?_⟩
    all_goals first | (rw [hx2, va]; omega) | (rw [hx2]; omega) | (rw [if_pos (by decide), hx3, vv, wv]) | (rw [if_pos (by decide), hx3, vs, ws]) | (rw [if_neg (by decide), if_pos (by decide), hx4, vs, ws]) | (rw [if_neg (by decide)]; omega) | (rw [if_neg (by decide), if_neg (by decide)]; omega)

def GuessPost (w : World) (l : List UInt8) (r : Ending) (w' : World) : Prop :=
  ∃ g, r = .returned (evV g) ∧ Below w.heap.size w w' ∧ Hid (Guessed l g)

set_option maxRecDepth 100000 in
set_option maxHeartbeats 2000000 in
theorem guess_any (s : ByteArray) (w : World) (hs : s.size ≤ 1048576) :
    Calls Tryz.prog 48 #[.string s] w (GuessPost w s.data.toList) := by
  go_enter Tryz.func48, Tryz.ntmps48
  go_wp2_with fail
  refine (words_any s _ hs).mono ?_
  rintro r w1 ⟨wv, rfl, hown, hb1⟩
  have hb1' : Below w.heap.size w w1 := (((Below.refl w.heap.size w).alloc (Nat.le_refl _) _).alloc (by simp) _).trans (hb1.mono (by simp; omega))
  have hcw := bcells hb1
  have hfw := bfroz hb1
  have hwl := wordsL_ne s.data.toList []
  obtain ⟨W, hW⟩ : ∃ W, wordsL [] s.data.toList = W := ⟨_, rfl⟩
  have HW := hidIt hW
  rw [hW] at hown hwl
  clear hW
  obtain ⟨wg, wc, hwv, hwgl, hwcell⟩ := hown.cell 0 hwl
  have hsz1 : w.heap.size + 1 < w1.heap.size := by have := hb1.size; simp at this; omega
  subst hwv
  have hwg2 : w.heap.size + 1 < wg := by
    have := (World.ownsRow.lt hown wg rfl).1
    simp at this
    omega
  have hs2 : ∀ b, b ≤ w.heap.size + 1 → b < ((w.alloc (.cells #[.int .u8 0, .int .u8 0, .int .u8 0, .int .i32 0, .int .i32 0] 45)).alloc (.cells #[.int .u8 0, .int .u8 0, .int .u8 0, .int .i32 0, .int .i32 0] 45)).heap.size := fun b hb => by simp; omega
  have E1 : EvAt w1 (w.heap.size + 1) 0 ⟨0, 0, 0, 0, 0⟩ := by
    refine ⟨?_, ?_, ?_, ?_, ?_⟩
    all_goals rw [hcw _ _ (hs2 _ (Nat.le_refl _))]
    all_goals simp [go_sem]
  have R1 : EvAt w1 w.heap.size 0 ⟨0, 0, 0, 0, 0⟩ := by
    refine ⟨?_, ?_, ?_, ?_, ?_⟩
    all_goals rw [hcw _ _ (hs2 _ (Nat.le_succ _))]
    all_goals simp [go_sem]
  have FE : ∀ j, w1.frozen? ⟨w.heap.size + 1, j, none⟩ = false := fun j => by rw [hfw _ _ (hs2 _ (Nat.le_refl _))]; simp [go_sem]
  have FR : ∀ j, w1.frozen? ⟨w.heap.size, j, none⟩ = false := fun j => by rw [hfw _ _ (hs2 _ (Nat.le_succ _))]; simp [go_sem]
  have HALL := hidIt (And.intro E1 (And.intro R1 (And.intro FE FR)))
  have HWC := hidIt hwcell
  clear hwcell hown hcw hfw hs2 E1 R1 FE FR hb1
  go_wp2_with fail
  go_loopw [6] (fun i wr => ∃ k : Nat, 1 ≤ k ∧ k ≤ 5 ∧ i = .int .i64 k ∧ GLoop w1 w1.heap.size W k wr) (fun i _ => 5 - (intOf i).toNat)
  case atStart =>
    refine ⟨1, by omega, by omega, rfl, 0, 0, 0, 0, ⟨by simp [go_sem], by simp [go_sem], by simp [go_sem], by simp [go_sem], by simp [go_sem], by simp [go_sem], by simp [go_sem], by simp [go_sem], by simp [go_sem]⟩, (Below.refl _ _).alloc (Nat.le_refl _) _, ?_, ?_, ?_, ?_⟩
    all_goals simp [vAt]
  case round =>
    obtain ⟨k, hk1, hk5, rfl, x1, x2, x3, x4, hgc, hnx, HX⟩ := hrel
    by_cases hgo : k < W.length ∧ k < 5
    · obtain ⟨h1, h2⟩ := hgo
      have h1' : (k : Int) < (W.length : Int) := by omega
      have h2' : (k : Int) < 5 := by omega
      have hwk : wr.cell? ⟨wg, k, none⟩ = some (.string ⟨W[k].toArray⟩) := by rw [bcells hnx wg k hwgl]; exact HWC.out k h1
      have hlen : W[k].length ≤ 1048576 := by
        have := words_len s.data.toList [] W[k] (by rw [HW.out]; exact List.getElem_mem _)
        have hsz : s.data.toList.length = s.size := by simp
        simp at this
        omega
      have HN := hidIt (vAt_new W k h1)
      have HO := hidIt (fun j hj => vAt_old W j k hj)
      obtain ⟨ww, hww⟩ : ∃ ww, W[k] = ww := ⟨_, rfl⟩
      rw [hww] at hwk hlen HN
      clear hww
      have hkk : k = 1 ∨ k = 2 ∨ k = 3 ∨ k = 4 := by omega
      have HG := hidIt hgc
      obtain ⟨a0, a1, a2, a3, a4, f1, f2, f3, f4⟩ := hgc
      rcases hkk with rfl | rfl | rfl | rfl
      · go_wp2_with (go_at_call 75; refine (value_any _ _ (by show ww.toArray.size ≤ _; simp; omega)).mono ?_; rintro r w' ⟨rfl, rfl⟩)
        go_roundw
        case rel => exact ⟨2, by omega, by omega, by first | rfl | go_num, _, x2, x3, x4, HG.out.set1 _, hnx.setCell (p := ⟨w1.heap.size, 1, none⟩) (Nat.le_refl _) _, (show vW _ = vAt W 1 2 from HN.out.symm), (HX.out.2.1).trans (HO.out 2 (by decide)).symm, (HX.out.2.2.1).trans (HO.out 3 (by decide)).symm, (HX.out.2.2.2).trans (HO.out 4 (by decide)).symm⟩
        case measure => simp [intOf]
      · go_wp2_with (go_at_call 75; refine (value_any _ _ (by show ww.toArray.size ≤ _; simp; omega)).mono ?_; rintro r w' ⟨rfl, rfl⟩)
        go_roundw
        case rel => exact ⟨3, by omega, by omega, by first | rfl | go_num, x1, _, x3, x4, HG.out.set2 _, hnx.setCell (p := ⟨w1.heap.size, 2, none⟩) (Nat.le_refl _) _, (HX.out.1).trans (HO.out 1 (by decide)).symm, (show vW _ = vAt W 2 3 from HN.out.symm), (HX.out.2.2.1).trans (HO.out 3 (by decide)).symm, (HX.out.2.2.2).trans (HO.out 4 (by decide)).symm⟩
        case measure => simp [intOf]
      · go_wp2_with (go_at_call 75; refine (value_any _ _ (by show ww.toArray.size ≤ _; simp; omega)).mono ?_; rintro r w' ⟨rfl, rfl⟩)
        go_roundw
        case rel => exact ⟨4, by omega, by omega, by first | rfl | go_num, x1, x2, _, x4, HG.out.set3 _, hnx.setCell (p := ⟨w1.heap.size, 3, none⟩) (Nat.le_refl _) _, (HX.out.1).trans (HO.out 1 (by decide)).symm, (HX.out.2.1).trans (HO.out 2 (by decide)).symm, (show vW _ = vAt W 3 4 from HN.out.symm), (HX.out.2.2.2).trans (HO.out 4 (by decide)).symm⟩
        case measure => simp [intOf]
      · go_wp2_with (go_at_call 75; refine (value_any _ _ (by show ww.toArray.size ≤ _; simp; omega)).mono ?_; rintro r w' ⟨rfl, rfl⟩)
        go_roundw
        case rel => exact ⟨5, by omega, by omega, by first | rfl | go_num, x1, x2, x3, _, HG.out.set4 _, hnx.setCell (p := ⟨w1.heap.size, 4, none⟩) (Nat.le_refl _) _, (HX.out.1).trans (HO.out 1 (by decide)).symm, (HX.out.2.1).trans (HO.out 2 (by decide)).symm, (HX.out.2.2.1).trans (HO.out 3 (by decide)).symm, (show vW _ = vAt W 4 5 from HN.out.symm)⟩
        case measure => simp [intOf]
    · have hgf : GF w wr w1.heap.size wg W[0] x1 x2 x3 x4 0 :=
        ⟨HALL.out.1.below hsz1 hnx, HALL.out.2.1.below (by omega) hnx, fun j => by rw [bfroz hnx _ _ hsz1]; exact HALL.out.2.2.1 j, fun j => by rw [bfroz hnx _ _ (by omega)]; exact HALL.out.2.2.2 j, hgc, by rw [bcells hnx _ _ hwgl]; exact HWC.out 0 hwl, hb1'.trans (hnx.mono hb1'.size), by omega, by omega⟩
      have hXe : Hid (x1 = vAt W 1 5 ∧ x2 = vAt W 2 5 ∧ x3 = vAt W 3 5 ∧ x4 = vAt W 4 5) := by
        have hv : ∀ j, vAt W j k = vAt W j 5 ∨ 5 ≤ j := by
          intro j
          by_cases hj : 5 ≤ j
          · exact Or.inr hj
          · refine Or.inl ?_
            unfold vAt
            by_cases h1 : j < k ∧ j < W.length
            · rw [if_pos h1, if_pos ⟨by omega, h1.2⟩]
            · rw [if_neg h1, if_neg (by omega)]
        refine ⟨HX.out.1.trans ((hv 1).resolve_right (by decide)), HX.out.2.1.trans ((hv 2).resolve_right (by decide)), HX.out.2.2.1.trans ((hv 3).resolve_right (by decide)), HX.out.2.2.2.trans ((hv 4).resolve_right (by decide))⟩
      have hgo2 : ¬ (k : Int) < (W.length : Int) ∨ ((k : Int) < (W.length : Int) ∧ ¬ (k : Int) < 5) := by omega
      obtain ⟨w0, hw0⟩ : ∃ w0, W[0] = w0 := ⟨_, rfl⟩
      rw [hw0] at hgf
      have HW0 := hidIt hw0
      have HGF := hidIt hgf
      clear hw0 hgf HX hgc hgo
      have q1 : ({ data := #[32, 66, 82, 87, 65, 67, 88] } : ByteArray).extract 1 2 = ⟨#[66]⟩ := by decide
      have q2 : ({ data := #[32, 66, 82, 87, 65, 67, 88] } : ByteArray).extract 2 3 = ⟨#[82]⟩ := by decide
      have q3 : ({ data := #[32, 66, 82, 87, 65, 67, 88] } : ByteArray).extract 3 4 = ⟨#[87]⟩ := by decide
      have q4 : ({ data := #[32, 66, 82, 87, 65, 67, 88] } : ByteArray).extract 4 5 = ⟨#[65]⟩ := by decide
      have q5 : ({ data := #[32, 66, 82, 87, 65, 67, 88] } : ByteArray).extract 5 6 = ⟨#[67]⟩ := by decide
      have q6 : ({ data := #[32, 66, 82, 87, 65, 67, 88] } : ByteArray).extract 6 7 = ⟨#[88]⟩ := by decide
      have hwl' : (0 : Int) < (W.length : Int) := by omega
      rcases hgo2 with hg | ⟨hg1, hg2⟩
      · go_wp2_with fail
        go_loopw [8] (fun i wq => ∃ j : Nat, 1 ≤ j ∧ j ≤ 7 ∧ i = .int .i64 j ∧ GF w wq w1.heap.size wg w0 x1 x2 x3 x4 (if kindW w0 < j then kindW w0 else 0)) (fun i _ => 7 - (intOf i).toNat)
        case atStart => exact ⟨1, by omega, by omega, rfl, by rw [kw_start]; exact HGF.out⟩
        case round =>
          obtain ⟨j, hj1, hj7, rfl, hgf⟩ := hrel
          by_cases hlt : j < 7
          · have hkk : j = 1 ∨ j = 2 ∨ j = 3 ∨ j = 4 ∨ j = 5 ∨ j = 6 := by omega
            have HG := hidIt hgf
            obtain ⟨⟨a0, a1, a2, a3, a4⟩, _, fe, _, _, aw, _, _, _⟩ := hgf
            have fe0 := fe 0
            clear fe
            rcases hkk with rfl | rfl | rfl | rfl | rfl | rfl
            · go_wp2_with fail
              go_quiet (fail)
              go_wp2_with fail
              · have hh : (w0 == [66]) = true := by assumption
                have e1 := kw_hit w0 66 1 rfl hh
                go_roundw
                case rel => exact ⟨2, by omega, by omega, rfl, by rw [e1]; exact (HG.out.drewN _).setK 1⟩
                case measure => simp [intOf]
              · have hh : (w0 == [66]) = false := by assumption
                have e1 := kw_miss w0 66 1 (by decide) rfl hh
                go_roundw
                case rel => exact ⟨2, by omega, by omega, rfl, by rw [e1]; exact HG.out.drewN _⟩
                case measure => simp [intOf]
            · go_wp2_with fail
              go_quiet (fail)
              go_wp2_with fail
              · have hh : (w0 == [82]) = true := by assumption
                have e1 := kw_hit w0 82 2 rfl hh
                go_roundw
                case rel => exact ⟨3, by omega, by omega, rfl, by rw [e1]; exact (HG.out.drewN _).setK 2⟩
                case measure => simp [intOf]
              · have hh : (w0 == [82]) = false := by assumption
                have e1 := kw_miss w0 82 2 (by decide) rfl hh
                go_roundw
                case rel => exact ⟨3, by omega, by omega, rfl, by rw [e1]; exact HG.out.drewN _⟩
                case measure => simp [intOf]
            · go_wp2_with fail
              go_quiet (fail)
              go_wp2_with fail
              · have hh : (w0 == [87]) = true := by assumption
                have e1 := kw_hit w0 87 3 rfl hh
                go_roundw
                case rel => exact ⟨4, by omega, by omega, rfl, by rw [e1]; exact (HG.out.drewN _).setK 3⟩
                case measure => simp [intOf]
              · have hh : (w0 == [87]) = false := by assumption
                have e1 := kw_miss w0 87 3 (by decide) rfl hh
                go_roundw
                case rel => exact ⟨4, by omega, by omega, rfl, by rw [e1]; exact HG.out.drewN _⟩
                case measure => simp [intOf]
            · go_wp2_with fail
              go_quiet (fail)
              go_wp2_with fail
              · have hh : (w0 == [65]) = true := by assumption
                have e1 := kw_hit w0 65 4 rfl hh
                go_roundw
                case rel => exact ⟨5, by omega, by omega, rfl, by rw [e1]; exact (HG.out.drewN _).setK 4⟩
                case measure => simp [intOf]
              · have hh : (w0 == [65]) = false := by assumption
                have e1 := kw_miss w0 65 4 (by decide) rfl hh
                go_roundw
                case rel => exact ⟨5, by omega, by omega, rfl, by rw [e1]; exact HG.out.drewN _⟩
                case measure => simp [intOf]
            · go_wp2_with fail
              go_quiet (fail)
              go_wp2_with fail
              · have hh : (w0 == [67]) = true := by assumption
                have e1 := kw_hit w0 67 5 rfl hh
                go_roundw
                case rel => exact ⟨6, by omega, by omega, rfl, by rw [e1]; exact (HG.out.drewN _).setK 5⟩
                case measure => simp [intOf]
              · have hh : (w0 == [67]) = false := by assumption
                have e1 := kw_miss w0 67 5 (by decide) rfl hh
                go_roundw
                case rel => exact ⟨6, by omega, by omega, rfl, by rw [e1]; exact HG.out.drewN _⟩
                case measure => simp [intOf]
            · go_wp2_with fail
              go_quiet (fail)
              go_wp2_with fail
              · have hh : (w0 == [88]) = true := by assumption
                have e1 := kw_hit w0 88 6 rfl hh
                go_roundw
                case rel => exact ⟨7, by omega, by omega, rfl, by rw [e1]; exact (HG.out.drewN _).setK 6⟩
                case measure => simp [intOf]
              · have hh : (w0 == [88]) = false := by assumption
                have e1 := kw_miss w0 88 6 (by decide) rfl hh
                go_roundw
                case rel => exact ⟨7, by omega, by omega, rfl, by rw [e1]; exact HG.out.drewN _⟩
                case measure => simp [intOf]
          · have hj : j = 7 := by omega
            subst hj
            have hkr := kindW_range w0
            have e7 : (if kindW w0 < ((7 : Nat) : Int) then kindW w0 else 0) = kindW w0 := by rw [if_pos (by omega)]
            rw [e7] at hgf
            obtain ⟨kd, hkd⟩ : ∃ kd, kindW w0 = kd := ⟨_, rfl⟩
            rw [hkd] at hgf hkr
            have HKD := hidIt hkd
            clear e7 hkd
            have HG := hidIt hgf
            obtain ⟨⟨a0, a1, a2, a3, a4⟩, ⟨r0, r1, r2, r3, r4⟩, fe, fr, ⟨n0, n1, n2, n3, n4, _, _, _, _⟩, aw, hbl, _, _⟩ := hgf
            simp only [Nat.zero_add] at a1 a2 a3 a4 r1 r2 r3 r4
            go_wp2_with fail
            · have hkk : (kd == 2) = true := by assumption
              have hkk' : kd = 2 := by simpa using hkk
              have hg : gOf kd x1 x2 x3 x4 = ⟨kd, x1 % 256, x2 % 256, 0, wrap32 x3⟩ := by subst hkk'; simp [gOf]
              have HGS := guessed_of hwl HW.out HW0.out HKD.out hXe.out
              rw [hg] at HGS
              refine bodyPost_ret (v := evV ⟨kd, x1 % 256, x2 % 256, 0, wrap32 x3⟩) (by simp [results, Tryz.results48, go_sem, r0, r1, r2, r3, r4]) rfl ⟨_, rfl, ?_, HGS⟩
              repeat (first | with_reducible exact hbl | refine Below.setCell ?_ (by simp) _)
            · have hkk : (kd == 3) = true := by assumption
              have hkk' : kd = 3 := by simpa using hkk
              have hg : gOf kd x1 x2 x3 x4 = ⟨kd, x1 % 256, x2 % 256, wrap32 x3, 0⟩ := by subst hkk'; simp [gOf]
              have HGS := guessed_of hwl HW.out HW0.out HKD.out hXe.out
              rw [hg] at HGS
              refine bodyPost_ret (v := evV ⟨kd, x1 % 256, x2 % 256, wrap32 x3, 0⟩) (by simp [results, Tryz.results48, go_sem, r0, r1, r2, r3, r4]) rfl ⟨_, rfl, ?_, HGS⟩
              repeat (first | with_reducible exact hbl | refine Below.setCell ?_ (by simp) _)
            · have hkk : (kd == 4) = true := by assumption
              have hkk' : kd = 4 := by simpa using hkk
              have hg : gOf kd x1 x2 x3 x4 = ⟨kd, x1 % 256, x2 % 256, wrap32 x3, wrap32 x4⟩ := by subst hkk'; simp [gOf]
              have HGS := guessed_of hwl HW.out HW0.out HKD.out hXe.out
              rw [hg] at HGS
              refine bodyPost_ret (v := evV ⟨kd, x1 % 256, x2 % 256, wrap32 x3, wrap32 x4⟩) (by simp [results, Tryz.results48, go_sem, r0, r1, r2, r3, r4]) rfl ⟨_, rfl, ?_, HGS⟩
              repeat (first | with_reducible exact hbl | refine Below.setCell ?_ (by simp) _)
            · have h2 : (kd == 2) = false := by assumption
              have h3 : (kd == 3) = false := by assumption
              have h4 : (kd == 4) = false := by assumption
              have hg : gOf kd x1 x2 x3 x4 = ⟨kd, x1 % 256, x2 % 256, 0, 0⟩ := by simp at h2 h3 h4; simp [gOf, h2, h3, h4]
              have HGS := guessed_of hwl HW.out HW0.out HKD.out hXe.out
              rw [hg] at HGS
              refine bodyPost_ret (v := evV ⟨kd, x1 % 256, x2 % 256, 0, 0⟩) (by simp [results, Tryz.results48, go_sem, r0, r1, r2, r3, r4]) rfl ⟨_, rfl, ?_, HGS⟩
              repeat (first | with_reducible exact hbl | refine Below.setCell ?_ (by simp) _)
      · go_wp2_with fail
        go_loopw [8] (fun i wq => ∃ j : Nat, 1 ≤ j ∧ j ≤ 7 ∧ i = .int .i64 j ∧ GF w wq w1.heap.size wg w0 x1 x2 x3 x4 (if kindW w0 < j then kindW w0 else 0)) (fun i _ => 7 - (intOf i).toNat)
        case atStart => exact ⟨1, by omega, by omega, rfl, by rw [kw_start]; exact HGF.out⟩
        case round =>
          obtain ⟨j, hj1, hj7, rfl, hgf⟩ := hrel
          by_cases hlt : j < 7
          · have hkk : j = 1 ∨ j = 2 ∨ j = 3 ∨ j = 4 ∨ j = 5 ∨ j = 6 := by omega
            have HG := hidIt hgf
            obtain ⟨⟨a0, a1, a2, a3, a4⟩, _, fe, _, _, aw, _, _, _⟩ := hgf
            have fe0 := fe 0
            clear fe
            rcases hkk with rfl | rfl | rfl | rfl | rfl | rfl
            · go_wp2_with fail
              go_quiet (fail)
              go_wp2_with fail
              · have hh : (w0 == [66]) = true := by assumption
                have e1 := kw_hit w0 66 1 rfl hh
                go_roundw
                case rel => exact ⟨2, by omega, by omega, rfl, by rw [e1]; exact (HG.out.drewN _).setK 1⟩
                case measure => simp [intOf]
              · have hh : (w0 == [66]) = false := by assumption
                have e1 := kw_miss w0 66 1 (by decide) rfl hh
                go_roundw
                case rel => exact ⟨2, by omega, by omega, rfl, by rw [e1]; exact HG.out.drewN _⟩
                case measure => simp [intOf]
            · go_wp2_with fail
              go_quiet (fail)
              go_wp2_with fail
              · have hh : (w0 == [82]) = true := by assumption
                have e1 := kw_hit w0 82 2 rfl hh
                go_roundw
                case rel => exact ⟨3, by omega, by omega, rfl, by rw [e1]; exact (HG.out.drewN _).setK 2⟩
                case measure => simp [intOf]
              · have hh : (w0 == [82]) = false := by assumption
                have e1 := kw_miss w0 82 2 (by decide) rfl hh
                go_roundw
                case rel => exact ⟨3, by omega, by omega, rfl, by rw [e1]; exact HG.out.drewN _⟩
                case measure => simp [intOf]
            · go_wp2_with fail
              go_quiet (fail)
              go_wp2_with fail
              · have hh : (w0 == [87]) = true := by assumption
                have e1 := kw_hit w0 87 3 rfl hh
                go_roundw
                case rel => exact ⟨4, by omega, by omega, rfl, by rw [e1]; exact (HG.out.drewN _).setK 3⟩
                case measure => simp [intOf]
              · have hh : (w0 == [87]) = false := by assumption
                have e1 := kw_miss w0 87 3 (by decide) rfl hh
                go_roundw
                case rel => exact ⟨4, by omega, by omega, rfl, by rw [e1]; exact HG.out.drewN _⟩
                case measure => simp [intOf]
            · go_wp2_with fail
              go_quiet (fail)
              go_wp2_with fail
              · have hh : (w0 == [65]) = true := by assumption
                have e1 := kw_hit w0 65 4 rfl hh
                go_roundw
                case rel => exact ⟨5, by omega, by omega, rfl, by rw [e1]; exact (HG.out.drewN _).setK 4⟩
                case measure => simp [intOf]
              · have hh : (w0 == [65]) = false := by assumption
                have e1 := kw_miss w0 65 4 (by decide) rfl hh
                go_roundw
                case rel => exact ⟨5, by omega, by omega, rfl, by rw [e1]; exact HG.out.drewN _⟩
                case measure => simp [intOf]
            · go_wp2_with fail
              go_quiet (fail)
              go_wp2_with fail
              · have hh : (w0 == [67]) = true := by assumption
                have e1 := kw_hit w0 67 5 rfl hh
                go_roundw
                case rel => exact ⟨6, by omega, by omega, rfl, by rw [e1]; exact (HG.out.drewN _).setK 5⟩
                case measure => simp [intOf]
              · have hh : (w0 == [67]) = false := by assumption
                have e1 := kw_miss w0 67 5 (by decide) rfl hh
                go_roundw
                case rel => exact ⟨6, by omega, by omega, rfl, by rw [e1]; exact HG.out.drewN _⟩
                case measure => simp [intOf]
            · go_wp2_with fail
              go_quiet (fail)
              go_wp2_with fail
              · have hh : (w0 == [88]) = true := by assumption
                have e1 := kw_hit w0 88 6 rfl hh
                go_roundw
                case rel => exact ⟨7, by omega, by omega, rfl, by rw [e1]; exact (HG.out.drewN _).setK 6⟩
                case measure => simp [intOf]
              · have hh : (w0 == [88]) = false := by assumption
                have e1 := kw_miss w0 88 6 (by decide) rfl hh
                go_roundw
                case rel => exact ⟨7, by omega, by omega, rfl, by rw [e1]; exact HG.out.drewN _⟩
                case measure => simp [intOf]
          · have hj : j = 7 := by omega
            subst hj
            have hkr := kindW_range w0
            have e7 : (if kindW w0 < ((7 : Nat) : Int) then kindW w0 else 0) = kindW w0 := by rw [if_pos (by omega)]
            rw [e7] at hgf
            obtain ⟨kd, hkd⟩ : ∃ kd, kindW w0 = kd := ⟨_, rfl⟩
            rw [hkd] at hgf hkr
            have HKD := hidIt hkd
            clear e7 hkd
            have HG := hidIt hgf
            obtain ⟨⟨a0, a1, a2, a3, a4⟩, ⟨r0, r1, r2, r3, r4⟩, fe, fr, ⟨n0, n1, n2, n3, n4, _, _, _, _⟩, aw, hbl, _, _⟩ := hgf
            simp only [Nat.zero_add] at a1 a2 a3 a4 r1 r2 r3 r4
            go_wp2_with fail
            · have hkk : (kd == 2) = true := by assumption
              have hkk' : kd = 2 := by simpa using hkk
              have hg : gOf kd x1 x2 x3 x4 = ⟨kd, x1 % 256, x2 % 256, 0, wrap32 x3⟩ := by subst hkk'; simp [gOf]
              have HGS := guessed_of hwl HW.out HW0.out HKD.out hXe.out
              rw [hg] at HGS
              refine bodyPost_ret (v := evV ⟨kd, x1 % 256, x2 % 256, 0, wrap32 x3⟩) (by simp [results, Tryz.results48, go_sem, r0, r1, r2, r3, r4]) rfl ⟨_, rfl, ?_, HGS⟩
              repeat (first | with_reducible exact hbl | refine Below.setCell ?_ (by simp) _)
            · have hkk : (kd == 3) = true := by assumption
              have hkk' : kd = 3 := by simpa using hkk
              have hg : gOf kd x1 x2 x3 x4 = ⟨kd, x1 % 256, x2 % 256, wrap32 x3, 0⟩ := by subst hkk'; simp [gOf]
              have HGS := guessed_of hwl HW.out HW0.out HKD.out hXe.out
              rw [hg] at HGS
              refine bodyPost_ret (v := evV ⟨kd, x1 % 256, x2 % 256, wrap32 x3, 0⟩) (by simp [results, Tryz.results48, go_sem, r0, r1, r2, r3, r4]) rfl ⟨_, rfl, ?_, HGS⟩
              repeat (first | with_reducible exact hbl | refine Below.setCell ?_ (by simp) _)
            · have hkk : (kd == 4) = true := by assumption
              have hkk' : kd = 4 := by simpa using hkk
              have hg : gOf kd x1 x2 x3 x4 = ⟨kd, x1 % 256, x2 % 256, wrap32 x3, wrap32 x4⟩ := by subst hkk'; simp [gOf]
              have HGS := guessed_of hwl HW.out HW0.out HKD.out hXe.out
              rw [hg] at HGS
              refine bodyPost_ret (v := evV ⟨kd, x1 % 256, x2 % 256, wrap32 x3, wrap32 x4⟩) (by simp [results, Tryz.results48, go_sem, r0, r1, r2, r3, r4]) rfl ⟨_, rfl, ?_, HGS⟩
              repeat (first | with_reducible exact hbl | refine Below.setCell ?_ (by simp) _)
            · have h2 : (kd == 2) = false := by assumption
              have h3 : (kd == 3) = false := by assumption
              have h4 : (kd == 4) = false := by assumption
              have hg : gOf kd x1 x2 x3 x4 = ⟨kd, x1 % 256, x2 % 256, 0, 0⟩ := by simp at h2 h3 h4; simp [gOf, h2, h3, h4]
              have HGS := guessed_of hwl HW.out HW0.out HKD.out hXe.out
              rw [hg] at HGS
              refine bodyPost_ret (v := evV ⟨kd, x1 % 256, x2 % 256, 0, 0⟩) (by simp [results, Tryz.results48, go_sem, r0, r1, r2, r3, r4]) rfl ⟨_, rfl, ?_, HGS⟩
              repeat (first | with_reducible exact hbl | refine Below.setCell ?_ (by simp) _)

end Go.Proofs.YtfdalbmopaemgabGreatDoor
