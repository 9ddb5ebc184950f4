import Derived.Test.YtfdalbmopaemgaaGreatDoorZK3
namespace Go.Proofs.YtfdalbmopaemgaaGreatDoor
open Go.RowKit

/-- Only the block b has changed, and of it only the first 33 cells. -/
structure Only1 (w w' : World) (b : Nat) : Prop where
  below : Below b w w'
  size : w'.heap.size = w.heap.size
  rest : ∀ k, k ≠ b → w'.heap[k]? = w.heap[k]?
  cells : ∀ o, 33 ≤ o → w'.cell? ⟨b, o, none⟩ = w.cell? ⟨b, o, none⟩

theorem Only1.refl (w : World) (b : Nat) : Only1 w w b := ⟨Below.refl _ _, rfl, fun _ _ => rfl, fun _ _ => rfl⟩
theorem Only1.set {a w : World} {b : Nat} (h : Only1 a w b) (o : Nat) (ho : o < 33) (v : Value) : Only1 a (w.setCell ⟨b, o, none⟩ v) b :=
  ⟨h.below.setCell (p := ⟨b, o, none⟩) (Nat.le_refl _) _, by simpa using h.size, fun k hk => by rw [Below.heap_setCell _ ⟨b, o, none⟩ _ _ hk]; exact h.rest k hk,
   fun o' ho' => by rw [World.cell?_setCell_other _ _ _ _ (by intro e; injection e with _ e2 _; omega)]; exact h.cells o' ho'⟩

theorem Only1.drew {a w : World} {b : Nat} (h : Only1 a w b) : Only1 a w.drew b := ⟨below_drewN h.below 1, h.size, h.rest, h.cells⟩
theorem Only1.drewN {a w : World} {b : Nat} (h : Only1 a w b) (n : Nat) : Only1 a (w.drewN n) b := ⟨below_drewN h.below n, h.size, h.rest, h.cells⟩

def BoolPost (w : World) (b : Nat) (T : Tr) (r : Ending) (w' : World) : Prop := r = .returned (.bool true) ∧ TrAt w' b T ∧ Only1 w w' b

set_option maxRecDepth 100000 in
set_option maxHeartbeats 1000000 in
theorem begin_any (b m : Nat) (T : Tr) (w : World) (h : TrAt w b T) (hm : m ≤ 255) (hn : T.n < 15) (hmay : mayO T.op (m : Int) = true) :
    Calls Tryz.prog 94 #[.pointer (some ⟨b, 0, none⟩), .int .u8 (m : Int)] w (BoolPost w b (beginT T (m : Int))) := by
  have HC := hidIt (may_any b m T w h hm)
  have HM := hidIt hmay
  have g0 := h.n
  have f0 := h.fz
  have g1 := h.par (T.n + 1) (by omega)
  have g2 := h.op (T.n + 1) (by omega)
  have hn' : ¬ (15 : Int) ≤ (T.n : Int) := by omega
  have HF : Hid (TrAt (((w.setCell ⟨b, 0, none⟩ (.int .u8 ((T.n : Int) + 1))).setCell ⟨b, 1 + (T.n + 1), none⟩ (.int .u8 (m : Int))).setCell ⟨b, 17 + (T.n + 1), none⟩ (.bool true)) b (beginT T (m : Int))) := ((h.setN (T.n + 1) ((T.n : Int) + 1) (by omega)).setPar (T.n + 1) (by omega) (m : Int)).setOp (T.n + 1) (by omega) true
  have HO : Hid (Only1 w (((w.setCell ⟨b, 0, none⟩ (.int .u8 ((T.n : Int) + 1))).setCell ⟨b, 1 + (T.n + 1), none⟩ (.int .u8 (m : Int))).setCell ⟨b, 17 + (T.n + 1), none⟩ (.bool true)) b) := (((Only1.refl w b).set 0 (by omega) _).set _ (by omega) _).set _ (by omega) _
  clear h hmay
  go_enter Tryz.func94, Tryz.ntmps94
  go_wp2_with fail
  refine HC.out.mono ?_
  rintro r w1 ⟨rfl, rfl⟩
  rw [HM.out]
  go_wp2_with fail
  go_region
  go_wp2_with fail
  go_region
  go_wp2_with fail
  go_ret
  exact ⟨rfl, HF.out.drew.drew, HO.out.drew.drew⟩

set_option maxRecDepth 100000 in
set_option maxHeartbeats 1000000 in
theorem commit_any (b m : Nat) (T : Tr) (w : World) (h : TrAt w b T) (hm : m ≤ 15) (ho : T.op m = true) (hch : childT T (m : Int) = false) :
    Calls Tryz.prog 105 #[.pointer (some ⟨b, 0, none⟩), .int .u8 (m : Int)] w (BoolPost w b (commitT T m)) := by
  have HC := hidIt (isOpen_any b m T w h (by omega))
  have HD := hidIt (child_any b (m : Int) T w h)
  have HM : Hid (isO T.op m = true) := by show _ = _; unfold isO; rw [decide_eq_true hm, ho]; rfl
  have HH := hidIt hch
  have f0 := h.fz
  have g2 := h.op m hm
  have h15 : (m : Int) < 16 := by omega
  have HF : Hid (TrAt (w.setCell ⟨b, 17 + m, none⟩ (.bool false)) b (commitT T m)) := h.setOp m hm false
  have HO : Hid (Only1 w (w.setCell ⟨b, 17 + m, none⟩ (.bool false)) b) := (Only1.refl w b).set _ (by omega) _
  clear h ho hch
  go_enter Tryz.func105, Tryz.ntmps105
  go_wp2_with fail
  refine HC.out.mono ?_
  rintro r w1 ⟨rfl, rfl⟩
  rw [HM.out]
  go_wp2_with fail
  refine HD.out.mono ?_
  rintro r w1 ⟨rfl, rfl⟩
  rw [HH.out]
  go_wp2_with fail
  go_ret
  exact ⟨rfl, HF.out, HO.out⟩

theorem abG_skip {par : Nat → Int} {i : Nat} {o : Nat → Bool} (h : (abG par i o (i + 1) && !mayO (abG par i o) (par (i + 1))) = false) : abG par (i + 1) o = abG par i o := by rw [abG, if_neg (by rw [h]; decide)]
theorem abG_do {par : Nat → Int} {i : Nat} {o : Nat → Bool} (h : (abG par i o (i + 1) && !mayO (abG par i o) (par (i + 1))) = true) : abG par (i + 1) o = upd (abG par i o) (i + 1) false := by rw [abG, if_pos h]

def AbLoop (w : World) (b m : Nat) (T : Tr) (k : Nat) (wr : World) : Prop := TrAt wr b ⟨T.n, T.par, abG T.par k (upd T.op m false)⟩ ∧ Only1 w wr b

set_option maxRecDepth 100000 in
set_option maxHeartbeats 1000000 in
theorem abort_any (b m : Nat) (T : Tr) (w : World) (h : TrAt w b T) (hm : m ≤ 15) (ho : T.op m = true) (hpar : ∀ i, i ≤ 15 → 0 ≤ T.par i ∧ T.par i ≤ 255) :
    Calls Tryz.prog 106 #[.pointer (some ⟨b, 0, none⟩), .int .u8 (m : Int)] w (BoolPost w b (abortT T m)) := by
  have HC := hidIt (isOpen_any b m T w h (by omega))
  have HM : Hid (isO T.op m = true) := by show _ = _; unfold isO; rw [decide_eq_true hm, ho]; rfl
  have HPR := hidIt hpar
  have f0 := h.fz
  have g2 := h.op m hm
  have h15 : (m : Int) < 16 := by omega
  have HA : Hid (AbLoop w b m T 0 (w.setCell ⟨b, 17 + m, none⟩ (.bool false))) := ⟨h.setOp m hm false, (Only1.refl w b).set _ (by omega) _⟩
  clear h ho hpar
  go_enter Tryz.func106, Tryz.ntmps106
  go_wp2_with fail
  refine HC.out.mono ?_
  rintro r w1 ⟨rfl, rfl⟩
  rw [HM.out]
  go_wp2_with fail
  go_loopw [5] (fun i wr => ∃ k : Nat, k ≤ 15 ∧ i = .int .i64 ((k + 1 : Nat) : Int) ∧ AbLoop w1 b m T k wr) (fun i _ => 16 - (intOf i).toNat)
  case atStart => exact ⟨0, by omega, rfl, HA.out⟩
  case round =>
    clear f0 g2
    obtain ⟨k, hk, rfl, htr, honly⟩ := hrel
    by_cases hlt : k < 15
    · have hlt' : ((k + 1 : Nat) : Int) ≤ 15 := by omega
      have hlt2 : ((k + 1 : Nat) : Int) < 16 := by omega
      have hk0 : (0 : Int) ≤ ((k + 1 : Nat) : Int) := by omega
      have g1 := htr.op (k + 1) (by omega)
      have g2 := htr.par (k + 1) (by omega)
      have f1 := htr.fz
      have hp := HPR.out (k + 1) (by omega)
      obtain ⟨p, hp'⟩ : ∃ p : Nat, T.par (k + 1) = (p : Int) := ⟨(T.par (k + 1)).toNat, by omega⟩
      have HP := hidIt hp'
      have HMY := hidIt (may_any b p _ wr htr (by omega))
      simp only at g1 g2 HMY
      rw [hp'] at g2
      have HTR := hidIt htr
      have HON := hidIt honly
      clear htr honly hp hp'
      cases ho : abG T.par k (upd T.op m false) (k + 1) with
      | false =>
        rw [ho] at g1
        have HN : Hid (AbLoop w1 b m T (k + 1) wr) := by
          refine ⟨?_, HON.out⟩
          rw [abG_skip (by rw [ho]; rfl)]
          exact HTR.out
        clear ho
        go_wp2_with fail
        go_roundw
        case rel => exact ⟨k + 1, by omega, by go_num, HN.out⟩
        case measure => simp [intOf]; omega
      | true =>
        rw [ho] at g1
        cases hmy : mayO (abG T.par k (upd T.op m false)) (p : Int) with
        | true =>
          have HN : Hid (AbLoop w1 b m T (k + 1) wr) := by
            refine ⟨?_, HON.out⟩
            rw [abG_skip (by rw [ho, HP.out, hmy]; rfl)]
            exact HTR.out
          have HY := hidIt hmy
          clear ho hmy
          go_wp2_with fail
          refine HMY.out.mono ?_
          rintro r w2 ⟨rfl, rfl⟩
          rw [HY.out]
          go_wp2_with fail
          go_roundw
          case rel => exact ⟨k + 1, by omega, by go_num, HN.out⟩
          case measure => simp [intOf]; omega
        | false =>
          have HN : Hid (AbLoop w1 b m T (k + 1) (wr.setCell ⟨b, 17 + (k + 1), none⟩ (.bool false))) := by
            refine ⟨?_, HON.out.set _ (by omega) _⟩
            rw [abG_do (by rw [ho, HP.out, hmy]; rfl)]
            exact HTR.out.setOp (k + 1) (by omega) false
          have HY := hidIt hmy
          clear ho hmy
          go_wp2_with fail
          refine HMY.out.mono ?_
          rintro r w2 ⟨rfl, rfl⟩
          rw [HY.out]
          go_wp2_with fail
          go_roundw
          case rel => exact ⟨k + 1, by omega, by go_num, HN.out⟩
          case measure => simp [intOf]; omega
    · have hge : ¬ ((k + 1 : Nat) : Int) ≤ 15 := by omega
      have hke : k = 15 := by omega
      subst hke
      go_wp2_with fail
      go_ret
      exact ⟨rfl, htr, honly⟩

end Go.Proofs.YtfdalbmopaemgaaGreatDoor

namespace Go.Proofs.YtfdalbmopaemgaaGreatDoor
open Go.RowKit

def strayL (e : Ev) : Bool := (e.a != 0 && !nArg e.k) || (e.v != 0 && !nVal e.k) || (e.s != 0 && !nSeen e.k)

theorem three (x : Int) (n : Bool) : (x != 0) = false ∨ ((x != 0) = true ∧ n = true) ∨ ((x != 0) = true ∧ n = false) := by
  cases (x != 0) <;> cases n <;> simp

set_option maxRecDepth 100000 in
set_option maxHeartbeats 4000000 in
theorem stray_any (e : Ev) (w : World) :
    Calls Tryz.prog 116 #[evV e] w fun r w' => r = .returned (.bool (strayL e)) ∧ Below w.heap.size w w' := by
  obtain ⟨k, t, a, v, s⟩ := e
  have hba : ∀ o, Below w.heap.size w (w.alloc o) := fun o => (Below.refl _ _).alloc (Nat.le_refl _) o
  rcases three a (nArg k) with ha | ⟨ha, hA⟩ | ⟨ha, hA⟩ <;> rcases three v (nVal k) with hv | ⟨hv, hV⟩ | ⟨hv, hV⟩ <;> rcases three s (nSeen k) with hs | ⟨hs, hS⟩ | ⟨hs, hS⟩
  all_goals
    have HV := hidIt (show strayL ⟨k, t, a, v, s⟩ = _ by simp only [strayL, *]; rfl)
    go_enter Tryz.func116, Tryz.ntmps116
    go_wp2_with (first | (go_at_call 110; refine (namesArg_any _ _).mono ?_; rintro r w' ⟨rfl, rfl⟩) | (go_at_call 111; refine (namesValue_any _ _).mono ?_; rintro r w' ⟨rfl, rfl⟩) | (go_at_call 85; refine (namesSeen_any _ _).mono ?_; rintro r w' ⟨rfl, rfl⟩))
    go_ret
    exact ⟨ret_bool HV.out.symm, hba _⟩

end Go.Proofs.YtfdalbmopaemgaaGreatDoor

namespace Go.Proofs.YtfdalbmopaemgaaGreatDoor
open Go.RowKit

def txL (T : Tr) (k : Int) (t a : Nat) : Int := if k ≠ 1 then (if isO T.op t then 0 else 4) else if 15 < t ∨ t ≠ T.n + 1 then 4 else if mayO T.op (a : Int) then 0 else 5

set_option maxRecDepth 100000 in
set_option maxHeartbeats 4000000 in
theorem tx_any (b : Nat) (T : Tr) (k : Int) (t a : Nat) (v s : Int) (w : World) (h : TrAt w b T) (hn : T.n ≤ 15) (ht : t ≤ 255) (ha : a ≤ 255) :
    Calls Tryz.prog 114 #[.pointer (some ⟨b, 0, none⟩), evV ⟨k, (t : Int), (a : Int), v, s⟩] w fun r w' => r = .returned (.int .i64 (txL T k t a)) ∧ Below w.heap.size w w' := by
  have hbx := (Below.refl w.heap.size w).alloc (Nat.le_refl _) (.cells #[.int .u8 k, .int .u8 (t : Int), .int .u8 (a : Int), .int .i32 v, .int .i32 s] 41)
  have h1 := h.below hbx
  have HO := hidIt (isOpen_any b t T _ h1 ht)
  have HT1 := hidIt h1
  clear h1 h
  cases hk : (k == 1) with
  | false =>
    have hkn : (k != 1) = true := by simp [bne, hk]
    have hk' : k ≠ 1 := by simpa using hk
    have HV : Hid (txL T k t a = if isO T.op t then 0 else 4) := by show _ = _; unfold txL; rw [if_pos hk']
    obtain ⟨o, ho⟩ : ∃ o, isO T.op t = o := ⟨_, rfl⟩
    have HOV := hidIt ho
    rw [ho] at HV
    clear ho hk hk'
    cases o
    all_goals
      go_enter Tryz.func114, Tryz.ntmps114
      go_wp2_with (go_at_call 101; refine HO.out.mono ?_; rintro r w1 ⟨rfl, rfl⟩; rw [HOV.out])
      go_ret
      exact ⟨ret_int HV.out.symm, hbx⟩
  | true =>
    have hkn : (k != 1) = false := by simp [bne, hk]
    have hk' : k = 1 := by simpa using hk
    clear hk
    by_cases h15 : 15 < t
    · have h15' : (15 : Int) < (t : Int) := by omega
      have HV : Hid (txL T k t a = 4) := by show _ = _; unfold txL; rw [if_neg (by simp [hk']), if_pos (Or.inl h15)]
      clear hk'
      go_enter Tryz.func114, Tryz.ntmps114
      go_wp2_with fail
      go_quiet ((go_at_call 92; exact Calls.quiet_of_same (begun_any b T _ (HT1.out.drewN _))))
      go_wp2_with fail
      go_ret
      exact ⟨ret_int HV.out.symm, below_drewN hbx _⟩
    · have h15' : ¬ (15 : Int) < (t : Int) := by omega
      have h15d : decide ((15 : Int) < (t : Int)) = false := decide_eq_false h15'
      cases ht1 : ((t : Int) == (T.n : Int) + 1) with
      | false =>
        have htn : ((t : Int) != (T.n : Int) + 1) = true := by simp [bne, ht1]
        have ht2 : (t : Int) ≠ (T.n : Int) + 1 := by simpa using ht1
        have HV : Hid (txL T k t a = 4) := by show _ = _; unfold txL; rw [if_neg (by simp [hk']), if_pos (Or.inr (by omega))]
        clear hk' ht1 ht2
        go_enter Tryz.func114, Tryz.ntmps114
        go_wp2_with fail
        go_quiet ((go_at_call 92; exact Calls.quiet_of_same (begun_any b T _ (HT1.out.drewN _))))
        go_wp2_with fail
        go_ret
        exact ⟨ret_int HV.out.symm, below_drewN hbx _⟩
      | true =>
        have htn : ((t : Int) != (T.n : Int) + 1) = false := by simp [bne, ht1]
        have ht2 : (t : Int) = (T.n : Int) + 1 := by simpa using ht1
        have HV : Hid (txL T k t a = if mayO T.op (a : Int) then 0 else 5) := by show _ = _; unfold txL; rw [if_neg (by simp [hk']), if_neg (by omega)]
        obtain ⟨o, ho⟩ : ∃ o, mayO T.op (a : Int) = o := ⟨_, rfl⟩
        have HOV := hidIt ho
        rw [ho] at HV
        clear hk' ht1 ht2 ho
        cases o
        all_goals
          go_enter Tryz.func114, Tryz.ntmps114
          go_wp2_with fail
          go_quiet ((go_at_call 92; exact Calls.quiet_of_same (begun_any b T _ (HT1.out.drewN _))))
          go_wp2_with (go_at_call 91; refine (may_any b a T _ (HT1.out.drewN _) ha).mono ?_; rintro r w1 ⟨rfl, rfl⟩; rw [HOV.out])
          go_ret
          exact ⟨ret_int HV.out.symm, below_drewN hbx _⟩

end Go.Proofs.YtfdalbmopaemgaaGreatDoor
