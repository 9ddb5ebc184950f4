import Derived.Test.YtfdalbmopaemgabGreatDoorK3
namespace Go.Proofs.YtfdalbmopaemgabGreatDoor
open Go.RowKit

/-- Only the block b has changed, and of it only the first 33 cells. -/
structure Only1 (w w' : World) (b : Nat) : Prop where
  below : Below b w w'
  size : w'.heap.size = w.heap.size
  rest : ∀ k, k ≠ b → w'.heap[k]? = w.heap[k]?
  cells : ∀ o, 33 ≤ o → w'.cell? ⟨b, o, none⟩ = w.cell? ⟨b, o, none⟩

theorem Only1.refl (w : World) (b : Nat) : Only1 w w b := ⟨Below.refl _ _, rfl, fun _ _ => rfl, fun _ _ => rfl⟩
theorem Only1.set {a w : World} {b : Nat} (h : Only1 a w b) (o : Nat) (ho : o < 33) (v : Value) : Only1 a (w.setCell ⟨b, o, none⟩ v) b :=
  ⟨h.below.setCell (p := ⟨b, o, none⟩) (Nat.le_refl _) _, by simpa using h.size, fun k hk => by rw [Below.heap_setCell _ ⟨b, o, none⟩ _ _ hk]; exact h.rest k hk,
   fun o' ho' => by rw [World.cell?_setCell_other _ _ _ _ (by intro e; injection e with _ e2 _; omega)]; exact h.cells o' ho'⟩

theorem Only1.drew {a w : World} {b : Nat} (h : Only1 a w b) : Only1 a w.drew b := ⟨below_drewN h.below 1, h.size, h.rest, h.cells⟩
theorem Only1.drewN {a w : World} {b : Nat} (h : Only1 a w b) (n : Nat) : Only1 a (w.drewN n) b := ⟨below_drewN h.below n, h.size, h.rest, h.cells⟩

def BoolPost (w : World) (b : Nat) (T : Tr) (r : Ending) (w' : World) : Prop := r = .returned (.bool true) ∧ TrAt w' b T ∧ Only1 w w' b

set_option maxRecDepth 100000 in
set_option maxHeartbeats 1000000 in
theorem begin_any (b m : Nat) (T : Tr) (w : World) (h : TrAt w b T) (hm : m ≤ 255) (hn : T.n < 15) (hmay : mayO T.op (m : Int) = true) :
    Calls Tryz.prog 89 #[.pointer (some ⟨b, 0, none⟩), .int .u8 (m : Int)] w (BoolPost w b (beginT T (m : Int))) := by
  have HC := hidIt (may_any b m T w h hm)
  have HM := hidIt hmay
  have g0 := h.n
  have f0 := h.fz
  have g1 := h.par (T.n + 1) (by omega)
  have g2 := h.op (T.n + 1) (by omega)
  have hn' : ¬ (15 : Int) ≤ (T.n : Int) := by omega
  have HF : Hid (TrAt (((w.setCell ⟨b, 0, none⟩ (.int .u8 ((T.n : Int) + 1))).setCell ⟨b, 1 + (T.n + 1), none⟩ (.int .u8 (m : Int))).setCell ⟨b, 17 + (T.n + 1), none⟩ (.bool true)) b (beginT T (m : Int))) := ((h.setN (T.n + 1) ((T.n : Int) + 1) (by omega)).setPar (T.n + 1) (by omega) (m : Int)).setOp (T.n + 1) (by omega) true
  have HO : Hid (Only1 w (((w.setCell ⟨b, 0, none⟩ (.int .u8 ((T.n : Int) + 1))).setCell ⟨b, 1 + (T.n + 1), none⟩ (.int .u8 (m : Int))).setCell ⟨b, 17 + (T.n + 1), none⟩ (.bool true)) b) := (((Only1.refl w b).set 0 (by omega) _).set _ (by omega) _).set _ (by omega) _
  clear h hmay
  go_enter Tryz.func89, Tryz.ntmps89
  go_wp2_with fail
  refine HC.out.mono ?_
  rintro r w1 ⟨rfl, rfl⟩
  rw [HM.out]
  go_wp2_with fail
  go_region
  go_wp2_with fail
  go_region
  go_wp2_with fail
  go_ret
  exact ⟨rfl, HF.out.drew.drew, HO.out.drew.drew⟩

set_option maxRecDepth 100000 in
set_option maxHeartbeats 1000000 in
theorem commit_any (b m : Nat) (T : Tr) (w : World) (h : TrAt w b T) (hm : m ≤ 15) (ho : T.op m = true) (hch : childT T (m : Int) = false) :
    Calls Tryz.prog 100 #[.pointer (some ⟨b, 0, none⟩), .int .u8 (m : Int)] w (BoolPost w b (commitT T m)) := by
  have HC := hidIt (isOpen_any b m T w h (by omega))
  have HD := hidIt (child_any b (m : Int) T w h)
  have HM : Hid (isO T.op m = true) := by show _ = _; unfold isO; rw [decide_eq_true hm, ho]; rfl
  have HH := hidIt hch
  have f0 := h.fz
  have g2 := h.op m hm
  have h15 : (m : Int) < 16 := by omega
  have HF : Hid (TrAt (w.setCell ⟨b, 17 + m, none⟩ (.bool false)) b (commitT T m)) := h.setOp m hm false
  have HO : Hid (Only1 w (w.setCell ⟨b, 17 + m, none⟩ (.bool false)) b) := (Only1.refl w b).set _ (by omega) _
  clear h ho hch
  go_enter Tryz.func100, Tryz.ntmps100
  go_wp2_with fail
  refine HC.out.mono ?_
  rintro r w1 ⟨rfl, rfl⟩
  rw [HM.out]
  go_wp2_with fail
  refine HD.out.mono ?_
  rintro r w1 ⟨rfl, rfl⟩
  rw [HH.out]
  go_wp2_with fail
  go_ret
  exact ⟨rfl, HF.out, HO.out⟩

theorem abG_skip {par : Nat → Int} {i : Nat} {o : Nat → Bool} (h : (abG par i o (i + 1) && !mayO (abG par i o) (par (i + 1))) = false) : abG par (i + 1) o = abG par i o := by rw [abG, if_neg (by rw [h]; decide)]
theorem abG_do {par : Nat → Int} {i : Nat} {o : Nat → Bool} (h : (abG par i o (i + 1) && !mayO (abG par i o) (par (i + 1))) = true) : abG par (i + 1) o = upd (abG par i o) (i + 1) false := by rw [abG, if_pos h]

def AbLoop (w : World) (b m : Nat) (T : Tr) (k : Nat) (wr : World) : Prop := TrAt wr b ⟨T.n, T.par, abG T.par k (upd T.op m false)⟩ ∧ Only1 w wr b

set_option maxRecDepth 100000 in
set_option maxHeartbeats 1000000 in
theorem abort_any (b m : Nat) (T : Tr) (w : World) (h : TrAt w b T) (hm : m ≤ 15) (ho : T.op m = true) (hpar : ∀ i, i ≤ 15 → 0 ≤ T.par i ∧ T.par i ≤ 255) :
    Calls Tryz.prog 101 #[.pointer (some ⟨b, 0, none⟩), .int .u8 (m : Int)] w (BoolPost w b (abortT T m)) := by
  have HC := hidIt (isOpen_any b m T w h (by omega))
  have HM : Hid (isO T.op m = true) := by show _ = _; unfold isO; rw [decide_eq_true hm, ho]; rfl
  have HPR := hidIt hpar
  have f0 := h.fz
  have g2 := h.op m hm
  have h15 : (m : Int) < 16 := by omega
  have HA : Hid (AbLoop w b m T 0 (w.setCell ⟨b, 17 + m, none⟩ (.bool false))) := ⟨h.setOp m hm false, (Only1.refl w b).set _ (by omega) _⟩
  clear h ho hpar
  go_enter Tryz.func101, Tryz.ntmps101
  go_wp2_with fail
  refine HC.out.mono ?_
  rintro r w1 ⟨rfl, rfl⟩
  rw [HM.out]
  go_wp2_with fail
  go_loopw [5] (fun i wr => ∃ k : Nat, k ≤ 15 ∧ i = .int .i64 ((k + 1 : Nat) : Int) ∧ AbLoop w1 b m T k wr) (fun i _ => 16 - (intOf i).toNat)
  case atStart => exact ⟨0, by omega, rfl, HA.out⟩
  case round =>
    clear f0 g2
    obtain ⟨k, hk, rfl, htr, honly⟩ := hrel
    by_cases hlt : k < 15
    · have hlt' : ((k + 1 : Nat) : Int) ≤ 15 := by omega
      have hlt2 : ((k + 1 : Nat) : Int) < 16 := by omega
      have hk0 : (0 : Int) ≤ ((k + 1 : Nat) : Int) := by omega
      have g1 := htr.op (k + 1) (by omega)
      have g2 := htr.par (k + 1) (by omega)
      have f1 := htr.fz
      have hp := HPR.out (k + 1) (by omega)
      obtain ⟨p, hp'⟩ : ∃ p : Nat, T.par (k + 1) = (p : Int) := ⟨(T.par (k + 1)).toNat, by omega⟩
      have HP := hidIt hp'
      have HMY := hidIt (may_any b p _ wr htr (by omega))
      simp only at g1 g2 HMY
      rw [hp'] at g2
      have HTR := hidIt htr
      have HON := hidIt honly
      clear htr honly hp hp'
      cases ho : abG T.par k (upd T.op m false) (k + 1) with
      | false =>
        rw [ho] at g1
        have HN : Hid (AbLoop w1 b m T (k + 1) wr) := by
          refine ⟨?_, HON.out⟩
          rw [abG_skip (by rw [ho]; rfl)]
          exact HTR.out
        clear ho
        go_wp2_with fail
        go_roundw
        case rel => exact ⟨k + 1, by omega, by go_num, HN.out⟩
        case measure => simp [intOf]; omega
      | true =>
        rw [ho] at g1
        cases hmy : mayO (abG T.par k (upd T.op m false)) (p : Int) with
        | true =>
          have HN : Hid (AbLoop w1 b m T (k + 1) wr) := by
            refine ⟨?_, HON.out⟩
            rw [abG_skip (by rw [ho, HP.out, hmy]; rfl)]
            exact HTR.out
          have HY := hidIt hmy
          clear ho hmy
          go_wp2_with fail
          refine HMY.out.mono ?_
          rintro r w2 ⟨rfl, rfl⟩
          rw [HY.out]
          go_wp2_with fail
          go_roundw
          case rel => exact ⟨k + 1, by omega, by go_num, HN.out⟩
          case measure => simp [intOf]; omega
        | false =>
          have HN : Hid (AbLoop w1 b m T (k + 1) (wr.setCell ⟨b, 17 + (k + 1), none⟩ (.bool false))) := by
            refine ⟨?_, HON.out.set _ (by omega) _⟩
            rw [abG_do (by rw [ho, HP.out, hmy]; rfl)]
            exact HTR.out.setOp (k + 1) (by omega) false
          have HY := hidIt hmy
          clear ho hmy
          go_wp2_with fail
          refine HMY.out.mono ?_
          rintro r w2 ⟨rfl, rfl⟩
          rw [HY.out]
          go_wp2_with fail
          go_roundw
          case rel => exact ⟨k + 1, by omega, by go_num, HN.out⟩
          case measure => simp [intOf]; omega
    · have hge : ¬ ((k + 1 : Nat) : Int) ≤ 15 := by omega
      have hke : k = 15 := by omega
      subst hke
      go_wp2_with fail
      go_ret
      exact ⟨rfl, htr, honly⟩

end Go.Proofs.YtfdalbmopaemgabGreatDoor
