import Derived.Test.YtfdalbmopaemgabGreatDoorK6
namespace Go.Proofs.YtfdalbmopaemgabGreatDoor
open Go.RowKit

def faultL (T : Tr) (k : Int) (t a : Nat) (v s : Int) : Int :=
  if isKind k = false then 3 else if txL T k t a ≠ 0 then txL T k t a else if onObj k = true ∧ 4 ≤ a then 6 else if strayL ⟨k, (t : Int), (a : Int), v, s⟩ = true then 7 else if k = 5 ∧ childT T (t : Int) = true then 8 else 0

theorem letter_r (k : Int) (w : World) (h0 : 0 ≤ k) (h1 : k ≤ 255) :
    Calls Tryz.prog 69 #[.int .u8 k] w fun e w' => ∃ l, e = .returned (.string ⟨l.toArray⟩) ∧ w' = w ∧ Hid (letterL k = l) := by
  refine (letter_any k w h0 h1).mono ?_
  rintro r w' ⟨rfl, rfl⟩
  exact ⟨_, rfl, rfl, rfl⟩

theorem stray_r (e : Ev) (W : World) :
    Calls Tryz.prog 111 #[evV e] W fun r w' => r = .returned (.bool (strayL e)) ∧ Below W.heap.size W w' ∧ (∀ b o, b < W.heap.size → w'.cell? ⟨b, o, none⟩ = W.cell? ⟨b, o, none⟩) := by
  refine (stray_any e W).mono ?_
  rintro r w' ⟨rfl, h⟩
  exact ⟨rfl, h, bcells h⟩

theorem tx_r (b : Nat) (T : Tr) (k : Int) (t a : Nat) (v s : Int) (W : World) (h : TrAt W b T) (hn : T.n ≤ 15) (ht : t ≤ 255) (ha : a ≤ 255) :
    Calls Tryz.prog 109 #[.pointer (some ⟨b, 0, none⟩), evV ⟨k, (t : Int), (a : Int), v, s⟩] W fun r w' => r = .returned (.int .i64 (txL T k t a)) ∧ Below W.heap.size W w' ∧ (∀ b o, b < W.heap.size → w'.cell? ⟨b, o, none⟩ = W.cell? ⟨b, o, none⟩) := by
  refine (tx_any b T k t a v s W h hn ht ha).mono ?_
  rintro r w' ⟨rfl, h⟩
  exact ⟨rfl, h, bcells h⟩

set_option maxRecDepth 100000 in
set_option maxHeartbeats 4000000 in
theorem fault_any (b : Nat) (T : Tr) (k : Int) (t a : Nat) (v s : Int) (w : World) (h : TrAt w b T) (hn : T.n ≤ 15) (hk0 : 0 ≤ k) (hk1 : k ≤ 255) (ht : t ≤ 255) (ha : a ≤ 255) :
    Calls Tryz.prog 76 #[.pointer (some ⟨b, 0, none⟩), evV ⟨k, (t : Int), (a : Int), v, s⟩] w fun r w' => r = .returned (.int .i64 (faultL T k t a v s)) ∧ Below w.heap.size w w' := by
  have hbx := (Below.refl w.heap.size w).alloc (Nat.le_refl _) (.cells #[.int .u8 k, .int .u8 (t : Int), .int .u8 (a : Int), .int .i32 v, .int .i32 s] 45)
  have HT1 := hidIt (h.below hbx)
  clear h
  have HL := hidIt (letter_any k (w.alloc (.cells #[.int .u8 k, .int .u8 (t : Int), .int .u8 (a : Int), .int .i32 v, .int .i32 s] 45)) hk0 hk1)
  cases hkd : isKind k with
  | false =>
    have HV : Hid (faultL T k t a v s = 3) := by show _ = _; unfold faultL; rw [if_pos hkd]
    have HE : Hid (letterL k = []) := by
      show _ = _
      unfold isKind at hkd
      simp at hkd
      unfold letterL
      rw [if_neg (by omega), if_neg (by omega), if_neg (by omega), if_neg (by omega), if_neg (by omega), if_neg (by omega)]
    clear hkd
    go_enter Tryz.func76, Tryz.ntmps76
    go_wp2_with (go_at_call 69; refine HL.out.mono ?_; rintro r w1 ⟨rfl, rfl⟩; rw [HE.out])
    go_ret
    exact ⟨ret_int HV.out.symm, hbx⟩
  | true =>
    have HTX := hidIt (tx_r b T k t a v s _ HT1.out hn ht ha)
    have HV0 : Hid (faultL T k t a v s = if txL T k t a ≠ 0 then txL T k t a else if onObj k = true ∧ 4 ≤ a then 6 else if strayL ⟨k, (t : Int), (a : Int), v, s⟩ = true then 7 else if k = 5 ∧ childT T (t : Int) = true then 8 else 0) := by show _ = _; unfold faultL; rw [if_neg (by simp [hkd])]
    obtain ⟨tx, htx⟩ : ∃ tx, txL T k t a = tx := ⟨_, rfl⟩
    obtain ⟨st, hst⟩ : ∃ st, strayL ⟨k, (t : Int), (a : Int), v, s⟩ = st := ⟨_, rfl⟩
    obtain ⟨ch, hch⟩ : ∃ ch, childT T (t : Int) = ch := ⟨_, rfl⟩
    rw [htx, hst, hch] at HV0
    have HXV := hidIt htx
    have HSV := hidIt hst
    have HCV := hidIt hch
    clear htx hst hch
    have hc := kinds6 hkd
    clear hkd
    cases h0 : (tx == 0) with
    | false =>
      have h0n : (tx != 0) = true := by simp [bne, h0]
      have HV : Hid (faultL T k t a v s = tx) := by show _ = _; rw [HV0.out, if_pos (by simpa using h0)]
      clear HV0 h0
      rcases hc with rfl | rfl | rfl | rfl | rfl | rfl
      all_goals
        go_enter Tryz.func76, Tryz.ntmps76
        go_wp2_with (first | (go_at_call 69; refine HL.out.mono ?_; rintro r w1 ⟨rfl, rfl⟩) | (go_at_call 109; refine HTX.out.mono ?_; rintro r w1 ⟨rfl, hb1, hc1⟩; rw [HXV.out]))
        go_ret
        exact ⟨ret_int HV.out.symm, hbx.trans (hb1.mono (by simp))⟩
    | true =>
      have h0n : (tx != 0) = false := by simp [bne, h0]
      have HV : Hid (faultL T k t a v s = if onObj k = true ∧ 4 ≤ a then 6 else if st = true then 7 else if k = 5 ∧ ch = true then 8 else 0) := by show _ = _; rw [HV0.out, if_neg (by simpa using h0)]
      clear HV0 h0
      rcases hc with rfl | rfl | rfl | rfl | rfl | rfl
      · cases st with
        | true =>
          have HW : Hid (faultL T 1 t a v s = 7) := by show _ = _; rw [HV.out]; simp [onObj]
          go_enter Tryz.func76, Tryz.ntmps76
          go_wp2_with (first | (go_at_call 69; refine HL.out.mono ?_; rintro r w1 ⟨rfl, rfl⟩) | (go_at_call 109; refine HTX.out.mono ?_; rintro r w1 ⟨rfl, hb1, hc1⟩; rw [HXV.out]; have x0 : w1.cell? ⟨w.heap.size, 0, none⟩ = some (.int .u8 1) := (by rw [hc1 _ _ (by simp)]; simp [go_sem]); have x1 : w1.cell? ⟨w.heap.size, 1, none⟩ = some (.int .u8 (t : Int)) := (by rw [hc1 _ _ (by simp)]; simp [go_sem]); have x2 : w1.cell? ⟨w.heap.size, 2, none⟩ = some (.int .u8 (a : Int)) := (by rw [hc1 _ _ (by simp)]; simp [go_sem]); have x3 : w1.cell? ⟨w.heap.size, 3, none⟩ = some (.int .i32 v) := (by rw [hc1 _ _ (by simp)]; simp [go_sem]); have x4 : w1.cell? ⟨w.heap.size, 4, none⟩ = some (.int .i32 s) := (by rw [hc1 _ _ (by simp)]; simp [go_sem]); have hb1' := hbx.trans (hb1.mono (by simp)); have hz1 : w.heap.size < w1.heap.size := (by have := hb1.size; simp at this; omega); have HT2 := hidIt (HT1.out.below hb1); clear hc1) | (go_at_call 110; refine (onObject_any _ _).mono ?_; rintro r w' ⟨rfl, rfl⟩; rw [show onObj 1 = false from rfl]) | (go_at_call 111; refine (stray_r ⟨1, (t : Int), (a : Int), v, s⟩ _).mono ?_; rintro r w2 ⟨rfl, hb2, hc2⟩; rw [HSV.out]; have y0 : w2.cell? ⟨w.heap.size, 0, none⟩ = some (.int .u8 1) := ((hc2 _ _ hz1).trans x0); have y1 : w2.cell? ⟨w.heap.size, 1, none⟩ = some (.int .u8 (t : Int)) := ((hc2 _ _ hz1).trans x1); have hb2' := hb1'.trans (hb2.mono hb1'.size); have HT3 := hidIt (HT2.out.below hb2); clear hc2))
          go_ret
          exact ⟨ret_int HW.out.symm, hb2'⟩
        | false =>
          have HW : Hid (faultL T 1 t a v s = 0) := by show _ = _; rw [HV.out]; simp [onObj]
          go_enter Tryz.func76, Tryz.ntmps76
          go_wp2_with (first | (go_at_call 69; refine HL.out.mono ?_; rintro r w1 ⟨rfl, rfl⟩) | (go_at_call 109; refine HTX.out.mono ?_; rintro r w1 ⟨rfl, hb1, hc1⟩; rw [HXV.out]; have x0 : w1.cell? ⟨w.heap.size, 0, none⟩ = some (.int .u8 1) := (by rw [hc1 _ _ (by simp)]; simp [go_sem]); have x1 : w1.cell? ⟨w.heap.size, 1, none⟩ = some (.int .u8 (t : Int)) := (by rw [hc1 _ _ (by simp)]; simp [go_sem]); have x2 : w1.cell? ⟨w.heap.size, 2, none⟩ = some (.int .u8 (a : Int)) := (by rw [hc1 _ _ (by simp)]; simp [go_sem]); have x3 : w1.cell? ⟨w.heap.size, 3, none⟩ = some (.int .i32 v) := (by rw [hc1 _ _ (by simp)]; simp [go_sem]); have x4 : w1.cell? ⟨w.heap.size, 4, none⟩ = some (.int .i32 s) := (by rw [hc1 _ _ (by simp)]; simp [go_sem]); have hb1' := hbx.trans (hb1.mono (by simp)); have hz1 : w.heap.size < w1.heap.size := (by have := hb1.size; simp at this; omega); have HT2 := hidIt (HT1.out.below hb1); clear hc1) | (go_at_call 110; refine (onObject_any _ _).mono ?_; rintro r w' ⟨rfl, rfl⟩; rw [show onObj 1 = false from rfl]) | (go_at_call 111; refine (stray_r ⟨1, (t : Int), (a : Int), v, s⟩ _).mono ?_; rintro r w2 ⟨rfl, hb2, hc2⟩; rw [HSV.out]; have y0 : w2.cell? ⟨w.heap.size, 0, none⟩ = some (.int .u8 1) := ((hc2 _ _ hz1).trans x0); have y1 : w2.cell? ⟨w.heap.size, 1, none⟩ = some (.int .u8 (t : Int)) := ((hc2 _ _ hz1).trans x1); have hb2' := hb1'.trans (hb2.mono hb1'.size); have HT3 := hidIt (HT2.out.below hb2); clear hc2))
          go_ret
          exact ⟨ret_int HW.out.symm, hb2'⟩
      · by_cases h4 : 4 ≤ a
        · have h4' : (4 : Int) ≤ (a : Int) := by omega
          have HW : Hid (faultL T 2 t a v s = 6) := by show _ = _; rw [HV.out]; simp [onObj, h4]
          go_enter Tryz.func76, Tryz.ntmps76
          go_wp2_with (first | (go_at_call 69; refine HL.out.mono ?_; rintro r w1 ⟨rfl, rfl⟩) | (go_at_call 109; refine HTX.out.mono ?_; rintro r w1 ⟨rfl, hb1, hc1⟩; rw [HXV.out]; have x0 : w1.cell? ⟨w.heap.size, 0, none⟩ = some (.int .u8 2) := (by rw [hc1 _ _ (by simp)]; simp [go_sem]); have x1 : w1.cell? ⟨w.heap.size, 1, none⟩ = some (.int .u8 (t : Int)) := (by rw [hc1 _ _ (by simp)]; simp [go_sem]); have x2 : w1.cell? ⟨w.heap.size, 2, none⟩ = some (.int .u8 (a : Int)) := (by rw [hc1 _ _ (by simp)]; simp [go_sem]); have x3 : w1.cell? ⟨w.heap.size, 3, none⟩ = some (.int .i32 v) := (by rw [hc1 _ _ (by simp)]; simp [go_sem]); have x4 : w1.cell? ⟨w.heap.size, 4, none⟩ = some (.int .i32 s) := (by rw [hc1 _ _ (by simp)]; simp [go_sem]); have hb1' := hbx.trans (hb1.mono (by simp)); have hz1 : w.heap.size < w1.heap.size := (by have := hb1.size; simp at this; omega); have HT2 := hidIt (HT1.out.below hb1); clear hc1) | (go_at_call 110; refine (onObject_any _ _).mono ?_; rintro r w' ⟨rfl, rfl⟩; rw [show onObj 2 = true from rfl]))
          go_ret
          exact ⟨ret_int HW.out.symm, hb1'⟩
        · have h4' : ¬ (4 : Int) ≤ (a : Int) := by omega
          cases st with
          | true =>
            have HW : Hid (faultL T 2 t a v s = 7) := by show _ = _; rw [HV.out]; simp [onObj, h4]
            go_enter Tryz.func76, Tryz.ntmps76
            go_wp2_with (first | (go_at_call 69; refine HL.out.mono ?_; rintro r w1 ⟨rfl, rfl⟩) | (go_at_call 109; refine HTX.out.mono ?_; rintro r w1 ⟨rfl, hb1, hc1⟩; rw [HXV.out]; have x0 : w1.cell? ⟨w.heap.size, 0, none⟩ = some (.int .u8 2) := (by rw [hc1 _ _ (by simp)]; simp [go_sem]); have x1 : w1.cell? ⟨w.heap.size, 1, none⟩ = some (.int .u8 (t : Int)) := (by rw [hc1 _ _ (by simp)]; simp [go_sem]); have x2 : w1.cell? ⟨w.heap.size, 2, none⟩ = some (.int .u8 (a : Int)) := (by rw [hc1 _ _ (by simp)]; simp [go_sem]); have x3 : w1.cell? ⟨w.heap.size, 3, none⟩ = some (.int .i32 v) := (by rw [hc1 _ _ (by simp)]; simp [go_sem]); have x4 : w1.cell? ⟨w.heap.size, 4, none⟩ = some (.int .i32 s) := (by rw [hc1 _ _ (by simp)]; simp [go_sem]); have hb1' := hbx.trans (hb1.mono (by simp)); have hz1 : w.heap.size < w1.heap.size := (by have := hb1.size; simp at this; omega); have HT2 := hidIt (HT1.out.below hb1); clear hc1) | (go_at_call 110; refine (onObject_any _ _).mono ?_; rintro r w' ⟨rfl, rfl⟩; rw [show onObj 2 = true from rfl]) | (go_at_call 111; refine (stray_r ⟨2, (t : Int), (a : Int), v, s⟩ _).mono ?_; rintro r w2 ⟨rfl, hb2, hc2⟩; rw [HSV.out]; have y0 : w2.cell? ⟨w.heap.size, 0, none⟩ = some (.int .u8 2) := ((hc2 _ _ hz1).trans x0); have y1 : w2.cell? ⟨w.heap.size, 1, none⟩ = some (.int .u8 (t : Int)) := ((hc2 _ _ hz1).trans x1); have hb2' := hb1'.trans (hb2.mono hb1'.size); have HT3 := hidIt (HT2.out.below hb2); clear hc2))
            go_ret
            exact ⟨ret_int HW.out.symm, hb2'⟩
          | false =>
            have HW : Hid (faultL T 2 t a v s = 0) := by show _ = _; rw [HV.out]; simp [onObj, h4]
            go_enter Tryz.func76, Tryz.ntmps76
            go_wp2_with (first | (go_at_call 69; refine HL.out.mono ?_; rintro r w1 ⟨rfl, rfl⟩) | (go_at_call 109; refine HTX.out.mono ?_; rintro r w1 ⟨rfl, hb1, hc1⟩; rw [HXV.out]; have x0 : w1.cell? ⟨w.heap.size, 0, none⟩ = some (.int .u8 2) := (by rw [hc1 _ _ (by simp)]; simp [go_sem]); have x1 : w1.cell? ⟨w.heap.size, 1, none⟩ = some (.int .u8 (t : Int)) := (by rw [hc1 _ _ (by simp)]; simp [go_sem]); have x2 : w1.cell? ⟨w.heap.size, 2, none⟩ = some (.int .u8 (a : Int)) := (by rw [hc1 _ _ (by simp)]; simp [go_sem]); have x3 : w1.cell? ⟨w.heap.size, 3, none⟩ = some (.int .i32 v) := (by rw [hc1 _ _ (by simp)]; simp [go_sem]); have x4 : w1.cell? ⟨w.heap.size, 4, none⟩ = some (.int .i32 s) := (by rw [hc1 _ _ (by simp)]; simp [go_sem]); have hb1' := hbx.trans (hb1.mono (by simp)); have hz1 : w.heap.size < w1.heap.size := (by have := hb1.size; simp at this; omega); have HT2 := hidIt (HT1.out.below hb1); clear hc1) | (go_at_call 110; refine (onObject_any _ _).mono ?_; rintro r w' ⟨rfl, rfl⟩; rw [show onObj 2 = true from rfl]) | (go_at_call 111; refine (stray_r ⟨2, (t : Int), (a : Int), v, s⟩ _).mono ?_; rintro r w2 ⟨rfl, hb2, hc2⟩; rw [HSV.out]; have y0 : w2.cell? ⟨w.heap.size, 0, none⟩ = some (.int .u8 2) := ((hc2 _ _ hz1).trans x0); have y1 : w2.cell? ⟨w.heap.size, 1, none⟩ = some (.int .u8 (t : Int)) := ((hc2 _ _ hz1).trans x1); have hb2' := hb1'.trans (hb2.mono hb1'.size); have HT3 := hidIt (HT2.out.below hb2); clear hc2))
            go_ret
            exact ⟨ret_int HW.out.symm, hb2'⟩
      · by_cases h4 : 4 ≤ a
        · have h4' : (4 : Int) ≤ (a : Int) := by omega
          have HW : Hid (faultL T 3 t a v s = 6) := by show _ = _; rw [HV.out]; simp [onObj, h4]
          go_enter Tryz.func76, Tryz.ntmps76
          go_wp2_with (first | (go_at_call 69; refine HL.out.mono ?_; rintro r w1 ⟨rfl, rfl⟩) | (go_at_call 109; refine HTX.out.mono ?_; rintro r w1 ⟨rfl, hb1, hc1⟩; rw [HXV.out]; have x0 : w1.cell? ⟨w.heap.size, 0, none⟩ = some (.int .u8 3) := (by rw [hc1 _ _ (by simp)]; simp [go_sem]); have x1 : w1.cell? ⟨w.heap.size, 1, none⟩ = some (.int .u8 (t : Int)) := (by rw [hc1 _ _ (by simp)]; simp [go_sem]); have x2 : w1.cell? ⟨w.heap.size, 2, none⟩ = some (.int .u8 (a : Int)) := (by rw [hc1 _ _ (by simp)]; simp [go_sem]); have x3 : w1.cell? ⟨w.heap.size, 3, none⟩ = some (.int .i32 v) := (by rw [hc1 _ _ (by simp)]; simp [go_sem]); have x4 : w1.cell? ⟨w.heap.size, 4, none⟩ = some (.int .i32 s) := (by rw [hc1 _ _ (by simp)]; simp [go_sem]); have hb1' := hbx.trans (hb1.mono (by simp)); have hz1 : w.heap.size < w1.heap.size := (by have := hb1.size; simp at this; omega); have HT2 := hidIt (HT1.out.below hb1); clear hc1) | (go_at_call 110; refine (onObject_any _ _).mono ?_; rintro r w' ⟨rfl, rfl⟩; rw [show onObj 3 = true from rfl]))
          go_ret
          exact ⟨ret_int HW.out.symm, hb1'⟩
        · have h4' : ¬ (4 : Int) ≤ (a : Int) := by omega
          cases st with
          | true =>
            have HW : Hid (faultL T 3 t a v s = 7) := by show _ = _; rw [HV.out]; simp [onObj, h4]
            go_enter Tryz.func76, Tryz.ntmps76
            go_wp2_with (first | (go_at_call 69; refine HL.out.mono ?_; rintro r w1 ⟨rfl, rfl⟩) | (go_at_call 109; refine HTX.out.mono ?_; rintro r w1 ⟨rfl, hb1, hc1⟩; rw [HXV.out]; have x0 : w1.cell? ⟨w.heap.size, 0, none⟩ = some (.int .u8 3) := (by rw [hc1 _ _ (by simp)]; simp [go_sem]); have x1 : w1.cell? ⟨w.heap.size, 1, none⟩ = some (.int .u8 (t : Int)) := (by rw [hc1 _ _ (by simp)]; simp [go_sem]); have x2 : w1.cell? ⟨w.heap.size, 2, none⟩ = some (.int .u8 (a : Int)) := (by rw [hc1 _ _ (by simp)]; simp [go_sem]); have x3 : w1.cell? ⟨w.heap.size, 3, none⟩ = some (.int .i32 v) := (by rw [hc1 _ _ (by simp)]; simp [go_sem]); have x4 : w1.cell? ⟨w.heap.size, 4, none⟩ = some (.int .i32 s) := (by rw [hc1 _ _ (by simp)]; simp [go_sem]); have hb1' := hbx.trans (hb1.mono (by simp)); have hz1 : w.heap.size < w1.heap.size := (by have := hb1.size; simp at this; omega); have HT2 := hidIt (HT1.out.below hb1); clear hc1) | (go_at_call 110; refine (onObject_any _ _).mono ?_; rintro r w' ⟨rfl, rfl⟩; rw [show onObj 3 = true from rfl]) | (go_at_call 111; refine (stray_r ⟨3, (t : Int), (a : Int), v, s⟩ _).mono ?_; rintro r w2 ⟨rfl, hb2, hc2⟩; rw [HSV.out]; have y0 : w2.cell? ⟨w.heap.size, 0, none⟩ = some (.int .u8 3) := ((hc2 _ _ hz1).trans x0); have y1 : w2.cell? ⟨w.heap.size, 1, none⟩ = some (.int .u8 (t : Int)) := ((hc2 _ _ hz1).trans x1); have hb2' := hb1'.trans (hb2.mono hb1'.size); have HT3 := hidIt (HT2.out.below hb2); clear hc2))
            go_ret
            exact ⟨ret_int HW.out.symm, hb2'⟩
          | false =>
            have HW : Hid (faultL T 3 t a v s = 0) := by show _ = _; rw [HV.out]; simp [onObj, h4]
            go_enter Tryz.func76, Tryz.ntmps76
            go_wp2_with (first | (go_at_call 69; refine HL.out.mono ?_; rintro r w1 ⟨rfl, rfl⟩) | (go_at_call 109; refine HTX.out.mono ?_; rintro r w1 ⟨rfl, hb1, hc1⟩; rw [HXV.out]; have x0 : w1.cell? ⟨w.heap.size, 0, none⟩ = some (.int .u8 3) := (by rw [hc1 _ _ (by simp)]; simp [go_sem]); have x1 : w1.cell? ⟨w.heap.size, 1, none⟩ = some (.int .u8 (t : Int)) := (by rw [hc1 _ _ (by simp)]; simp [go_sem]); have x2 : w1.cell? ⟨w.heap.size, 2, none⟩ = some (.int .u8 (a : Int)) := (by rw [hc1 _ _ (by simp)]; simp [go_sem]); have x3 : w1.cell? ⟨w.heap.size, 3, none⟩ = some (.int .i32 v) := (by rw [hc1 _ _ (by simp)]; simp [go_sem]); have x4 : w1.cell? ⟨w.heap.size, 4, none⟩ = some (.int .i32 s) := (by rw [hc1 _ _ (by simp)]; simp [go_sem]); have hb1' := hbx.trans (hb1.mono (by simp)); have hz1 : w.heap.size < w1.heap.size := (by have := hb1.size; simp at this; omega); have HT2 := hidIt (HT1.out.below hb1); clear hc1) | (go_at_call 110; refine (onObject_any _ _).mono ?_; rintro r w' ⟨rfl, rfl⟩; rw [show onObj 3 = true from rfl]) | (go_at_call 111; refine (stray_r ⟨3, (t : Int), (a : Int), v, s⟩ _).mono ?_; rintro r w2 ⟨rfl, hb2, hc2⟩; rw [HSV.out]; have y0 : w2.cell? ⟨w.heap.size, 0, none⟩ = some (.int .u8 3) := ((hc2 _ _ hz1).trans x0); have y1 : w2.cell? ⟨w.heap.size, 1, none⟩ = some (.int .u8 (t : Int)) := ((hc2 _ _ hz1).trans x1); have hb2' := hb1'.trans (hb2.mono hb1'.size); have HT3 := hidIt (HT2.out.below hb2); clear hc2))
            go_ret
            exact ⟨ret_int HW.out.symm, hb2'⟩
      · by_cases h4 : 4 ≤ a
        · have h4' : (4 : Int) ≤ (a : Int) := by omega
          have HW : Hid (faultL T 4 t a v s = 6) := by show _ = _; rw [HV.out]; simp [onObj, h4]
          go_enter Tryz.func76, Tryz.ntmps76
          go_wp2_with (first | (go_at_call 69; refine HL.out.mono ?_; rintro r w1 ⟨rfl, rfl⟩) | (go_at_call 109; refine HTX.out.mono ?_; rintro r w1 ⟨rfl, hb1, hc1⟩; rw [HXV.out]; have x0 : w1.cell? ⟨w.heap.size, 0, none⟩ = some (.int .u8 4) := (by rw [hc1 _ _ (by simp)]; simp [go_sem]); have x1 : w1.cell? ⟨w.heap.size, 1, none⟩ = some (.int .u8 (t : Int)) := (by rw [hc1 _ _ (by simp)]; simp [go_sem]); have x2 : w1.cell? ⟨w.heap.size, 2, none⟩ = some (.int .u8 (a : Int)) := (by rw [hc1 _ _ (by simp)]; simp [go_sem]); have x3 : w1.cell? ⟨w.heap.size, 3, none⟩ = some (.int .i32 v) := (by rw [hc1 _ _ (by simp)]; simp [go_sem]); have x4 : w1.cell? ⟨w.heap.size, 4, none⟩ = some (.int .i32 s) := (by rw [hc1 _ _ (by simp)]; simp [go_sem]); have hb1' := hbx.trans (hb1.mono (by simp)); have hz1 : w.heap.size < w1.heap.size := (by have := hb1.size; simp at this; omega); have HT2 := hidIt (HT1.out.below hb1); clear hc1) | (go_at_call 110; refine (onObject_any _ _).mono ?_; rintro r w' ⟨rfl, rfl⟩; rw [show onObj 4 = true from rfl]))
          go_ret
          exact ⟨ret_int HW.out.symm, hb1'⟩
        · have h4' : ¬ (4 : Int) ≤ (a : Int) := by omega
          cases st with
          | true =>
            have HW : Hid (faultL T 4 t a v s = 7) := by show _ = _; rw [HV.out]; simp [onObj, h4]
            go_enter Tryz.func76, Tryz.ntmps76
            go_wp2_with (first | (go_at_call 69; refine HL.out.mono ?_; rintro r w1 ⟨rfl, rfl⟩) | (go_at_call 109; refine HTX.out.mono ?_; rintro r w1 ⟨rfl, hb1, hc1⟩; rw [HXV.out]; have x0 : w1.cell? ⟨w.heap.size, 0, none⟩ = some (.int .u8 4) := (by rw [hc1 _ _ (by simp)]; simp [go_sem]); have x1 : w1.cell? ⟨w.heap.size, 1, none⟩ = some (.int .u8 (t : Int)) := (by rw [hc1 _ _ (by simp)]; simp [go_sem]); have x2 : w1.cell? ⟨w.heap.size, 2, none⟩ = some (.int .u8 (a : Int)) := (by rw [hc1 _ _ (by simp)]; simp [go_sem]); have x3 : w1.cell? ⟨w.heap.size, 3, none⟩ = some (.int .i32 v) := (by rw [hc1 _ _ (by simp)]; simp [go_sem]); have x4 : w1.cell? ⟨w.heap.size, 4, none⟩ = some (.int .i32 s) := (by rw [hc1 _ _ (by simp)]; simp [go_sem]); have hb1' := hbx.trans (hb1.mono (by simp)); have hz1 : w.heap.size < w1.heap.size := (by have := hb1.size; simp at this; omega); have HT2 := hidIt (HT1.out.below hb1); clear hc1) | (go_at_call 110; refine (onObject_any _ _).mono ?_; rintro r w' ⟨rfl, rfl⟩; rw [show onObj 4 = true from rfl]) | (go_at_call 111; refine (stray_r ⟨4, (t : Int), (a : Int), v, s⟩ _).mono ?_; rintro r w2 ⟨rfl, hb2, hc2⟩; rw [HSV.out]; have y0 : w2.cell? ⟨w.heap.size, 0, none⟩ = some (.int .u8 4) := ((hc2 _ _ hz1).trans x0); have y1 : w2.cell? ⟨w.heap.size, 1, none⟩ = some (.int .u8 (t : Int)) := ((hc2 _ _ hz1).trans x1); have hb2' := hb1'.trans (hb2.mono hb1'.size); have HT3 := hidIt (HT2.out.below hb2); clear hc2))
            go_ret
            exact ⟨ret_int HW.out.symm, hb2'⟩
          | false =>
            have HW : Hid (faultL T 4 t a v s = 0) := by show _ = _; rw [HV.out]; simp [onObj, h4]
            go_enter Tryz.func76, Tryz.ntmps76
            go_wp2_with (first | (go_at_call 69; refine HL.out.mono ?_; rintro r w1 ⟨rfl, rfl⟩) | (go_at_call 109; refine HTX.out.mono ?_; rintro r w1 ⟨rfl, hb1, hc1⟩; rw [HXV.out]; have x0 : w1.cell? ⟨w.heap.size, 0, none⟩ = some (.int .u8 4) := (by rw [hc1 _ _ (by simp)]; simp [go_sem]); have x1 : w1.cell? ⟨w.heap.size, 1, none⟩ = some (.int .u8 (t : Int)) := (by rw [hc1 _ _ (by simp)]; simp [go_sem]); have x2 : w1.cell? ⟨w.heap.size, 2, none⟩ = some (.int .u8 (a : Int)) := (by rw [hc1 _ _ (by simp)]; simp [go_sem]); have x3 : w1.cell? ⟨w.heap.size, 3, none⟩ = some (.int .i32 v) := (by rw [hc1 _ _ (by simp)]; simp [go_sem]); have x4 : w1.cell? ⟨w.heap.size, 4, none⟩ = some (.int .i32 s) := (by rw [hc1 _ _ (by simp)]; simp [go_sem]); have hb1' := hbx.trans (hb1.mono (by simp)); have hz1 : w.heap.size < w1.heap.size := (by have := hb1.size; simp at this; omega); have HT2 := hidIt (HT1.out.below hb1); clear hc1) | (go_at_call 110; refine (onObject_any _ _).mono ?_; rintro r w' ⟨rfl, rfl⟩; rw [show onObj 4 = true from rfl]) | (go_at_call 111; refine (stray_r ⟨4, (t : Int), (a : Int), v, s⟩ _).mono ?_; rintro r w2 ⟨rfl, hb2, hc2⟩; rw [HSV.out]; have y0 : w2.cell? ⟨w.heap.size, 0, none⟩ = some (.int .u8 4) := ((hc2 _ _ hz1).trans x0); have y1 : w2.cell? ⟨w.heap.size, 1, none⟩ = some (.int .u8 (t : Int)) := ((hc2 _ _ hz1).trans x1); have hb2' := hb1'.trans (hb2.mono hb1'.size); have HT3 := hidIt (HT2.out.below hb2); clear hc2))
            go_ret
            exact ⟨ret_int HW.out.symm, hb2'⟩
      · cases st with
        | true =>
          have HW : Hid (faultL T 5 t a v s = 7) := by show _ = _; rw [HV.out]; simp [onObj]
          go_enter Tryz.func76, Tryz.ntmps76
          go_wp2_with (first | (go_at_call 69; refine HL.out.mono ?_; rintro r w1 ⟨rfl, rfl⟩) | (go_at_call 109; refine HTX.out.mono ?_; rintro r w1 ⟨rfl, hb1, hc1⟩; rw [HXV.out]; have x0 : w1.cell? ⟨w.heap.size, 0, none⟩ = some (.int .u8 5) := (by rw [hc1 _ _ (by simp)]; simp [go_sem]); have x1 : w1.cell? ⟨w.heap.size, 1, none⟩ = some (.int .u8 (t : Int)) := (by rw [hc1 _ _ (by simp)]; simp [go_sem]); have x2 : w1.cell? ⟨w.heap.size, 2, none⟩ = some (.int .u8 (a : Int)) := (by rw [hc1 _ _ (by simp)]; simp [go_sem]); have x3 : w1.cell? ⟨w.heap.size, 3, none⟩ = some (.int .i32 v) := (by rw [hc1 _ _ (by simp)]; simp [go_sem]); have x4 : w1.cell? ⟨w.heap.size, 4, none⟩ = some (.int .i32 s) := (by rw [hc1 _ _ (by simp)]; simp [go_sem]); have hb1' := hbx.trans (hb1.mono (by simp)); have hz1 : w.heap.size < w1.heap.size := (by have := hb1.size; simp at this; omega); have HT2 := hidIt (HT1.out.below hb1); clear hc1) | (go_at_call 110; refine (onObject_any _ _).mono ?_; rintro r w' ⟨rfl, rfl⟩; rw [show onObj 5 = false from rfl]) | (go_at_call 111; refine (stray_r ⟨5, (t : Int), (a : Int), v, s⟩ _).mono ?_; rintro r w2 ⟨rfl, hb2, hc2⟩; rw [HSV.out]; have y0 : w2.cell? ⟨w.heap.size, 0, none⟩ = some (.int .u8 5) := ((hc2 _ _ hz1).trans x0); have y1 : w2.cell? ⟨w.heap.size, 1, none⟩ = some (.int .u8 (t : Int)) := ((hc2 _ _ hz1).trans x1); have hb2' := hb1'.trans (hb2.mono hb1'.size); have HT3 := hidIt (HT2.out.below hb2); clear hc2))
          go_ret
          exact ⟨ret_int HW.out.symm, hb2'⟩
        | false =>
          cases ch with
          | true =>
            have HW : Hid (faultL T 5 t a v s = 8) := by show _ = _; rw [HV.out]; simp [onObj]
            go_enter Tryz.func76, Tryz.ntmps76
            go_wp2_with (first | (go_at_call 69; refine HL.out.mono ?_; rintro r w1 ⟨rfl, rfl⟩) | (go_at_call 109; refine HTX.out.mono ?_; rintro r w1 ⟨rfl, hb1, hc1⟩; rw [HXV.out]; have x0 : w1.cell? ⟨w.heap.size, 0, none⟩ = some (.int .u8 5) := (by rw [hc1 _ _ (by simp)]; simp [go_sem]); have x1 : w1.cell? ⟨w.heap.size, 1, none⟩ = some (.int .u8 (t : Int)) := (by rw [hc1 _ _ (by simp)]; simp [go_sem]); have x2 : w1.cell? ⟨w.heap.size, 2, none⟩ = some (.int .u8 (a : Int)) := (by rw [hc1 _ _ (by simp)]; simp [go_sem]); have x3 : w1.cell? ⟨w.heap.size, 3, none⟩ = some (.int .i32 v) := (by rw [hc1 _ _ (by simp)]; simp [go_sem]); have x4 : w1.cell? ⟨w.heap.size, 4, none⟩ = some (.int .i32 s) := (by rw [hc1 _ _ (by simp)]; simp [go_sem]); have hb1' := hbx.trans (hb1.mono (by simp)); have hz1 : w.heap.size < w1.heap.size := (by have := hb1.size; simp at this; omega); have HT2 := hidIt (HT1.out.below hb1); clear hc1) | (go_at_call 110; refine (onObject_any _ _).mono ?_; rintro r w' ⟨rfl, rfl⟩; rw [show onObj 5 = false from rfl]) | (go_at_call 111; refine (stray_r ⟨5, (t : Int), (a : Int), v, s⟩ _).mono ?_; rintro r w2 ⟨rfl, hb2, hc2⟩; rw [HSV.out]; have y0 : w2.cell? ⟨w.heap.size, 0, none⟩ = some (.int .u8 5) := ((hc2 _ _ hz1).trans x0); have y1 : w2.cell? ⟨w.heap.size, 1, none⟩ = some (.int .u8 (t : Int)) := ((hc2 _ _ hz1).trans x1); have hb2' := hb1'.trans (hb2.mono hb1'.size); have HT3 := hidIt (HT2.out.below hb2); clear hc2) | (go_at_call 97; refine (child_any b _ T _ HT3.out).mono ?_; rintro r w' ⟨rfl, rfl⟩; rw [HCV.out]))
            go_ret
            exact ⟨ret_int HW.out.symm, hb2'⟩
          | false =>
            have HW : Hid (faultL T 5 t a v s = 0) := by show _ = _; rw [HV.out]; simp [onObj]
            go_enter Tryz.func76, Tryz.ntmps76
            go_wp2_with (first | (go_at_call 69; refine HL.out.mono ?_; rintro r w1 ⟨rfl, rfl⟩) | (go_at_call 109; refine HTX.out.mono ?_; rintro r w1 ⟨rfl, hb1, hc1⟩; rw [HXV.out]; have x0 : w1.cell? ⟨w.heap.size, 0, none⟩ = some (.int .u8 5) := (by rw [hc1 _ _ (by simp)]; simp [go_sem]); have x1 : w1.cell? ⟨w.heap.size, 1, none⟩ = some (.int .u8 (t : Int)) := (by rw [hc1 _ _ (by simp)]; simp [go_sem]); have x2 : w1.cell? ⟨w.heap.size, 2, none⟩ = some (.int .u8 (a : Int)) := (by rw [hc1 _ _ (by simp)]; simp [go_sem]); have x3 : w1.cell? ⟨w.heap.size, 3, none⟩ = some (.int .i32 v) := (by rw [hc1 _ _ (by simp)]; simp [go_sem]); have x4 : w1.cell? ⟨w.heap.size, 4, none⟩ = some (.int .i32 s) := (by rw [hc1 _ _ (by simp)]; simp [go_sem]); have hb1' := hbx.trans (hb1.mono (by simp)); have hz1 : w.heap.size < w1.heap.size := (by have := hb1.size; simp at this; omega); have HT2 := hidIt (HT1.out.below hb1); clear hc1) | (go_at_call 110; refine (onObject_any _ _).mono ?_; rintro r w' ⟨rfl, rfl⟩; rw [show onObj 5 = false from rfl]) | (go_at_call 111; refine (stray_r ⟨5, (t : Int), (a : Int), v, s⟩ _).mono ?_; rintro r w2 ⟨rfl, hb2, hc2⟩; rw [HSV.out]; have y0 : w2.cell? ⟨w.heap.size, 0, none⟩ = some (.int .u8 5) := ((hc2 _ _ hz1).trans x0); have y1 : w2.cell? ⟨w.heap.size, 1, none⟩ = some (.int .u8 (t : Int)) := ((hc2 _ _ hz1).trans x1); have hb2' := hb1'.trans (hb2.mono hb1'.size); have HT3 := hidIt (HT2.out.below hb2); clear hc2) | (go_at_call 97; refine (child_any b _ T _ HT3.out).mono ?_; rintro r w' ⟨rfl, rfl⟩; rw [HCV.out]))
            go_ret
            exact ⟨ret_int HW.out.symm, hb2'⟩
      · cases st with
        | true =>
          have HW : Hid (faultL T 6 t a v s = 7) := by show _ = _; rw [HV.out]; simp [onObj]
          go_enter Tryz.func76, Tryz.ntmps76
          go_wp2_with (first | (go_at_call 69; refine HL.out.mono ?_; rintro r w1 ⟨rfl, rfl⟩) | (go_at_call 109; refine HTX.out.mono ?_; rintro r w1 ⟨rfl, hb1, hc1⟩; rw [HXV.out]; have x0 : w1.cell? ⟨w.heap.size, 0, none⟩ = some (.int .u8 6) := (by rw [hc1 _ _ (by simp)]; simp [go_sem]); have x1 : w1.cell? ⟨w.heap.size, 1, none⟩ = some (.int .u8 (t : Int)) := (by rw [hc1 _ _ (by simp)]; simp [go_sem]); have x2 : w1.cell? ⟨w.heap.size, 2, none⟩ = some (.int .u8 (a : Int)) := (by rw [hc1 _ _ (by simp)]; simp [go_sem]); have x3 : w1.cell? ⟨w.heap.size, 3, none⟩ = some (.int .i32 v) := (by rw [hc1 _ _ (by simp)]; simp [go_sem]); have x4 : w1.cell? ⟨w.heap.size, 4, none⟩ = some (.int .i32 s) := (by rw [hc1 _ _ (by simp)]; simp [go_sem]); have hb1' := hbx.trans (hb1.mono (by simp)); have hz1 : w.heap.size < w1.heap.size := (by have := hb1.size; simp at this; omega); have HT2 := hidIt (HT1.out.below hb1); clear hc1) | (go_at_call 110; refine (onObject_any _ _).mono ?_; rintro r w' ⟨rfl, rfl⟩; rw [show onObj 6 = false from rfl]) | (go_at_call 111; refine (stray_r ⟨6, (t : Int), (a : Int), v, s⟩ _).mono ?_; rintro r w2 ⟨rfl, hb2, hc2⟩; rw [HSV.out]; have y0 : w2.cell? ⟨w.heap.size, 0, none⟩ = some (.int .u8 6) := ((hc2 _ _ hz1).trans x0); have y1 : w2.cell? ⟨w.heap.size, 1, none⟩ = some (.int .u8 (t : Int)) := ((hc2 _ _ hz1).trans x1); have hb2' := hb1'.trans (hb2.mono hb1'.size); have HT3 := hidIt (HT2.out.below hb2); clear hc2))
          go_ret
          exact ⟨ret_int HW.out.symm, hb2'⟩
        | false =>
          have HW : Hid (faultL T 6 t a v s = 0) := by show _ = _; rw [HV.out]; simp [onObj]
          go_enter Tryz.func76, Tryz.ntmps76
          go_wp2_with (first | (go_at_call 69; refine HL.out.mono ?_; rintro r w1 ⟨rfl, rfl⟩) | (go_at_call 109; refine HTX.out.mono ?_; rintro r w1 ⟨rfl, hb1, hc1⟩; rw [HXV.out]; have x0 : w1.cell? ⟨w.heap.size, 0, none⟩ = some (.int .u8 6) := (by rw [hc1 _ _ (by simp)]; simp [go_sem]); have x1 : w1.cell? ⟨w.heap.size, 1, none⟩ = some (.int .u8 (t : Int)) := (by rw [hc1 _ _ (by simp)]; simp [go_sem]); have x2 : w1.cell? ⟨w.heap.size, 2, none⟩ = some (.int .u8 (a : Int)) := (by rw [hc1 _ _ (by simp)]; simp [go_sem]); have x3 : w1.cell? ⟨w.heap.size, 3, none⟩ = some (.int .i32 v) := (by rw [hc1 _ _ (by simp)]; simp [go_sem]); have x4 : w1.cell? ⟨w.heap.size, 4, none⟩ = some (.int .i32 s) := (by rw [hc1 _ _ (by simp)]; simp [go_sem]); have hb1' := hbx.trans (hb1.mono (by simp)); have hz1 : w.heap.size < w1.heap.size := (by have := hb1.size; simp at this; omega); have HT2 := hidIt (HT1.out.below hb1); clear hc1) | (go_at_call 110; refine (onObject_any _ _).mono ?_; rintro r w' ⟨rfl, rfl⟩; rw [show onObj 6 = false from rfl]) | (go_at_call 111; refine (stray_r ⟨6, (t : Int), (a : Int), v, s⟩ _).mono ?_; rintro r w2 ⟨rfl, hb2, hc2⟩; rw [HSV.out]; have y0 : w2.cell? ⟨w.heap.size, 0, none⟩ = some (.int .u8 6) := ((hc2 _ _ hz1).trans x0); have y1 : w2.cell? ⟨w.heap.size, 1, none⟩ = some (.int .u8 (t : Int)) := ((hc2 _ _ hz1).trans x1); have hb2' := hb1'.trans (hb2.mono hb1'.size); have HT3 := hidIt (HT2.out.below hb2); clear hc2))
          go_ret
          exact ⟨ret_int HW.out.symm, hb2'⟩

end Go.Proofs.YtfdalbmopaemgabGreatDoor
