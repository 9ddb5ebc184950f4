import Derived.Test.YtfdalbmopaemgabZV4
namespace Go.Proofs.Ytfdalbmopaemgab
open Go.RowKit

/-! ### The object's methods -/
def ObPost (w : World) (b o : Nat) (x : Ob) (r : Ending) (w' : World) : Prop := r = .returned (.tuple #[]) ∧ ObAt w' b o x ∧ OnlyC w w' b o (o + 18)

set_option maxRecDepth 100000 in
set_option maxHeartbeats 1000000 in
theorem holdRead_any (b o t : Nat) (x : Ob) (w : World) (h : ObAt w b o x) (hf : ∀ o, w.frozen? ⟨b, o, none⟩ = false) (ht : t ≤ 15) (hr : x.rd < 65536) :
    Calls Try.prog 37 #[.pointer (some ⟨b, o, none⟩), .int .u8 (t : Int)] w (ObPost w b o ⟨x.rd ||| bitN t, x.wr, x.own⟩) := by
  have g0 := h.rd
  have HO := hidIt (orBit x.rd t hr)
  have HF := hidIt (h.setRd (x.rd ||| bitN t))
  have HC : Hid (OnlyC w (w.setCell ⟨b, o, none⟩ (.int .u16 ((x.rd ||| bitN t : Nat) : Int))) b o (o + 18)) := (OnlyC.refl _ _ _ _).set o (by omega) (by omega) _
  clear h
  go_enter Try.func37, Try.ntmps37
  go_region_with (go_at_call 55; refine (bit_any t _ (by omega)).mono ?_; rintro r w4 ⟨rfl, rfl⟩)
  all_goals (go_wp2_with fail; go_end0; rw [HO.out]; exact ⟨rfl, HF.out.drew, HC.out.drew⟩)

set_option maxRecDepth 100000 in
set_option maxHeartbeats 1000000 in
theorem write_any (b o t : Nat) (v : Int) (x : Ob) (w : World) (h : ObAt w b o x) (hf : ∀ o, w.frozen? ⟨b, o, none⟩ = false) (ht : t ≤ 15) (hr : x.wr < 65536) :
    Calls Try.prog 39 #[.pointer (some ⟨b, o, none⟩), .int .u8 (t : Int), .int .i32 v] w (ObPost w b o ⟨x.rd, x.wr ||| bitN t, upd x.own t v⟩) := by
  have g0 := h.wr
  have g1 := h.own t ht
  have h16 : (t : Int) < 16 := by omega
  have HO := hidIt (orBit x.wr t hr)
  have HF := hidIt ((h.setWr (x.wr ||| bitN t)).setOwn t ht v)
  have HC : Hid (OnlyC w ((w.setCell ⟨b, o + 1, none⟩ (.int .u16 ((x.wr ||| bitN t : Nat) : Int))).setCell ⟨b, o + 2 + t, none⟩ (.int .i32 v)) b o (o + 18)) := ((OnlyC.refl _ _ _ _).set (o + 1) (by omega) (by omega) _).set (o + 2 + t) (by omega) (by omega) _
  clear h
  go_enter Try.func39, Try.ntmps39
  go_wp2_with fail
  go_region_with (go_at_call 55; refine (bit_any t _ (by omega)).mono ?_; rintro r w4 ⟨rfl, rfl⟩)
  all_goals (go_wp2_with fail; go_end0; rw [HO.out]; exact ⟨rfl, HF.out.drew, HC.out.drew⟩)

set_option maxRecDepth 100000 in
set_option maxHeartbeats 1000000 in
theorem keepOnly_any (b o m : Nat) (x : Ob) (w : World) (h : ObAt w b o x) (hf : ∀ o, w.frozen? ⟨b, o, none⟩ = false) (hm : m < 65536) (hr : x.rd < 65536) (hw : x.wr < 65536) :
    Calls Try.prog 48 #[.pointer (some ⟨b, o, none⟩), .int .u16 (m : Int)] w (ObPost w b o (keepO x m)) := by
  have g0 := h.rd
  have g1 := h.wr
  have HO := hidIt (u16_and_nat x.rd m hr hm)
  have HO2 := hidIt (u16_and_nat x.wr m hw hm)
  have HF : Hid (ObAt ((w.setCell ⟨b, o, none⟩ (.int .u16 ((x.rd &&& m : Nat) : Int))).setCell ⟨b, o + 1, none⟩ (.int .u16 ((x.wr &&& m : Nat) : Int))) b o (keepO x m)) := (h.setRd (x.rd &&& m)).setWr (x.wr &&& m)
  have HC : Hid (OnlyC w ((w.setCell ⟨b, o, none⟩ (.int .u16 ((x.rd &&& m : Nat) : Int))).setCell ⟨b, o + 1, none⟩ (.int .u16 ((x.wr &&& m : Nat) : Int))) b o (o + 18)) := ((OnlyC.refl _ _ _ _).set o (by omega) (by omega) _).set (o + 1) (by omega) (by omega) _
  clear h
  go_enter Try.func48, Try.ntmps48
  go_wp2_with fail
  go_end0
  rw [HO.out, HO2.out]
  exact ⟨rfl, HF.out, HC.out⟩

set_option maxRecDepth 100000 in
set_option maxHeartbeats 1000000 in
theorem keepsOut_any (b o ln : Nat) (x : Ob) (wr : Bool) (w : World) (h : ObAt w b o x) (hm : ln < 65536) (hr : x.rd < 65536) (hw : x.wr < 65536) :
    Calls Try.prog 53 #[.pointer (some ⟨b, o, none⟩), .int .u16 (ln : Int), .bool wr] w fun r w' => r = .returned (.bool (outB (if wr then x.wr ||| x.rd else x.wr) ln)) ∧ w' = w := by
  have g0 := h.rd
  have g1 := h.wr
  have HO := hidIt (u16_or_nat x.wr x.rd hw hr)
  have HA := hidIt (u16_andNot_nat (x.wr ||| x.rd) ln (or16 hw hr) hm)
  have HB := hidIt (u16_andNot_nat x.wr ln hw hm)
  have HZ : Hid (∀ z : Nat, ((z : Int) != 0) = decide (z ≠ 0)) := fun z => by
    by_cases h : z = 0
    · subst h; rfl
    · rw [decide_eq_true h]; simp; omega
  clear h
  cases wr with
  | true =>
    go_enter Try.func53, Try.ntmps53
    go_wp2_with fail
    go_ret
    exact ⟨ret_bool (by rw [HO.out, HA.out, HZ.out]; rfl), rfl⟩
  | false =>
    go_enter Try.func53, Try.ntmps53
    go_wp2_with fail
    go_ret
    exact ⟨ret_bool (by rw [HB.out, HZ.out]; rfl), rfl⟩

set_option maxRecDepth 100000 in
set_option maxHeartbeats 2000000 in
theorem value_any (b o ln : Nat) (x : Ob) (w : World) (h : ObAt w b o x) (hm : ln < 65536) (hw : x.wr < 65536) :
    Calls Try.prog 54 #[.pointer (some ⟨b, o, none⟩), .int .u16 (ln : Int)] w fun r w' => r = .returned (.int .i32 (valD (x.wr &&& ln) x.own 15)) ∧ w' = w := by
  have g1 := h.wr
  have HA := hidIt (u16_and_nat x.wr ln hw hm)
  have HL : Hid (x.wr &&& ln < 65536) := Nat.lt_of_le_of_lt Nat.and_le_left hw
  have HH := hidIt h
  have g00 := h.own 0 (by omega)
  clear h
  go_enter Try.func54, Try.ntmps54
  go_wp2_with fail
  rw [HA.out]
  go_loop [6] (fun i => ∃ k : Nat, k ≤ 15 ∧ i = .int .u8 (k : Int) ∧ Hid (valD (x.wr &&& ln) x.own 15 = valD (x.wr &&& ln) x.own k)) (fun i => (intOf i).toNat)
  case atStart => exact ⟨15, by omega, rfl, rfl⟩
  case round =>
    obtain ⟨k, hk, rfl, HX⟩ := hrel
    by_cases hlt : 0 < k
    · have hlt' : (0 : Int) < (k : Int) := by omega
      have hlt2 : (k : Int) < 16 := by omega
      have hk0 : (0 : Int) ≤ (k : Int) := by omega
      have g2 := HH.out.own k (by omega)
      have HB := hidIt (bit_any k w (by omega))
      have HO := hidIt (andBit (x.wr &&& ln) k HL.out (by omega) (by omega))
      have HS : Hid (valD (x.wr &&& ln) x.own k = if (x.wr &&& ln).testBit k then x.own k else valD (x.wr &&& ln) x.own (k - 1)) := by
        show _ = _
        obtain ⟨j, rfl⟩ : ∃ j, k = j + 1 := ⟨k - 1, by omega⟩
        rw [valD]
        rfl
      cases hb : (x.wr &&& ln).testBit k with
      | true =>
        have HN : Hid (valD (x.wr &&& ln) x.own 15 = x.own k) := by show _ = _; rw [HX.out, HS.out, hb, if_pos rfl]
        rw [hb] at HO
        have e1 := HO.out
        go_wp2_with fail
        refine HB.out.mono ?_
        rintro r w1 ⟨rfl, rfl⟩
        go_wp2_with fail
        go_ret
        exact ⟨ret_i32 (by rw [HN.out]), rfl⟩
      | false =>
        have HN : Hid (valD (x.wr &&& ln) x.own 15 = valD (x.wr &&& ln) x.own (k - 1)) := by show _ = _; rw [HX.out, HS.out, hb, if_neg (by decide)]
        rw [hb] at HO
        have e1 := HO.out
        go_wp2_with fail
        refine HB.out.mono ?_
        rintro r w1 ⟨rfl, rfl⟩
        go_wp2_with fail
        go_round
        case rel => exact ⟨k - 1, by omega, by congr 1; go_num, HN⟩
        case measure => simp [intOf]; omega
    · have hk0 : k = 0 := by omega
      subst hk0
      have HN : Hid (valD (x.wr &&& ln) x.own 15 = x.own 0) := by show _ = _; rw [HX.out, valD]
      go_wp2_with fail
      go_ret
      exact ⟨ret_i32 (by rw [HN.out]), rfl⟩

end Go.Proofs.Ytfdalbmopaemgab
