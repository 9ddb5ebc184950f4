import Derived.Test.YtfdalbmopaemgabGreatDoorR5
namespace Go.Proofs.YtfdalbmopaemgabGreatDoor
open Go.RowKit

theorem countL_take (es : List Ev) (k : Nat) (h : k < es.length) : countL (es.take (k + 1)) = countL (es.take k) + (if es[k].k == 1 then 1 else 0) := by
  unfold countL
  rw [List.take_succ_eq_append_getElem h, List.filter_append, List.length_append]
  congr 1
  cases hq : (es[k].k == 1) <;> simp [List.filter, hq]

theorem countL_le (es : List Ev) : countL es ≤ es.length := List.length_filter_le ..

set_option maxRecDepth 100000 in
set_option maxHeartbeats 1000000 in
theorem refCount (v : Value) (es : List Ev) (w : World) (hs : SlEv w v es) (hm : es.length ≤ 1048576) :
    Calls Tryz.prog 60 #[v] w fun r w' => r = .returned (.int .i64 (countL es)) ∧ w' = w := by
  obtain ⟨a, c, rfl⟩ := slice_form hs
  have HS := hidIt hs
  clear hs
  go_enter Tryz.func60, Tryz.ntmps60
  go_wp2_with fail
  go_loop [3, 4] (fun n i => ∃ k m : Nat, k ≤ es.length ∧ i = .int .i64 k ∧ n = .int .i64 m ∧ m ≤ k ∧ Hid (countL (es.take k) = m)) (fun _ i => es.length - (intOf i).toNat)
  case atStart => exact ⟨0, 0, by omega, rfl, rfl, by omega, rfl⟩
  case round =>
    obtain ⟨k, m, hk, rfl, rfl, hmk, HC⟩ := hrel
    by_cases hlt : k < es.length
    · have hlt' : (k : Int) < (es.length : Int) := by omega
      have hk0 : (0 : Int) ≤ (k : Int) := by omega
      obtain ⟨b, off, rfl, hbw, g0, g1, g2, g3, g4⟩ := HS.out.at_ k hlt
      have HT := hidIt (countL_take es k hlt)
      obtain ⟨ev, hev⟩ : ∃ ev, es[k] = ev := ⟨_, rfl⟩
      rw [hev] at g0 g1 g2 g3 g4 HT
      clear hev
      cases h1 : (ev.k == 1) with
      | false =>
        have HN : Hid (countL (es.take (k + 1)) = m) := by show _ = _; rw [HT.out, h1, HC.out]; rfl
        go_wp2_with fail
        go_round
        case rel => exact ⟨k + 1, m, by omega, by go_num, rfl, by omega, HN⟩
        case measure => simp [intOf]; omega
      | true =>
        have HN : Hid (countL (es.take (k + 1)) = m + 1) := by show _ = _; rw [HT.out, h1, HC.out]; rfl
        go_wp2_with fail
        go_round
        case rel => exact ⟨k + 1, m + 1, by omega, by go_num, by go_num, by omega, HN⟩
        case measure => simp [intOf]; omega
    · have hge : ¬ (k : Int) < (es.length : Int) := by omega
      have hke : k = es.length := by omega
      subst hke
      have HN : Hid (countL es = m) := by show _ = _; rw [← HC.out, List.take_length]
      go_wp2_with fail
      go_ret
      exact ⟨ret_int (by rw [HN.out]), rfl⟩

theorem ret_u8 {a b : Int} (h : a = b) : Ending.returned (.int .u8 a) = .returned (.int .u8 b) := by rw [h]

set_option maxRecDepth 100000 in
set_option maxHeartbeats 1000000 in
theorem refParent (v : Value) (es : List Ev) (t : Int) (w : World) (hs : SlEv w v es) (hm : es.length ≤ 1048576) :
    Calls Tryz.prog 83 #[v, .int .u8 t] w fun r w' => r = .returned (.int .u8 (parentL es t)) ∧ w' = w := by
  obtain ⟨a, c, rfl⟩ := slice_form hs
  have HS := hidIt hs
  have HC := hidIt (refBegun _ es t w hs hm)
  clear hs
  cases hb : begunN t es with
  | none =>
    have HP : Hid (parentL es t = 0) := by show _ = _; unfold parentL; rw [hb]
    have HB : Hid (begunI es t = -1) := by show _ = _; unfold begunI; rw [hb]
    clear hb
    go_enter Tryz.func83, Tryz.ntmps83
    go_wp2_with fail
    refine HC.out.mono ?_
    rintro r w1 ⟨rfl, rfl⟩
    rw [HB.out]
    go_wp2_with fail
    go_ret
    exact ⟨ret_u8 HP.out.symm, rfl⟩
  | some i =>
    obtain ⟨hi, _⟩ := begunN_lt t es i hb
    obtain ⟨b, off, rfl, hbw, g0, g1, g2, g3, g4⟩ := HS.out.at_ i hi
    obtain ⟨ev, hev⟩ : ∃ ev, es[i] = ev := ⟨_, rfl⟩
    have HP : Hid (parentL es t = ev.a) := by show _ = _; unfold parentL; rw [hb]; simp [hi, hev]
    have HB : Hid (begunI es t = (i : Int)) := by show _ = _; unfold begunI; rw [hb]
    rw [hev] at g0 g1 g2 g3 g4
    clear hb hev
    have hi' : (i : Int) < (es.length : Int) := by omega
    have hi0 : (0 : Int) ≤ (i : Int) := by omega
    have hi1 : ¬ (i : Int) < 0 := by omega
    go_enter Tryz.func83, Tryz.ntmps83
    go_wp2_with fail
    refine HC.out.mono ?_
    rintro r w1 ⟨rfl, rfl⟩
    rw [HB.out]
    go_wp2_with fail
    go_ret
    exact ⟨ret_u8 HP.out.symm, rfl⟩

set_option maxRecDepth 100000 in
set_option maxHeartbeats 1000000 in
theorem refWithin (v : Value) (es : List Ev) (t a : Int) (w : World) (hs : SlEv w v es) (hm : es.length ≤ 1048576) :
    Calls Tryz.prog 85 #[v, .int .u8 t, .int .u8 a] w fun r w' => r = .returned (.bool (withinG es a 16 t)) ∧ w' = w := by
  have HS := hidIt hs
  obtain ⟨ad, c, rfl⟩ := slice_form hs
  clear hs
  go_enter Tryz.func85, Tryz.ntmps85
  go_wp2_with fail
  go_loop [1, 7] (fun tv n => ∃ (k : Nat) (t' : Int), k ≤ 16 ∧ n = .int .i64 k ∧ tv = .int .u8 t' ∧ Hid (withinG es a 16 t = withinG es a (16 - k) t')) (fun _ n => 16 - (intOf n).toNat)
  case atStart => exact ⟨0, t, by omega, rfl, rfl, rfl⟩
  case round =>
    obtain ⟨k, t', hk, rfl, rfl, HW⟩ := hrel
    by_cases hlt : k < 16
    · have hlt' : (k : Int) ≤ 15 := by omega
      obtain ⟨m, hm'⟩ : ∃ m, 16 - k = m + 1 := ⟨15 - k, by omega⟩
      have HM : Hid (16 - (k + 1) = m) := by show _ = _; omega
      rw [hm'] at HW
      clear hm'
      cases h1 : (t' == a) with
      | true =>
        have h1' : t' = a := by simpa using h1
        have HF : Hid (withinG es a 16 t = true) := by show _ = _; rw [HW.out, withinG, if_pos h1']
        have h1n : (t' != a) = false := by simp [h1']
        clear h1'
        go_wp2_with fail
        go_ret
        exact ⟨ret_bool (by rw [HF.out]), rfl⟩
      | false =>
        have h1' : t' ≠ a := by simpa using h1
        have h1n : (t' != a) = true := by simp [h1']
        cases h2 : (t' == 0) with
        | true =>
          have h2' : t' = 0 := by simpa using h2
          have HF : Hid (withinG es a 16 t = false) := by show _ = _; rw [HW.out, withinG, if_neg h1', if_pos h2']
          clear h1' h2'
          go_wp2_with fail
          go_ret
          exact ⟨ret_bool HF.out.symm, rfl⟩
        | false =>
          have h2' : t' ≠ 0 := by simpa using h2
          have HF : Hid (withinG es a 16 t = withinG es a m (parentL es t')) := by show _ = _; rw [HW.out, withinG, if_neg h1', if_neg h2']
          clear h1' h2'
          go_wp2_with fail
          refine (refParent _ es t' w HS.out hm).mono ?_
          rintro r w1 ⟨rfl, rfl⟩
          go_wp2_with fail
          go_round
          case rel => exact ⟨k + 1, parentL es t', by omega, by go_num, rfl, by show _ = _; rw [HM.out]; exact HF.out⟩
          case measure => simp [intOf]; omega
    · have hke : k = 16 := by omega
      subst hke
      have HF : Hid (withinG es a 16 t = (t' == a)) := HW
      go_wp2_with fail
      go_ret
      exact ⟨ret_bool HF.out.symm, rfl⟩

set_option maxRecDepth 100000 in
set_option maxHeartbeats 1000000 in
theorem refCommitted (v : Value) (es : List Ev) (t : Int) (w : World) (hs : SlEv w v es) (hm : es.length ≤ 1048576) :
    Calls Tryz.prog 84 #[v, .int .u8 t] w fun r w' => r = .returned (.bool (es.any (isC t))) ∧ w' = w := by
  obtain ⟨a, c, rfl⟩ := slice_form hs
  have HS := hidIt hs
  clear hs
  go_enter Tryz.func84, Tryz.ntmps84
  go_wp2_with fail
  go_loop [5] (fun i => ∃ k : Nat, k ≤ es.length ∧ i = .int .i64 k ∧ Hid (∀ (i : Nat) (hi : i < es.length), i < k → isC t es[i] = false)) (fun i => es.length - (intOf i).toNat)
  case atStart => exact ⟨0, by omega, rfl, fun i hi h => by omega⟩
  case round =>
    obtain ⟨k, hk, rfl, HB⟩ := hrel
    by_cases hlt : k < es.length
    · have hlt' : (k : Int) < (es.length : Int) := by omega
      have hk0 : (0 : Int) ≤ (k : Int) := by omega
      obtain ⟨b, off, rfl, hbw, g0, g1, g2, g3, g4⟩ := HS.out.at_ k hlt
      obtain ⟨ev, hev⟩ : ∃ ev, es[k] = ev := ⟨_, rfl⟩
      have HE := hidIt hev
      rw [hev] at g0 g1 g2 g3 g4
      clear hev
      cases h1 : (ev.k == 5) with
      | false =>
        have HN : Hid (isC t es[k] = false) := by show _ = _; rw [HE.out]; simp [isC, h1]
        go_wp2_with fail
        go_round
        case rel =>
          refine ⟨k + 1, by omega, by go_num, fun i hi h => ?_⟩
          by_cases e : i = k
          · subst e; exact HN.out
          · exact HB.out i hi (by omega)
        case measure => simp [intOf]; omega
      | true =>
        cases h2 : (ev.t == t) with
        | false =>
          have HN : Hid (isC t es[k] = false) := by show _ = _; rw [HE.out]; simp [isC, h2]
          go_wp2_with fail
          go_round
          case rel =>
            refine ⟨k + 1, by omega, by go_num, fun i hi h => ?_⟩
            by_cases e : i = k
            · subst e; exact HN.out
            · exact HB.out i hi (by omega)
          case measure => simp [intOf]; omega
        | true =>
          have HN : Hid (es.any (isC t) = true) := by
            show _ = _
            rw [List.any_eq_true]
            exact ⟨es[k], List.getElem_mem _, by rw [HE.out]; simp [isC, h1, h2]⟩
          go_wp2_with fail
          go_ret
          exact ⟨ret_bool HN.out.symm, rfl⟩
    · have hge : ¬ (k : Int) < (es.length : Int) := by omega
      have HN : Hid (es.any (isC t) = false) := by
        show _ = _
        rw [List.any_eq_false]
        intro e he
        obtain ⟨i, hi, rfl⟩ := List.getElem_of_mem he
        rw [HB.out i hi (by omega)]
        decide
      go_wp2_with fail
      go_ret
      exact ⟨ret_bool HN.out.symm, rfl⟩

end Go.Proofs.YtfdalbmopaemgabGreatDoor
