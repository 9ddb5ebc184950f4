import Derived.Test.YtfdalbmopaemgabGreatDoorR6
namespace Go.Proofs.YtfdalbmopaemgabGreatDoor
open Go.RowKit

theorem any_drop_at {p : Ev → Bool} (l : List Ev) (b k : Nat) (hb : b ≤ k) (hk : k < l.length) (h : p l[k] = true) : (l.drop b).any p = true := by
  rw [List.any_eq_true]
  refine ⟨l[k], ?_, h⟩
  have : (l.drop b)[k - b]'(by rw [List.length_drop]; omega) = l[k] := by
    rw [List.getElem_drop]
    congr 1
    omega
  rw [← this]
  exact List.getElem_mem _

theorem any_drop_none {p : Ev → Bool} (l : List Ev) (b : Nat) (h : ∀ (i : Nat) (hi : i < l.length), b ≤ i → p l[i] = false) : (l.drop b).any p = false := by
  rw [List.any_eq_false]
  intro e he
  obtain ⟨i, hi, rfl⟩ := List.getElem_of_mem he
  rw [List.getElem_drop, h _ _ (by omega)]
  decide

set_option maxRecDepth 100000 in
set_option maxHeartbeats 1000000 in
theorem refOpen (v : Value) (es : List Ev) (t : Int) (w : World) (hs : SlEv w v es) (hm : es.length ≤ 1048576) :
    Calls Tryz.prog 59 #[v, .int .u8 t] w fun r w' => r = .returned (.bool (openL es t)) ∧ w' = w := by
  obtain ⟨a, c, rfl⟩ := slice_form hs
  have HS := hidIt hs
  have HC := hidIt (refBegun _ es t w hs hm)
  have HD := hidIt (refCommitted _ es t w hs hm)
  clear hs
  cases hb : begunN t es with
  | none =>
    have HP : Hid (openL es t = false) := by show _ = _; unfold openL; rw [hb]
    have HB : Hid (begunI es t = -1) := by show _ = _; unfold begunI; rw [hb]
    clear hb
    go_enter Tryz.func59, Tryz.ntmps59
    go_wp2_with fail
    refine HC.out.mono ?_
    rintro r w1 ⟨rfl, rfl⟩
    rw [HB.out]
    go_wp2_with fail
    refine HD.out.mono ?_
    rintro r w1 ⟨rfl, rfl⟩
    go_wp2_with fail
    go_ret
    exact ⟨ret_bool HP.out.symm, rfl⟩
  | some b =>
    have HB : Hid (begunI es t = (b : Int)) := by show _ = _; unfold begunI; rw [hb]
    have hbl := (begunN_lt t es b hb).1
    have hb0 : ¬ (b : Int) < 0 := by omega
    cases hcm : es.any (isC t) with
    | true =>
      have HP : Hid (openL es t = false) := by show _ = _; unfold openL; rw [hb, hcm]; rfl
      have HCM := hidIt hcm
      clear hb hcm
      go_enter Tryz.func59, Tryz.ntmps59
      go_wp2_with fail
      refine HC.out.mono ?_
      rintro r w1 ⟨rfl, rfl⟩
      rw [HB.out]
      go_wp2_with fail
      refine HD.out.mono ?_
      rintro r w1 ⟨rfl, rfl⟩
      rw [HCM.out]
      go_wp2_with fail
      go_ret
      exact ⟨ret_bool HP.out.symm, rfl⟩
    | false =>
      have HP : Hid (openL es t = !(es.drop b).any (isX es t)) := by show _ = _; unfold openL; rw [hb, hcm]; rfl
      have HCM := hidIt hcm
      clear hb hcm
      go_enter Tryz.func59, Tryz.ntmps59
      go_wp2_with fail
      refine HC.out.mono ?_
      rintro r w1 ⟨rfl, rfl⟩
      rw [HB.out]
      go_wp2_with fail
      refine HD.out.mono ?_
      rintro r w1 ⟨rfl, rfl⟩
      rw [HCM.out]
      go_wp2_with fail
      go_loop [7] (fun i => ∃ k : Nat, b ≤ k ∧ k ≤ es.length ∧ i = .int .i64 k ∧ Hid (∀ (i : Nat) (hi : i < es.length), b ≤ i → i < k → isX es t es[i] = false)) (fun i => es.length - (intOf i).toNat)
      case atStart => exact ⟨b, by omega, by omega, rfl, fun i hi h1 h2 => by omega⟩
      case round =>
        obtain ⟨k, hbk, hk, rfl, HX⟩ := hrel
        by_cases hlt : k < es.length
        · have hlt' : (k : Int) < (es.length : Int) := by omega
          have hk0 : (0 : Int) ≤ (k : Int) := by omega
          obtain ⟨bb, off, rfl, hbw, g0, g1, g2, g3, g4⟩ := HS.out.at_ k hlt
          obtain ⟨ev, hev⟩ : ∃ ev, es[k] = ev := ⟨_, rfl⟩
          have HE := hidIt hev
          rw [hev] at g0 g1 g2 g3 g4
          clear hev
          cases h1 : (ev.k == 6) with
          | false =>
            have h1n : (ev.k != 6) = true := by simp [bne, h1]
            have HN : Hid (isX es t es[k] = false) := by show _ = _; rw [HE.out]; simp [isX, h1]
            go_wp2_with fail
            go_round
            case rel =>
              refine ⟨k + 1, by omega, by omega, by go_num, fun i hi h3 h => ?_⟩
              by_cases e : i = k
              · subst e; exact HN.out
              · exact HX.out i hi h3 (by omega)
            case measure => simp [intOf]; omega
          | true =>
            have h1n : (ev.k != 6) = false := by simp [bne, h1]
            have HW := hidIt (refWithin _ es t ev.t w1 HS.out hm)
            cases h2 : withinG es ev.t 16 t with
            | false =>
              have HW2 := hidIt h2
              have HN : Hid (isX es t es[k] = false) := by show _ = _; rw [HE.out]; simp [isX, h2]
              clear h2
              go_wp2_with fail
              refine HW.out.mono ?_
              rintro r w2 ⟨rfl, rfl⟩
              rw [HW2.out]
              go_wp2_with fail
              go_round
              case rel =>
                refine ⟨k + 1, by omega, by omega, by go_num, fun i hi h3 h => ?_⟩
                by_cases e : i = k
                · subst e; exact HN.out
                · exact HX.out i hi h3 (by omega)
              case measure => simp [intOf]; omega
            | true =>
              have HW2 := hidIt h2
              cases h3 : (ev.t == 0) with
              | true =>
                have h3n : (ev.t != 0) = false := by simp [bne, h3]
                have HN : Hid (isX es t es[k] = false) := by show _ = _; rw [HE.out]; simp [isX, h3n]
                clear h2
                go_wp2_with fail
                refine HW.out.mono ?_
                rintro r w2 ⟨rfl, rfl⟩
                rw [HW2.out]
                go_wp2_with fail
                go_round
                case rel =>
                  refine ⟨k + 1, by omega, by omega, by go_num, fun i hi h3 h => ?_⟩
                  by_cases e : i = k
                  · subst e; exact HN.out
                  · exact HX.out i hi h3 (by omega)
                case measure => simp [intOf]; omega
              | false =>
                have h3n : (ev.t != 0) = true := by simp [bne, h3]
                have HN : Hid (openL es t = false) := by
                  show _ = _
                  rw [HP.out, any_drop_at es b k hbk hlt (by rw [HE.out]; simp [isX, h1, h2, h3n])]
                  rfl
                clear h2
                go_wp2_with fail
                refine HW.out.mono ?_
                rintro r w2 ⟨rfl, rfl⟩
                rw [HW2.out]
                go_wp2_with fail
                go_ret
                exact ⟨ret_bool HN.out.symm, rfl⟩
        · have hge : ¬ (k : Int) < (es.length : Int) := by omega
          have HN : Hid (openL es t = true) := by
            show _ = _
            rw [HP.out, any_drop_none es b fun i hi h => HX.out i hi h (by omega)]
            rfl
          go_wp2_with fail
          go_ret
          exact ⟨ret_bool HN.out.symm, rfl⟩

def childL (h : List Ev) (t : Int) : Bool := (List.range 15).any fun i => openL h ((i + 1 : Nat) : Int) && parentL h ((i + 1 : Nat) : Int) == t

set_option maxRecDepth 100000 in
set_option maxHeartbeats 1000000 in
theorem refChild (v : Value) (es : List Ev) (t : Int) (w : World) (hs : SlEv w v es) (hm : es.length ≤ 1048576) :
    Calls Tryz.prog 67 #[v, .int .u8 t] w fun r w' => r = .returned (.bool (childL es t)) ∧ w' = w := by
  obtain ⟨a, c, rfl⟩ := slice_form hs
  have HS := hidIt hs
  clear hs
  go_enter Tryz.func67, Tryz.ntmps67
  go_wp2_with fail
  go_loop [5] (fun i => ∃ k : Nat, k ≤ 15 ∧ i = .int .u8 ((k + 1 : Nat) : Int) ∧ Hid (∀ (i : Nat), i < k → (openL es ((i + 1 : Nat) : Int) && parentL es ((i + 1 : Nat) : Int) == t) = false)) (fun i => 16 - (intOf i).toNat)
  case atStart => exact ⟨0, by omega, rfl, fun i h => by omega⟩
  case round =>
    obtain ⟨k, hk, rfl, HX⟩ := hrel
    by_cases hlt : k < 15
    · have hlt' : ((k + 1 : Nat) : Int) ≤ 15 := by omega
      have HO := hidIt (refOpen _ es ((k + 1 : Nat) : Int) w HS.out hm)
      have HPP := hidIt (refParent _ es ((k + 1 : Nat) : Int) w HS.out hm)
      cases h1 : openL es ((k + 1 : Nat) : Int) with
      | false =>
        have H1 := hidIt h1
        clear h1
        go_wp2_with fail
        refine HO.out.mono ?_
        rintro r w2 ⟨rfl, rfl⟩
        rw [H1.out]
        go_wp2_with fail
        refine HPP.out.mono ?_
        rintro r w2 ⟨rfl, rfl⟩
        go_wp2_with fail
        go_round
        case rel =>
          refine ⟨k + 1, by omega, by go_num, fun i h => ?_⟩
          by_cases e : i = k
          · subst e; rw [H1.out]; rfl
          · exact HX.out i (by omega)
        case measure => simp [intOf]; omega
      | true =>
        have H1 := hidIt h1
        obtain ⟨pp, hpp⟩ : ∃ pp, parentL es ((k + 1 : Nat) : Int) = pp := ⟨_, rfl⟩
        have H2 := hidIt hpp
        clear h1 hpp
        cases h3 : (pp == t) with
        | false =>
          go_wp2_with fail
          refine HO.out.mono ?_
          rintro r w2 ⟨rfl, rfl⟩
          rw [H1.out]
          go_wp2_with fail
          refine HPP.out.mono ?_
          rintro r w2 ⟨rfl, rfl⟩
          rw [H2.out]
          go_wp2_with fail
          go_round
          case rel =>
            refine ⟨k + 1, by omega, by go_num, fun i h => ?_⟩
            by_cases e : i = k
            · subst e; rw [H1.out, H2.out, h3]; rfl
            · exact HX.out i (by omega)
          case measure => simp [intOf]; omega
        | true =>
          have HN : Hid (childL es t = true) := by
            show _ = _
            unfold childL
            rw [List.any_eq_true]
            exact ⟨k, by simpa using hlt, by rw [H1.out, H2.out, h3]; rfl⟩
          go_wp2_with fail
          refine HO.out.mono ?_
          rintro r w2 ⟨rfl, rfl⟩
          rw [H1.out]
          go_wp2_with fail
          refine HPP.out.mono ?_
          rintro r w2 ⟨rfl, rfl⟩
          rw [H2.out]
          go_wp2_with fail
          go_ret
          exact ⟨ret_bool HN.out.symm, rfl⟩
    · have hge : ¬ ((k + 1 : Nat) : Int) ≤ 15 := by omega
      have HN : Hid (childL es t = false) := by
        show _ = _
        unfold childL
        rw [List.any_eq_false]
        intro i hi
        rw [HX.out i (by simp at hi; omega)]
        decide
      go_wp2_with fail
      go_ret
      exact ⟨ret_bool HN.out.symm, rfl⟩

end Go.Proofs.YtfdalbmopaemgabGreatDoor
