import Derived.Test.YtfdalbmopaemgaaGreatDoorR3
import Derived.Test.YtfdalbmopaemgaaGreatDoorL6
namespace Go.Proofs.YtfdalbmopaemgaaGreatDoor
open Go.RowKit

theorem guessed_zero {l : List UInt8} {g : Ev} (h : Guessed l g) (hk : g.k = 0) : lineOk l = false := by
  unfold lineOk
  cases hp : parseLineL l with
  | none => rfl
  | some e =>
    have := (parseLineL_some hp).2.2.2
    rw [← h.hit e hp, hk] at this
    cases this

theorem guessed_ne {l : List UInt8} {g : Ev} (h : Guessed l g) (hk : lineL g ≠ l) : lineOk l = false := by
  unfold lineOk
  cases hp : parseLineL l with
  | none => rfl
  | some e =>
    have := (parseLineL_some hp).1
    rw [← h.hit e hp] at this
    exact absurd this.symm hk

theorem guessed_eq {l : List UInt8} {g : Ev} (h : Guessed l g) (hk : isKind g.k = true) (he : lineL g = l) : lineOk l = true ∧ lineEv l = g := by
  have hp := parseLineL_line g h.ok hk
  rw [he] at hp
  have hb := h.hit _ hp
  unfold lineOk lineEv
  rw [hp, ← hb]
  exact ⟨rfl, rfl⟩

theorem ext_line (s : ByteArray) (p q : Nat) (hpq : p ≤ q) (hq : q < s.size) (h10 : s[q] = 10) : (s.extract p (q + 1)).data.toList = (s.extract p q).data.toList ++ [10] := by
  have h1 := Lib.extract_data s p (q + 1)
  have h2 := Lib.extract_data s p q
  rw [h1, h2]
  have := sub_snoc s p q hpq hq
  unfold sub at this
  rw [this, h10]

theorem guess_q (s : ByteArray) (p q : Nat) (w : World) (hs : s.size ≤ 1048576) :
    Calls Tryz.prog 53 #[.string (s.extract p q)] w fun r w' => ∃ g, r = .returned (evV g) ∧ Below w.heap.size w w' ∧ Hid (Guessed (s.extract p q).data.toList g) := by
  refine (guess_any (s.extract p q) w (Nat.le_trans (extract_size s p q) hs)).mono ?_
  rintro r w' ⟨g, rfl, h1, h2⟩
  exact ⟨g, rfl, h1, h2⟩

theorem refLine_s (w0 : World) (e : Ev) (W : World) (he : e.Ok) (hk : isKind e.k = true) (hb : Below w0.heap.size w0 W) :
    Calls Tryz.prog 51 #[evV e] W fun r w' => ∃ l, r = .returned (.string ⟨l.toArray⟩) ∧ l.length ≤ 34 ∧ Below w0.heap.size w0 w' ∧ Hid (lineL e ++ [10] = l) ∧ Below W.heap.size W w' := by
  refine (refLine_any e W he hk).mono ?_
  rintro r w' ⟨rfl, h⟩
  exact ⟨_, rfl, by have := lineL_len e he; simp; omega, hb.trans (h.mono hb.size), rfl, h⟩

set_option maxRecDepth 100000 in
set_option maxHeartbeats 2000000 in
theorem refParse_any (s : ByteArray) (w : World) (hs : s.size ≤ 1048576) :
    Calls Tryz.prog 29 #[.string s] w (ParsePost w s.data.toList) := by
  have hsz : s.data.toList.length = s.size := by simp
  by_cases hl : 2100 < s.size
  · have hl' : (2100 : Int) < (s.size : Int) := by omega
    have hP : parseL s.data.toList = ([], 1, 0) := by unfold parseL; rw [if_pos (by omega)]
    have HP : Hid (parseL s.data.toList = ([], 1, 0)) := hP
    clear hP hsz
    go_enter Tryz.func29, Tryz.ntmps29
    go_wp2_with fail
    go_ret3
    exact ⟨.slice none 0 0, tup3 (by rw [HP.out]) (by rw [HP.out]), by rw [HP.out]; exact Own.nil _ _, Below.refl _ _⟩
  · have hl' : ¬ (2100 : Int) < (s.size : Int) := by omega
    have hP : parseL s.data.toList = parseG (s.size + 1) (s.data.toList.drop 0) [] := by unfold parseL; rw [if_neg (by omega), List.drop_zero, hsz]
    have HP : Hid (parseL s.data.toList = parseG (s.size + 1) (s.data.toList.drop 0) []) := hP
    clear hP hsz
    obtain ⟨i0, hi, hz0, hz1, hz2⟩ := info_parts Tryz.infoEv
    have HI := hidIt hi
    have HZ0 := hidIt hz0
    have HZ1 := hidIt hz1
    have HZ2 := hidIt hz2
    clear hi hz0 hz1 hz2
    go_enter Tryz.func29, Tryz.ntmps29
    go_wp2_with fail
    go_loopw [5, 6] (fun h st wr => ∃ (acc : List Ev) (p : Nat), p ≤ s.size ∧ st = .int .i64 p ∧ acc.length ≤ 60 ∧ Own wr w.heap.size h acc ∧ Below w.heap.size w wr ∧ Hid (parseL s.data.toList = parseG (s.size + 1) (s.data.toList.drop p) acc)) (fun _ st _ => s.size - (intOf st).toNat)
    case atStart => exact ⟨[], 0, by omega, rfl, by simp, Own.nil _ _, Below.refl _ _, HP⟩
    case round =>
      obtain ⟨acc, p, hp, rfl, hacc, hown, hnx, HQ⟩ := hrel
      obtain ⟨a, cap, rfl⟩ := hown.form
      by_cases hlt : p < s.size
      · have hlt' : (p : Int) < (s.size : Int) := by omega
        go_wp2_with fail
        go_loop [7] (fun v => ∃ q : Nat, p ≤ q ∧ q ≤ s.size ∧ Hid (∀ i (h : i < s.size), p ≤ i → i < q → s[i] ≠ 10) ∧ v = .int .i64 q) (fun v => s.size - (intOf v).toNat)
        case atStart => exact ⟨p, Nat.le_refl _, hp, fun i _ h1 h2 => by omega, rfl⟩
        case round =>
          obtain ⟨q, h1, h2, H3, rfl⟩ := hrel
          by_cases hlq : q < s.size
          · have hlq' : (q : Int) < (s.size : Int) := by omega
            cases hb : ((s[q].toNat : Int) != 10) with
            | true =>
              go_wp2_with fail
              go_round
              case rel =>
                refine ⟨q + 1, by omega, by omega, fun i hi h4 h5 => ?_, by go_num⟩
                by_cases e : i = q
                · subst e; exact (byte_bne _).1 hb
                · exact H3.out i hi h4 (by omega)
              case measure => simp [intOf]; omega
            | false =>
              have e10 : s[q] = 10 := by
                by_cases e : s[q] = 10
                · exact e
                · have := (byte_bne _).2 e
                  rw [hb] at this
                  cases this
              have hq := lineEnd_at s p q h1 h2 H3.out (Or.inr ⟨hlq, e10⟩)
              have HSS := hidIt (parse_step s p q acc hlt hq)
              have HEX := hidIt (ext_line s p q h1 hlq e10)
              have t0 : ((q : Int) == (s.size : Int)) = false := by simp; omega
              clear hq e10
              by_cases h60 : acc.length = 60
              · have t1 : ((acc.length : Int) == 60) = true := by simp; omega
                have HF : Hid (parseL s.data.toList = ([], 2, (acc.length : Int))) := by
                  show _ = _
                  rw [HQ.out, HSS.out.1 (Or.inr (by omega))]
                clear h60
                go_wp2_with fail
                go_ret3
                exact ⟨.slice none 0 0, tup3 (by rw [HF.out]) (by rw [HF.out]), by rw [HF.out]; exact Own.nil _ _, hnx⟩
              · have t1 : ((acc.length : Int) == 60) = false := by simp; omega
                have hacc2 : acc.length < 60 := by omega
                clear h60
                go_wp2_with fail
                refine (guess_q s p q _ hs).mono ?_
                rintro r w1 ⟨g, rfl, hb1, HG⟩
                have hw1 : w.heap.size ≤ w1.heap.size := Nat.le_trans hnx.size hb1.size
                have hbx : Below w.heap.size w (w1.alloc (.cells #[.int .u8 g.k, .int .u8 g.t, .int .u8 g.a, .int .i32 g.v, .int .i32 g.s] 41)) := (hnx.trans (hb1.mono hnx.size)).alloc hw1 _
                by_cases hk0 : g.k = 0
                · have t2 : (g.k == 0) = true := by simp [hk0]
                  have HF : Hid (parseL s.data.toList = ([], 2, (acc.length : Int))) := by
                    show _ = _
                    rw [HQ.out, HSS.out.2.1 hlq hacc2 (guessed_zero HG.out hk0)]
                  clear hk0
                  go_wp2_with fail
                  go_ret3
                  exact ⟨.slice none 0 0, tup3 (by rw [HF.out]) (by rw [HF.out]), by rw [HF.out]; exact Own.nil _ _, hbx⟩
                · have t2 : (g.k == 0) = false := by simp [hk0]
                  have hkd : isKind g.k = true := HG.out.kind.resolve_left hk0
                  have HKD := hidIt hkd
                  clear hk0 hkd
                  go_wp2_with fail
                  refine (refLine_s w g _ HG.out.ok HKD.out hbx).mono ?_
                  rintro r w2 ⟨tl, rfl, htl, hb2, HTL, hbL⟩
                  obtain ⟨sx, hsx⟩ : ∃ sx, s.extract p (q + 1) = sx := ⟨_, rfl⟩
                  have HSX := hidIt hsx
                  have hcL := bcells hbL
                  have g0 : w2.cell? ⟨w1.heap.size, 0, none⟩ = some (.int .u8 g.k) := by rw [hcL _ _ (by simp)]; simp [go_sem]
                  have g1 : w2.cell? ⟨w1.heap.size, 1, none⟩ = some (.int .u8 g.t) := by rw [hcL _ _ (by simp)]; simp [go_sem]
                  have g2 : w2.cell? ⟨w1.heap.size, 2, none⟩ = some (.int .u8 g.a) := by rw [hcL _ _ (by simp)]; simp [go_sem]
                  have g3 : w2.cell? ⟨w1.heap.size, 3, none⟩ = some (.int .i32 g.v) := by rw [hcL _ _ (by simp)]; simp [go_sem]
                  have g4 : w2.cell? ⟨w1.heap.size, 4, none⟩ = some (.int .i32 g.s) := by rw [hcL _ _ (by simp)]; simp [go_sem]
                  have hown2 := (World.ownsRow.alloc (hown.below hb1) (.cells #[.int .u8 g.k, .int .u8 g.t, .int .u8 g.a, .int .i32 g.v, .int .i32 g.s] 41))
                  have hown3 : Own w2 w.heap.size (.slice a acc.length cap) acc := Own.below hown2 hbL
                  have hw2 : w.heap.size ≤ w2.heap.size := hb2.size
                  clear hcL hown2
                  cases heq : (tl == sx.toList) with
                  | false =>
                    have HF : Hid (parseL s.data.toList = ([], 2, (acc.length : Int))) := by
                      show _ = _
                      rw [HQ.out, HSS.out.2.1 hlq hacc2 (guessed_ne HG.out (fun e => by
                        have : tl = sx.toList := by
                          rw [← HTL.out, e, ← HSX.out, ByteArray.toList_eq]
                          exact HEX.out.symm
                        rw [this] at heq
                        simp at heq))]
                    go_wp2_with fail
                    go_ret3
                    exact ⟨.slice none 0 0, tup3 (by rw [HF.out]) (by rw [HF.out]), by rw [HF.out]; exact Own.nil _ _, hb2⟩
                  | true =>
                    have hge := guessed_eq HG.out HKD.out (by
                      have h1 : tl = sx.toList := by simpa using heq
                      have h2 := HTL.out
                      rw [h1, ← HSX.out, ByteArray.toList_eq] at h2
                      have h3 := h2.trans HEX.out
                      exact List.append_cancel_right h3)
                    have HF : Hid (parseL s.data.toList = parseG (s.size + 1) (s.data.toList.drop (q + 1)) (acc ++ [g])) := by
                      show _ = _
                      rw [HQ.out, HSS.out.2.2 hlq hacc2 hge.1, hge.2]
                    clear hge
                    go_wp2_with (at_builtin; refine wpList_append_own _ rfl _ _ 31 rfl w.heap.size 41 i0 (.agg #[.int .u8 0, .int .u8 0, .int .u8 0, .int .i32 0, .int .i32 0]) 5 12 Tryz.underlying31 HI.out HZ0.out HZ1.out HZ2.out rfl (by decide) _ _ _ rfl (World.ownsRow.alloc hown3 _) ⟨w2.heap.size, 0, none⟩ 1 1 (evC g) rfl rfl ?c1 ?c2 ?c3 ?c4 ?c5 ?_)
                    case c1 => exact evC_new1 w2 _ g
                    case c2 => exact evC_one g
                    case c3 => unfold maxLen; omega
                    case c4 => omega
                    case c5 => simp; omega
                    · intro v' w3 hown' hgrow _
                      have hnx2 : Below w.heap.size w w3 := by
                        refine Below.grown (hb2.alloc hw2 _) hgrow (by simp; omega) (fun k hk => ?_)
                        exact (World.ownsRow.lt hown k hk).1
                      have hown4 : Own w3 w.heap.size v' (acc ++ [g]) := by
                        unfold Own
                        rw [evCells_append, List.length_append]
                        simpa [evCells] using hown'
                      clear hown' hgrow
                      go_wp2_with fail
                      go_roundw
                      case rel => exact ⟨acc ++ [g], q + 1, by omega, by go_num, by simp; omega, hown4, hnx2, HF⟩
                      case measure => simp [intOf]; omega
          · have hqe : q = s.size := by omega
            have t0 : ((q : Int) == (s.size : Int)) = true := by simp; omega
            have hlq' : ¬ (q : Int) < (s.size : Int) := by omega
            have hq := lineEnd_at s p q h1 h2 H3.out (Or.inl hqe)
            have HSS := hidIt (parse_step s p q acc hlt hq)
            have HF : Hid (parseL s.data.toList = ([], 2, (acc.length : Int))) := by
              show _ = _
              rw [HQ.out, HSS.out.1 (Or.inl (by omega))]
            clear hq hqe
            go_wp2_with fail
            go_ret3
            exact ⟨.slice none 0 0, tup3 (by rw [HF.out]) (by rw [HF.out]), by rw [HF.out]; exact Own.nil _ _, hnx⟩
      · have hge : ¬ (p : Int) < (s.size : Int) := by omega
        have HF : Hid (parseL s.data.toList = (acc, 0, 0)) := by
          show _ = _
          rw [HQ.out, List.drop_eq_nil_of_le (by simp; omega)]
          rfl
        go_wp2_with fail
        go_ret3
        exact ⟨.slice a acc.length cap, tup3 (by rw [HF.out]) (by rw [HF.out]), by rw [HF.out]; exact hown, hnx⟩

end Go.Proofs.YtfdalbmopaemgaaGreatDoor
