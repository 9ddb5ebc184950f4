import Derived.Test.YtfdalbmopaemgabGreatDoorZR3
import Derived.Test.YtfdalbmopaemgabGreatDoorL6
import Derived.Test.YtfdalbmopaemgabGreatDoorZA1
namespace Go.Proofs.YtfdalbmopaemgabGreatDoor
open Go.RowKit

theorem guessed_zero {l : List UInt8} {g : Ev} (h : Guessed l g) (hk : g.k = 0) : lineOk l = false := by
  unfold lineOk
  cases hp : parseLineL l with
  | none => rfl
  | some e =>
    have := (parseLineL_some hp).2.2.2
    rw [← h.hit e hp, hk] at this
    cases this

theorem guessed_ne {l : List UInt8} {g : Ev} (h : Guessed l g) (hk : lineL g ≠ l) : lineOk l = false := by
  unfold lineOk
  cases hp : parseLineL l with
  | none => rfl
  | some e =>
    have := (parseLineL_some hp).1
    rw [← h.hit e hp] at this
    exact absurd this.symm hk

theorem guessed_eq {l : List UInt8} {g : Ev} (h : Guessed l g) (hk : isKind g.k = true) (he : lineL g = l) : lineOk l = true ∧ lineEv l = g := by
  have hp := parseLineL_line g h.ok hk
  rw [he] at hp
  have hb := h.hit _ hp
  unfold lineOk lineEv
  rw [hp, ← hb]
  exact ⟨rfl, rfl⟩

theorem ext_line (s : ByteArray) (p q : Nat) (hpq : p ≤ q) (hq : q < s.size) (h10 : s[q] = 10) : (s.extract p (q + 1)).data.toList = (s.extract p q).data.toList ++ [10] := by
  have h1 := Lib.extract_data s p (q + 1)
  have h2 := Lib.extract_data s p q
  rw [h1, h2]
  have := sub_snoc s p q hpq hq
  unfold sub at this
  rw [this, h10]

theorem guess_q (s : ByteArray) (p q : Nat) (w : World) (hs : s.size ≤ 1048576) :
    Calls Tryz.prog 48 #[.string (s.extract p q)] w fun r w' => ∃ g, r = .returned (evV g) ∧ Below w.heap.size w w' ∧ Hid (Guessed (s.extract p q).data.toList g) := by
  refine (guess_any (s.extract p q) w (Nat.le_trans (extract_size s p q) hs)).mono ?_
  rintro r w' ⟨g, rfl, h1, h2⟩
  exact ⟨g, rfl, h1, h2⟩

theorem refLine_s (w0 : World) (e : Ev) (W : World) (he : e.Ok) (hk : isKind e.k = true) (hb : Below w0.heap.size w0 W) :
    Calls Tryz.prog 46 #[evV e] W fun r w' => ∃ l, r = .returned (.string ⟨l.toArray⟩) ∧ l.length ≤ 34 ∧ Below w0.heap.size w0 w' ∧ Hid (lineL e ++ [10] = l) ∧ Below W.heap.size W w' := by
  refine (refLine_any e W he hk).mono ?_
  rintro r w' ⟨rfl, h⟩
  exact ⟨_, rfl, by have := lineL_len e he; simp; omega, hb.trans (h.mono hb.size), rfl, h⟩

set_option maxRecDepth 100000 in
set_option maxHeartbeats 2000000 in
theorem refParse_any (s : ByteArray) (w : World) (hs : s.size ≤ 1048576) :
    Calls Tryz.prog 24 #[.string s] w (ParsePost w s.data.toList) := by
  have hsz : s.data.toList.length = s.size := by simp
  by_cases hl : 2100 < s.size
  · have hl' : (2100 : Int) < (s.size : Int) := by omega
    have hP : parseL s.data.toList = ([], 1, 0) := by unfold parseL; rw [if_pos (by omega)]
    have HP : Hid (parseL s.data.toList = ([], 1, 0)) := hP
    clear hP hsz
    go_enter Tryz.func24, Tryz.ntmps24
    go_wp2_with fail
    go_ret3
    exact ⟨.slice none 0 0, tup3 (by rw [HP.out]) (by rw [HP.out]), by rw [HP.out]; exact Own.nil _ _, Below.refl _ _⟩
  · have hl' : ¬ (2100 : Int) < (s.size : Int) := by omega
    have hP : parseL s.data.toList = parseG (s.size + 1) (s.data.toList.drop 0) [] := by unfold parseL; rw [if_neg (by omega), List.drop_zero, hsz]
    have HP : Hid (parseL s.data.toList = parseG (s.size + 1) (s.data.toList.drop 0) []) := hP
    clear hP hsz
    obtain ⟨i0, hi, hz0, hz1, hz2⟩ := info_parts Tryz.infoEv
    have HI := hidIt hi
    have HZ0 := hidIt hz0
    have HZ1 := hidIt hz1
    have HZ2 := hidIt hz2
    clear hi hz0 hz1 hz2
    go_enter Tryz.func24, Tryz.ntmps24
    go_wp2_with fail
    go_loopw [5, 6] (fun h st wr => ∃ (acc : List Ev) (p : Nat), p ≤ s.size ∧ st = .int .i64 p ∧ acc.length ≤ 60 ∧ Own wr w.heap.size h acc ∧ Below w.heap.size w wr ∧ Hid (parseL s.data.toList = parseG (s.size + 1) (s.data.toList.drop p) acc)) (fun _ st _ => s.size - (intOf st).toNat)
    case atStart => exact ⟨[], 0, by omega, rfl, by simp, Own.nil _ _, Below.refl _ _, HP⟩
    case round =>
      obtain ⟨acc, p, hp, rfl, hacc, hown, hnx, HQ⟩ := hrel
      obtain ⟨a, cap, rfl⟩ := hown.form
      by_cases hlt : p < s.size
      · have hlt' : (p : Int) < (s.size : Int) := by omega
        go_wp2_with fail
        go_loop [7] (fun v => ∃ q : Nat, p ≤ q ∧ q ≤ s.size ∧ Hid (∀ i (h : i < s.size), p ≤ i → i < q → s[i] ≠ 10) ∧ v = .int .i64 q) (fun v => s.size - (intOf v).toNat)
        case atStart => exact ⟨p, Nat.le_refl _, hp, fun i _ h1 h2 => by omega, rfl⟩
        case round =>
          obtain ⟨q, h1, h2, H3, rfl⟩ := hrel
          by_cases hlq : q < s.size
          · have hlq' : (q : Int) < (s.size : Int) := by omega
            cases hb : ((s[q].toNat : Int) != 10) with
            | true =>
              go_wp2_with fail
              go_round
              case rel =>
                refine ⟨q + 1, by omega, by omega, fun i hi h4 h5 => ?_, by go_num⟩
                by_cases e : i = q
                · subst e; exact (byte_bne _).1 hb
                · exact H3.out i hi h4 (by omega)
              case measure => simp [intOf]; omega
            | false =>
              have e10 : s[q] = 10 := by
                by_cases e : s[q] = 10
                · exact e
                · have := (byte_bne _).2 e
                  rw [hb] at this
                  cases this
              have hq := lineEnd_at s p q h1 h2 H3.out (Or.inr ⟨hlq, e10⟩)
              have HSS := hidIt (parse_step s p q acc hlt hq)
              have HEX := hidIt (ext_line s p q h1 hlq e10)
              have t0 : ((q : Int) == (s.size : Int)) = false := by simp; omega
              clear hq e10
              by_cases h60 : acc.length = 60
              · have t1 : ((acc.length : Int) == 60) = true := by simp; omega
                have HF : Hid (parseL s.data.toList = ([], 2, (acc.length : Int))) := by
                  show _ = _
                  rw [HQ.out, HSS.out.1 (Or.inr (by omega))]
                clear h60
                go_wp2_with fail
                go_ret3
                exact ⟨.slice none 0 0, tup3 (by rw [HF.out]) (by rw [HF.out]), by rw [HF.out]; exact Own.nil _ _, hnx⟩
              · have t1 : ((acc.length : Int) == 60) = false := by simp; omega
                have hacc2 : acc.length < 60 := by omega
                clear h60
                go_wp2_with fail
                refine (guess_q s p q _ hs).mono ?_
                rintro r w1 ⟨g, rfl, hb1, HG⟩
                have hw1 : w.heap.size ≤ w1.heap.size := Nat.le_trans hnx.size hb1.size
                have hbx : Below w.heap.size w (w1.alloc (.cells #[.int .u8 g.k, .int .u8 g.t, .int .u8 g.a, .int .i32 g.v, .int .i32 g.s] 45)) := (hnx.trans (hb1.mono hnx.size)).alloc hw1 _
                by_cases hk0 : g.k = 0
                · have t2 : (g.k == 0) = true := by simp [hk0]
                  have HF : Hid (parseL s.data.toList = ([], 2, (acc.length : Int))) := by
                    show _ = _
                    rw [HQ.out, HSS.out.2.1 hlq hacc2 (guessed_zero HG.out hk0)]
                  clear hk0
                  go_wp2_with fail
                  go_ret3
                  exact ⟨.slice none 0 0, tup3 (by rw [HF.out]) (by rw [HF.out]), by rw [HF.out]; exact Own.nil _ _, hbx⟩
                · have t2 : (g.k == 0) = false := by simp [hk0]
                  have hkd : isKind g.k = true := HG.out.kind.resolve_left hk0
                  have HKD := hidIt hkd
                  clear hk0 hkd
                  go_wp2_with fail
                  refine (refLine_s w g _ HG.out.ok HKD.out hbx).mono ?_
                  rintro r w2 ⟨tl, rfl, htl, hb2, HTL, hbL⟩
                  obtain ⟨sx, hsx⟩ : ∃ sx, s.extract p (q + 1) = sx := ⟨_, rfl⟩
                  have HSX := hidIt hsx
                  have hcL := bcells hbL
                  have g0 : w2.cell? ⟨w1.heap.size, 0, none⟩ = some (.int .u8 g.k) := by rw [hcL _ _ (by simp)]; simp [go_sem]
                  have g1 : w2.cell? ⟨w1.heap.size, 1, none⟩ = some (.int .u8 g.t) := by rw [hcL _ _ (by simp)]; simp [go_sem]
                  have g2 : w2.cell? ⟨w1.heap.size, 2, none⟩ = some (.int .u8 g.a) := by rw [hcL _ _ (by simp)]; simp [go_sem]
                  have g3 : w2.cell? ⟨w1.heap.size, 3, none⟩ = some (.int .i32 g.v) := by rw [hcL _ _ (by simp)]; simp [go_sem]
                  have g4 : w2.cell? ⟨w1.heap.size, 4, none⟩ = some (.int .i32 g.s) := by rw [hcL _ _ (by simp)]; simp [go_sem]
                  have hown2 := (World.ownsRow.alloc (hown.below hb1) (.cells #[.int .u8 g.k, .int .u8 g.t, .int .u8 g.a, .int .i32 g.v, .int .i32 g.s] 45))
                  have hown3 : Own w2 w.heap.size (.slice a acc.length cap) acc := Own.below hown2 hbL
                  have hw2 : w.heap.size ≤ w2.heap.size := hb2.size
                  clear hcL hown2
                  cases heq : (tl == sx.toList) with
                  | false =>
                    have HF : Hid (parseL s.data.toList = ([], 2, (acc.length : Int))) := by
                      show _ = _
                      rw [HQ.out, HSS.out.2.1 hlq hacc2 (guessed_ne HG.out (fun e => by
                        have : tl = sx.toList := by
                          rw [← HTL.out, e, ← HSX.out, ByteArray.toList_eq]
                          exact HEX.out.symm
                        rw [this] at heq
                        simp at heq))]
                    go_wp2_with fail
                    go_ret3
                    exact ⟨.slice none 0 0, tup3 (by rw [HF.out]) (by rw [HF.out]), by rw [HF.out]; exact Own.nil _ _, hb2⟩
                  | true =>
                    have hge := guessed_eq HG.out HKD.out (by
                      have h1 : tl = sx.toList := by simpa using heq
                      have h2 := HTL.out
                      rw [h1, ← HSX.out, ByteArray.toList_eq] at h2
                      have h3 := h2.trans HEX.out
                      exact List.append_cancel_right h3)
                    have HF : Hid (parseL s.data.toList = parseG (s.size + 1) (s.data.toList.drop (q + 1)) (acc ++ [g])) := by
                      show _ = _
                      rw [HQ.out, HSS.out.2.2 hlq hacc2 hge.1, hge.2]
                    clear hge
                    go_wp2_with (at_builtin; refine wpList_append_own _ rfl _ _ 31 rfl w.heap.size 45 i0 (.agg #[.int .u8 0, .int .u8 0, .int .u8 0, .int .i32 0, .int .i32 0]) 5 12 Tryz.underlying31 HI.out HZ0.out HZ1.out HZ2.out rfl (by decide) _ _ _ rfl (World.ownsRow.alloc hown3 _) ⟨w2.heap.size, 0, none⟩ 1 1 (evC g) rfl rfl ?c1 ?c2 ?c3 ?c4 ?c5 ?_)
                    case c1 => exact evC_new1 w2 _ g
                    case c2 => exact evC_one g
                    case c3 => unfold maxLen; omega
                    case c4 => omega
                    case c5 => simp; omega
                    · intro v' w3 hown' hgrow _
                      have hnx2 : Below w.heap.size w w3 := by
                        refine Below.grown (hb2.alloc hw2 _) hgrow (by simp; omega) (fun k hk => ?_)
                        exact (World.ownsRow.lt hown k hk).1
                      have hown4 : Own w3 w.heap.size v' (acc ++ [g]) := by
                        unfold Own
                        rw [evCells_append, List.length_append]
                        simpa [evCells] using hown'
                      clear hown' hgrow
                      go_wp2_with fail
                      go_roundw
                      case rel => exact ⟨acc ++ [g], q + 1, by omega, by go_num, by simp; omega, hown4, hnx2, HF⟩
                      case measure => simp [intOf]; omega
          · have hqe : q = s.size := by omega
            have t0 : ((q : Int) == (s.size : Int)) = true := by simp; omega
            have hlq' : ¬ (q : Int) < (s.size : Int) := by omega
            have hq := lineEnd_at s p q h1 h2 H3.out (Or.inl hqe)
            have HSS := hidIt (parse_step s p q acc hlt hq)
            have HF : Hid (parseL s.data.toList = ([], 2, (acc.length : Int))) := by
              show _ = _
              rw [HQ.out, HSS.out.1 (Or.inl (by omega))]
            clear hq hqe
            go_wp2_with fail
            go_ret3
            exact ⟨.slice none 0 0, tup3 (by rw [HF.out]) (by rw [HF.out]), by rw [HF.out]; exact Own.nil _ _, hnx⟩
      · have hge : ¬ (p : Int) < (s.size : Int) := by omega
        have HF : Hid (parseL s.data.toList = (acc, 0, 0)) := by
          show _ = _
          rw [HQ.out, List.drop_eq_nil_of_le (by simp; omega)]
          rfl
        go_wp2_with fail
        go_ret3
        exact ⟨.slice a acc.length cap, tup3 (by rw [HF.out]) (by rw [HF.out]), by rw [HF.out]; exact hown, hnx⟩

end Go.Proofs.YtfdalbmopaemgabGreatDoor

namespace Go.Proofs.YtfdalbmopaemgabGreatDoor
open Go.RowKit

theorem parseG_len : ∀ (f : Nat) (l : List UInt8) (acc : List Ev), acc.length ≤ 60 → (parseG f l acc).1.length ≤ 60
  | 0, l, acc, h => by unfold parseG; simpa using h
  | f + 1, l, acc, h => by
    unfold parseG
    split
    · exact h
    · split
      · simp
      · rename_i h2
        split
        · simp
        · exact parseG_len f _ _ (by simp; omega)

theorem parseL_len (l : List UInt8) : (parseL l).1.length ≤ 60 := by
  unfold parseL
  split
  · simp
  · exact parseG_len _ _ _ (by simp)

/-- keep, of a list that came out. -/
theorem keep_own (B wb : Nat) (hv : Value) (hs : List (Value × Int)) (v : Value) (N : Nat) (es : List Ev) (w : World) (h : Inv w B wb hv hs) (hown : Own w N v es) (hN : B ≤ N) (hw : wb < N) (hgv : ∀ g, hv.ownBlock = some g → g < N)
    (hgx : ∀ x ∈ hs, ∀ g, x.1.ownBlock = some g → g < N) (hn : es.length ≤ 2097152) (hH : hs.length ≤ 10000000) :
    Calls Tryz.prog 22 #[.pointer (some ⟨wb, 0, none⟩), v] w (KeepPost w B wb hs.length) := by
  rcases hown.2 with ⟨rfl, _⟩ | ⟨g, cap, cur, rfl, h1, h2, h3, h4, h5, h6⟩
  · exact keep_nil B wb hv hs w h hH
  · exact keep_row B wb hv hs g cap es w h ⟨cur, h2, h5, h3, h4, h6⟩ (Nat.le_trans hN h1) (by omega) (fun e => by have := hgv g e; omega) (fun x hx e => by have := hgx x hx g e; omega) hn hH

set_option maxRecDepth 100000 in
set_option maxHeartbeats 2000000 in
theorem parsed_any (B wb : Nat) (hv : Value) (hs : List (Value × Int)) (o : OpD) (es : List Ev) (w : World) (h : Inv w B wb hv hs) (hop : OpOk w B o es) (hH : hs.length ≤ 10000000) :
    Calls Tryz.prog 11 #[.pointer (some ⟨wb, 0, none⟩), opV o] w (StepPost w B wb hs.length) := by
  obtain ⟨ok, on, ot, ox, ov, ohv, os⟩ := o
  obtain ⟨ha, hc, hvf⟩ := slice_form hop.sl
  simp only at hvf
  subst hvf
  have HI := hidIt h
  have hstr := hop.str
  simp only at hstr
  have hBw : B ≤ w.heap.size := Nat.le_trans h.base (Nat.le_of_lt h.wb_lt)
  have hbx := (Below.refl w.heap.size w).alloc (Nat.le_refl _) (opC ⟨ok, on, ot, ox, ov, .slice ha es.length hc, os⟩)
  clear h hop
  go_enter Tryz.func11, Tryz.ntmps11
  go_wp2_with fail
  refine (parse_all os _ (by omega)).mono ?_
  rintro r w1 ⟨v1, rfl, hown1, hb1⟩
  have hb1' : Below w.heap.size w w1 := hbx.trans (hb1.mono (by simp))
  obtain ⟨z0, z5, z6⟩ := bcell7 hb1 (by simp) rfl
  have hz1 : w.heap.size < w1.heap.size := by have := hb1.size; simp at this; omega
  obtain ⟨⟨L, c, d⟩, hL⟩ : ∃ x, parseL os.data.toList = x := ⟨_, rfl⟩
  have HL := hidIt hL
  have hLl := parseL_len os.data.toList
  rw [hL] at hown1 hLl
  simp only at hown1 hLl
  rw [hL]
  simp only
  clear hL
  obtain ⟨a1, c1, rfl⟩ := hown1.form
  have HO1 := hidIt hown1
  clear hown1
  go_wp2_with fail
  refine (refParse_any os _ hstr).mono ?_
  rintro r w2 ⟨v2, rfl, hown2, hb2⟩
  rw [HL.out] at hown2 ⊢
  simp only at hown2 ⊢
  obtain ⟨a2, c2, rfl⟩ := hown2.form
  have HO2 := hidIt hown2
  have hb2' : Below w.heap.size w w2 := hb1'.trans (hb2.mono hb1'.size)
  clear hown2 z0 z5 z6
  go_wp2_with fail
  refine (same_all _ _ L _ (HO1.out.below hb2).slEv HO2.out.slEv (by omega)).mono ?_
  rintro r w3 ⟨rfl, n3, rfl⟩
  have hb3 : Below w2.heap.size w2 (w2.drewN n3) := below_drewN (Below.refl _ _) n3
  have hb3' : Below w.heap.size w (w2.drewN n3) := hb2'.trans (hb3.mono hb2'.size)
  have HK := hidIt (keep_own B wb hv hs (.slice a1 L.length c1) _ L (w2.drewN n3) (HI.out.below hb3') ((HO1.out.below hb2).below hb3) (by simp; omega) (by simp; have := HI.out.wb_lt; omega) (fun g hg => by have := (HI.out.hv_lt g hg).2; simp; omega) (fun x hx g hg => by have := ((HI.out.each x hx).lt g hg).2; simp; omega) (by omega) hH)
  go_wp2_with fail
  refine HK.out.mono ?_
  rintro r w5 ⟨rfl, hv', hs', hi5, hl5, hb5⟩
  have HR := hidIt (And.intro hi5 (And.intro hl5 hb5))
  clear hi5 hl5 hb5
  go_wp2_with fail
  go_ret
  refine ⟨ret_bool (by simp), hv', hs', HR.out.1, by have := HR.out.2.1; omega, (hb3'.mono hBw).trans HR.out.2.2⟩

set_option maxRecDepth 100000 in
set_option maxHeartbeats 1000000 in
theorem step_parse : StepOk 2 := by
  intro B wb hv hs o es w hk h hop hH ht
  obtain ⟨ha, hc, hvf⟩ := slice_form hop.sl
  obtain ⟨ok, on, ot, ox, ov, ohv, os⟩ := o
  simp only at hk hvf
  subst hk hvf
  have hbx := (Below.refl w.heap.size w).alloc (Nat.le_refl _) (opC ⟨2, on, ot, ox, ov, .slice ha es.length hc, os⟩)
  have hBw : B ≤ w.heap.size := Nat.le_trans h.base (Nat.le_of_lt h.wb_lt)
  have HC := hidIt (parsed_any B wb hv hs ⟨2, on, ot, ox, ov, .slice ha es.length hc, os⟩ es _ (h.below hbx) (hop.stay (hbx.mono hBw)) hH)
  clear h hop
  go_enter Tryz.func7, Tryz.ntmps7
  go_wp2_with fail
  refine HC.out.mono ?_
  rintro r w1 ⟨rfl, hv', hs', h1, h2, h3⟩
  have HR := hidIt (And.intro h1 (And.intro h2 h3))
  clear h1 h2 h3
  go_wp2_with fail
  go_ret
  exact ⟨rfl, hv', hs', HR.out.1, HR.out.2.1, (hbx.mono hBw).trans HR.out.2.2⟩

end Go.Proofs.YtfdalbmopaemgabGreatDoor

namespace Go.Proofs.YtfdalbmopaemgabGreatDoor
open Go.RowKit

set_option maxRecDepth 100000 in
set_option maxHeartbeats 2000000 in
theorem parsed_g {St : World → (Nat → Prop) → Value → List Ev → Prop} (I : StOk St) (B wb : Nat) (hv pv : Value) (hs : List (Value × Int)) (ps : List PlD) (o : OpD) (es : List Ev) (w : World) (h : GInv St w B wb hv hs pv ps) (hop : OpOk w B o es) (hH : hs.length ≤ 10000000) :
    Calls Tryz.prog 11 #[.pointer (some ⟨wb, 0, none⟩), opV o] w (SPost St w B wb hs.length ps.length) := by
  obtain ⟨ok, on, ot, ox, ov, ohv, os⟩ := o
  obtain ⟨ha, hc, hvf⟩ := slice_form hop.sl
  simp only at hvf
  subst hvf
  have HI := hidIt h
  have hstr := hop.str
  simp only at hstr
  have hBw : B ≤ w.heap.size := Nat.le_trans h.inv.base (Nat.le_of_lt h.inv.wb_lt)
  have hbx := (Below.refl w.heap.size w).alloc (Nat.le_refl _) (opC ⟨ok, on, ot, ox, ov, .slice ha es.length hc, os⟩)
  clear h hop
  go_enter Tryz.func11, Tryz.ntmps11
  go_wp2_with fail
  refine (parse_all os _ (by omega)).mono ?_
  rintro r w1 ⟨v1, rfl, hown1, hb1⟩
  have hb1' : Below w.heap.size w w1 := hbx.trans (hb1.mono (by simp))
  obtain ⟨z0, z5, z6⟩ := bcell7 hb1 (by simp) rfl
  have hz1 : w.heap.size < w1.heap.size := by have := hb1.size; simp at this; omega
  obtain ⟨⟨L, c, d⟩, hL⟩ : ∃ x, parseL os.data.toList = x := ⟨_, rfl⟩
  have HL := hidIt hL
  have hLl := parseL_len os.data.toList
  rw [hL] at hown1 hLl
  simp only at hown1 hLl
  rw [hL]
  simp only
  clear hL
  obtain ⟨a1, c1, rfl⟩ := hown1.form
  have HO1 := hidIt hown1
  clear hown1
  go_wp2_with fail
  refine (refParse_any os _ hstr).mono ?_
  rintro r w2 ⟨v2, rfl, hown2, hb2⟩
  rw [HL.out] at hown2 ⊢
  simp only at hown2 ⊢
  obtain ⟨a2, c2, rfl⟩ := hown2.form
  have HO2 := hidIt hown2
  have hb2' : Below w.heap.size w w2 := hb1'.trans (hb2.mono hb1'.size)
  clear hown2 z0 z5 z6
  go_wp2_with fail
  refine (same_all _ _ L _ (HO1.out.below hb2).slEv HO2.out.slEv (by omega)).mono ?_
  rintro r w3 ⟨rfl, n3, rfl⟩
  have hb3 : Below w2.heap.size w2 (w2.drewN n3) := below_drewN (Below.refl _ _) n3
  have hb3' : Below w.heap.size w (w2.drewN n3) := hb2'.trans (hb3.mono hb2'.size)
  have HK := hidIt (keep_ownG I B wb hv pv hs ps (.slice a1 L.length c1) _ L (w2.drewN n3) (HI.out.below I hb3') ((HO1.out.below hb2).below hb3) (by simp; omega) (by simp; have := HI.out.inv.wb_lt; omega) (fun g hg => by have := (HI.out.inv.hv_lt g hg).2; simp; omega) (fun x hx g hg => by have := ((HI.out.inv.each x hx).lt g hg).2; simp; omega) (fun g hg => by have := (World.ownsRow.lt HI.out.prow g hg).2; simp; omega) (fun g hg i hi q => by have := (World.ownsRow.lt HO1.out g hg).1; have := PlD.own_lt I (HI.out.each i hi) q; simp at *; omega) (by omega) hH)
  go_wp2_with fail
  refine HK.out.mono ?_
  rintro r w5 ⟨rfl, hv', hs', hi5, hl5, hb5⟩
  have HR := hidIt (And.intro hi5 (And.intro hl5 hb5))
  clear hi5 hl5 hb5
  go_wp2_with fail
  go_ret
  refine ⟨ret_bool (by simp), hv', hs', pv, ps, HR.out.1, by have := HR.out.2.1; omega, by omega, (hb3'.mono hBw).trans HR.out.2.2⟩

end Go.Proofs.YtfdalbmopaemgabGreatDoor
