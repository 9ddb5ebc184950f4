import Derived.Test.YtfdalbmopaemgaaDoorW9
namespace Go.Proofs.YtfdalbmopaemgaaDoor
open Go.RowKit

/-! ### Both -/
theorem take_all_ok (es : List Ev) (k : Nat) (h : allKinds (es.take k) = true) (i : Nat) (hi : i < k) (hl : i < es.length) : isKind es[i].k = true := by
  unfold allKinds at h
  rw [List.all_eq_true] at h
  exact h _ (List.mem_take_iff_getElem.2 ⟨i, by omega, rfl⟩)

theorem evC_new2 (w1 : World) (o : Obj) (T : TypeId) (ev : Ev) : ∀ j u, (evC ev)[j]? = some u → ((w1.alloc o).alloc (.cells #[.int .u8 ev.k, .int .u8 ev.t, .int .u8 ev.a, .int .i32 ev.v, .int .i32 ev.s] T)).cell? ((⟨w1.heap.size + 1, 0, none⟩ : Addr).add j) = some u := evC_new w1 o T ev

theorem bare_r (w0 : World) (e : Ev) (W : World) (hb : Below w0.heap.size w0 W) :
    Calls Tryd.prog 6 #[evV e] W fun r w' => ∃ eb, r = .returned (evV eb) ∧ Below W.heap.size W w' ∧ Below w0.heap.size w0 w' ∧ Hid (bare e = eb) := by
  refine (bare_any e W).mono ?_
  rintro r w' ⟨rfl, h⟩
  exact ⟨_, rfl, h, hb.trans (h.mono hb.size), rfl⟩

set_option maxHeartbeats 2000000 in
theorem both_any (b off cap : Nat) (es : List Ev) (w : World) (hbw : b < w.heap.size) (hev : EvsAt w b off es) (hok : ∀ e ∈ es, e.Ok) (hmax : es.length ≤ 9223372036854775807) (ht : Tab w) :
    Calls Tryd.prog 3 #[.slice (some ⟨b, off, none⟩) es.length cap] w fun r w' => r = .returned (.bool true) ∧ Below w.heap.size w w' := by
  have HS : Hid (SlEv w (.slice (some ⟨b, off, none⟩) es.length cap) es) := Or.inr ⟨b, off, cap, rfl, hbw, hev⟩
  by_cases hl : 60 < es.length
  · have hl' : (60 : Int) < (es.length : Int) := by omega
    have hpt : printT es = [] := by unfold printT; rw [if_pos hl]
    have hpe : printE es = 1 := by unfold printE; rw [if_pos hl]
    have HPT := hidIt hpt
    have HPE := hidIt hpe
    clear hpt hpe
    go_enter Tryd.func3, Tryd.ntmps3
    go_wp2_with fail
    refine (print_all _ es _ HS.out hok (by omega) ht).mono ?_
    rintro r w1 ⟨rfl, h1⟩
    rw [HPT.out, HPE.out]
    go_wp2_with fail
    go_ret
    exact ⟨rfl, h1⟩
  · have hl' : ¬ (60 : Int) < (es.length : Int) := by omega
    obtain ⟨i0, hi, hz0, hz1, hz2⟩ := info_parts Tryd.infoEv
    have HI := hidIt hi
    have HZ0 := hidIt hz0
    have HZ1 := hidIt hz1
    have HZ2 := hidIt hz2
    clear hi hz0 hz1 hz2
    go_enter Tryd.func3, Tryd.ntmps3
    go_wp2_with fail
    refine (print_all _ es _ HS.out hok (by omega) ht).mono ?_
    rintro r w1 ⟨rfl, h1⟩
    obtain ⟨pt, hpt⟩ : ∃ pt, printT es = pt := ⟨_, rfl⟩
    obtain ⟨pe, hpe⟩ : ∃ pe, printE es = pe := ⟨_, rfl⟩
    rw [hpt, hpe]
    have HPT := hidIt hpt
    have HPE := hidIt hpe
    clear hpt hpe
    go_wp2_with fail
    go_loopw [5, 6] (fun v i wr => ∃ k : Nat, k ≤ es.length ∧ i = .int .i64 k ∧ Own wr w.heap.size v ((es.take k).map bare) ∧ Hid (allKinds (es.take k) = true) ∧ Below w.heap.size w wr) (fun _ i _ => es.length - (intOf i).toNat)
    case atStart => exact ⟨0, by omega, rfl, Own.nil _ _, rfl, h1⟩
    case round =>
      obtain ⟨k, hk, rfl, hown, HA, hnx⟩ := hrel
      by_cases hlt : k < es.length
      · obtain ⟨g0, g1, g2, g3, g4⟩ := (hev k hlt).below hbw hnx
        obtain ⟨ev, hev'⟩ : ∃ ev, es[k] = ev := ⟨_, rfl⟩
        have HE := hidIt hev'
        have heok := hok es[k] (List.getElem_mem _)
        rw [hev'] at g0 g1 g2 g3 g4 heok
        clear hev'
        have hlt' : (k : Int) < (es.length : Int) := by omega
        have hk0 : (0 : Int) ≤ (k : Int) := by omega
        have e0 := heok.k0
        have e1 := heok.k1
        have hlen : ((es.take k).map bare).length = k := by simp; omega
        obtain ⟨a, cp, hv⟩ := hown.form
        rw [hlen] at hv
        subst hv
        have HL := hidIt hlen
        clear hlen
        cases hkd : isKind ev.k with
        | false =>
          have hno := allKinds_no es k hlt (by rw [HE.out]; exact hkd)
          have ept : pt = [] := by rw [← HPT.out]; unfold printT; rw [hno]; simp
          have epe : pe = 3 := by rw [← HPE.out]; unfold printE; rw [if_neg hl, hno]; simp
          subst ept epe
          have hkk : ev.k < 1 ∨ 6 < ev.k := by
            unfold isKind at hkd
            simp at hkd
            omega
          clear hkd hno
          rcases hkk with hkk | hkk
          · go_wp2_with fail
            go_ret
            exact ⟨rfl, hnx⟩
          · have hkk2 : ¬ ev.k < 1 := by omega
            go_wp2_with fail
            go_ret
            exact ⟨rfl, hnx⟩
        | true =>
          have hkk : 1 ≤ ev.k ∧ ev.k ≤ 6 := by
            unfold isKind at hkd
            simp at hkd
            exact hkd
          obtain ⟨hk1, hk6⟩ := hkk
          have HKD := hidIt hkd
          clear hkd
          go_wp2_with (first | (go_at_call 6; refine (bare_r w ev _ hnx).mono ?_; rintro r w2 ⟨eb, rfl, hb, hb2, HB⟩; have hown2 := hown.below hb; unfold Own at hown2; rw [HL.out] at hown2) | (at_builtin; refine wpList_append_own _ rfl _ _ 22 rfl w.heap.size 27 i0 (.agg #[.int .u8 0, .int .u8 0, .int .u8 0, .int .i32 0, .int .i32 0]) 5 12 Tryd.underlying22 HI.out HZ0.out HZ1.out HZ2.out rfl (by decide) _ _ _ rfl (World.ownsRow.alloc (World.ownsRow.alloc hown2 _) _) ⟨w2.heap.size + 1, 0, none⟩ 1 1 (evC eb) rfl rfl ?c1 ?c2 ?c3 ?c4 ?c5 ?_))
          case c1 => exact evC_new w2 _ _ eb
          case c2 => exact evC_one eb
          case c3 => unfold maxLen; omega
          case c4 => omega
          case c5 => have := hb2.size; simp; omega
          · intro v' w3 hown' hgrow _
            have hsz2 := hb2.size
            have hnx2 : Below w.heap.size w w3 := by
              refine Below.grown ((hb2.alloc hsz2 _).alloc (by simp; omega) _) hgrow (by simp; omega) (fun j hj => ?_)
              exact (World.ownsRow.lt hown j hj).1
            have hown3 : Own w3 w.heap.size v' ((es.take (k + 1)).map bare) := by
              rw [List.take_succ_eq_append_getElem hlt, HE.out, List.map_append, List.map_cons, List.map_nil, HB.out]
              unfold Own
              rw [evCells_append, List.length_append, HL.out]
              simpa [evCells] using hown'
            clear hown' hgrow
            go_wp2
            go_roundw
            case rel => exact ⟨k + 1, by omega, by go_num, hown3, allKinds_take es k hlt HA.out (by rw [HE.out]; exact HKD.out), hnx2⟩
            case measure => simp [intOf]; omega
      · have hge : ¬ (k : Int) < (es.length : Int) := by omega
        have hke : k = es.length := by omega
        subst hke
        rw [List.take_length] at hown HA
        have hpl : printL es = pt := by rw [← HPT.out]; unfold printT; rw [if_neg hl, if_pos HA.out]
        have hpe0 : pe = 0 := by rw [← HPE.out]; unfold printE; rw [if_neg hl, if_pos HA.out]
        subst hpe0
        have hkinds : ∀ e ∈ es, e.Ok ∧ isKind e.k = true := by
          intro e he
          have := HA.out
          unfold allKinds at this
          rw [List.all_eq_true] at this
          exact ⟨hok e he, this e he⟩
        have hpp := parseL_print es hkinds (by omega)
        have hplen := printL_len es hok
        rw [hpl] at hpp hplen
        have HPP := hidIt hpp
        have hemp : (pt = []) ↔ es = [] := by rw [← hpl]; exact printL_nil_iff es
        have HEM := hidIt hemp
        have hptl : pt.length ≤ 2040 := by omega
        have hown0 := hown
        obtain ⟨a, cp, hv⟩ := hown.form
        rw [List.length_map] at hv
        subst hv
        clear hpp hemp hkinds hpl hplen
        go_wp2_with fail
        refine (parse_all _ _ ?_).mono ?_
        · show pt.toArray.size ≤ _
          simp
          omega
        rintro r w2 ⟨v, rfl, h3, h4⟩
        have hpe3 : parseL (⟨pt.toArray⟩ : ByteArray).data.toList = (es.map bare, 0, 0) := by simpa using HPP.out
        rw [hpe3] at h3 ⊢
        simp only at h3 ⊢
        obtain ⟨a2, cp2, hv2⟩ := h3.form
        rw [List.length_map] at hv2
        subst hv2
        clear hpe3
        have hs1 := h3.slEv
        have hs2 := (hown0.slEv).below h4
        have HS1 := hidIt hs1
        have HS2 := hidIt hs2
        clear hs1 hs2
        go_wp2_with fail
        refine (same_all _ _ (es.map bare) _ HS1.out HS2.out (by simp; omega)).mono ?_
        rintro r w3 ⟨rfl, n, rfl⟩
        by_cases he : es = []
        · have hp0 : pt = [] := HEM.out.2 he
          subst he hp0
          go_wp2_with fail
          go_ret
          exact ⟨ret_bool (by simp), below_drewN (hnx.trans (h4.mono hnx.size)) n⟩
        · have hp0 : pt ≠ [] := fun h => he (HEM.out.1 h)
          go_wp2_with fail
          go_ret
          refine ⟨ret_bool ?_, below_drewN (hnx.trans (h4.mono hnx.size)) n⟩
          have t1 : pt.isEmpty = false := by
            cases pt with
            | nil => exact absurd rfl hp0
            | cons _ _ => rfl
          have t2 : ((es.length : Int) == 0) = false := by
            cases es with
            | nil => exact absurd rfl he
            | cons _ _ => simp; omega
          rw [t1, t2]
          rfl

set_option maxHeartbeats 400000 in
theorem both_nil (a : Option Addr) (cap : Nat) (w : World) (ht : Tab w) :
    Calls Tryd.prog 3 #[.slice a 0 cap] w fun r w' => r = .returned (.bool true) ∧ Below w.heap.size w w' := by
  have HS : Hid (SlEv w (.slice a 0 cap) []) := Or.inl ⟨rfl, a, cap, rfl⟩
  have hp : printT [] = [] := rfl
  have hpe : printE [] = 0 := rfl
  go_enter Tryd.func3, Tryd.ntmps3
  go_wp2_with fail
  refine (print_all _ [] _ HS.out (fun e he => by cases he) (by decide) ht).mono ?_
  rintro r w1 ⟨rfl, h1⟩
  rw [hp, hpe]
  clear hp hpe
  go_wp2_with fail
  go_loop [5, 6] (fun v i => i = .int .i64 0 ∧ v = .slice none 0 0) (fun _ _ => 0)
  case atStart => exact ⟨rfl, rfl⟩
  case round =>
    obtain ⟨rfl, rfl⟩ := hrel
    go_wp2_with fail
    refine (parse_all _ _ (by decide)).mono ?_
    rintro r w2 ⟨v, rfl, h3, h4⟩
    have hk : parseL (⟨#[]⟩ : ByteArray).data.toList = ([], 0, 0) := rfl
    rw [hk] at h3 ⊢
    simp only at h3 ⊢
    obtain ⟨a2, cp2, rfl⟩ := h3.form
    clear hk
    go_wp2_with fail
    refine (same_nil _ _ _ _ _).mono ?_
    rintro r w3 ⟨rfl, n, rfl⟩
    go_wp2_with fail
    go_ret
    exact ⟨ret_bool (by simp), below_drewN (h1.trans (h4.mono h1.size)) n⟩

theorem both_walk (v : Value) (es : List Ev) (w : World) (hs : SlEv w v es) (hok : ∀ e ∈ es, e.Ok) (hmax : es.length ≤ 9223372036854775807) (ht : Tab w) :
    Calls Tryd.prog 3 #[v] w fun r w' => r = .returned (.bool true) ∧ Below w.heap.size w w' := by
  rcases hs with ⟨rfl, a, c, rfl⟩ | ⟨b, off, cap, rfl, h2, h3⟩
  · exact both_nil a c w ht
  · exact both_any b off cap es w h2 h3 hok hmax ht

end Go.Proofs.YtfdalbmopaemgaaDoor
