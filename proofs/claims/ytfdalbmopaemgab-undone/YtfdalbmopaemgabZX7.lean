import Derived.Test.YtfdalbmopaemgabZX5
namespace Go.Proofs.Ytfdalbmopaemgab
open Go.RowKit

/-! ### Closed -/
def ClW (w : World) (b fb N : Nat) (hv : Value) (es : List Ev) (T : Tr) (wr : World) : Prop := StC wr b es ∧ FamAt wr fb (upT T) (opT T) ∧ Own wr N hv es ∧ Below w.heap.size w wr

theorem ClW.go {w : World} {b fb N : Nat} {hv : Value} {es : List Ev} {T : Tr} {wr w' : World} (h : ClW w b fb N hv es T wr) (h' : StP wr b es w') (hfb : fb ≠ b) (hN : b < N) (hb : w.heap.size ≤ b) : ClW w b fb N hv es T w' :=
  ⟨h'.1, h.2.1.of_heap (h'.2.rest fb h.2.1.lt hfb) h'.2.below.size, ownsRow_of_heap h.2.2.1 fun g hg => h'.2.rest g (World.ownsRow.lt h.2.2.1 g hg).2 (fun e => by have := (World.ownsRow.lt h.2.2.1 g hg).1; omega), h'.2.low h.2.2.2 hb h.2.2.2.size⟩

theorem closed_access {es : List Ev} {t : Int} (h : openL es t = false) (k x v : Int) : accessR es k t x v = (es, 0, 4) := by unfold accessR; rw [if_pos h]
theorem closed_end {es : List Ev} {t : Int} (h : openL es t = false) (k : Int) : endR es k t = (es, 4) := by unfold endR; rw [if_pos h]
theorem closed_begin {es : List Ev} {t : Int} (h : openL es t = false) (h0 : t ≠ 0) : beginR es t = (es, 0, 5) := by unfold beginR; rw [if_pos ⟨h0, h⟩]

theorem opT_open {es : List Ev} {T : Tr} (j : JJ es T) (t : Nat) : opT T t = openL es (t : Int) := by
  unfold opT
  by_cases h : t ≤ 15
  · rw [if_pos h, j.op t h]
  · rw [if_neg h, open_none (j.none_ _ (by have := j.n15; omega))]

set_option maxRecDepth 100000 in
set_option maxHeartbeats 8000000 in
theorem closed_walk (v : Value) (ds : List StD) (w : World) (hs : SlSt w w.heap.size v ds) (hok : ∀ d ∈ ds, d.Ok) (hmax : ds.length ≤ 9223372036854775807) :
    Calls Try.prog 3 #[v] w fun r w' => r = .returned (.bool true) ∧ Below w.heap.size w w' := by
  obtain ⟨a, c, rfl⟩ := hs.form
  have HS := hidIt hs
  have HOK := hidIt hok
  have HEO : Hid (∀ e ∈ actsR [] ds, e.Ok) := actsR_ok ds [] (fun e he => (by cases he)) hok
  clear hs hok
  go_enter Try.func3, Try.ntmps3
  go_wp2_with fail
  refine (known_any _).mono ?_
  rintro r w1 ⟨rfl, hb1⟩
  go_wp2_with fail
  refine (new_any w1).mono ?_
  rintro r w2 ⟨rfl, h2, hb2⟩
  have HB2 : Hid (Below w.heap.size w w2) := hb1.trans (hb2.mono hb1.size)
  have HA := hidIt (acts_any w1.heap.size w.heap.size (.slice a ds.length c) ds.length ds [] w2 h2 (HS.out.stay HB2.out.size (fun k hk _ => HB2.out.block k hk)) hb1.size HOK.out hmax)
  rw [List.take_of_length_le (Nat.le_refl _)] at HA
  have hsz1 := hb1.size
  clear h2 hb1 hb2
  go_wp2_with fail
  refine HA.out.mono ?_
  rintro r w3 ⟨rfl, h3⟩
  have HB3 : Hid (Below w.heap.size w w3) := h3.2.low HB2.out hsz1 HB2.out.size
  have HST := hidIt h3.1
  clear h3
  obtain ⟨T, W, hr⟩ := HST.out.rinv
  have HR := hidIt hr
  have HLEN := hidIt HST.out.len
  clear hr
  generalize actsR [] ds = es at HST HLEN HEO HR
  go_wp2_with fail
  refine (ghistory w1.heap.size es w3 HST.out).mono ?_
  rintro r w4 ⟨hv, rfl, ho, hb4⟩
  obtain ⟨ha, hc, rfl⟩ := ho.form
  have HST4 := hidIt (HST.out.of_heap (hb4.block _ HST.out.lt) hb4.size)
  have HB4 : Hid (Below w.heap.size w w4) := HB3.out.trans (hb4.mono HB3.out.size)
  have HFM := hidIt (families_any ha hc es w4 ho.slEv HEO.out (by rw [HR.out.serial.1]) (by have := HLEN.out; omega))
  have HOW := hidIt ho
  clear ho hb4
  go_wp2_with fail
  refine HFM.out.mono ?_
  rintro r w5 ⟨rfl, T', hj', hfa, hb5⟩
  rw [List.take_length] at hj'
  have H0 : Hid (ClW w w1.heap.size w4.heap.size w3.heap.size (.slice ha es.length hc) es T' w5) := ⟨HST4.out.of_heap (hb5.block _ HST4.out.lt) hb5.size, hfa, HOW.out.below hb5, HB4.out.trans (hb5.mono HB4.out.size)⟩
  have HJ' := hidIt hj'
  have hfb : w4.heap.size ≠ w1.heap.size := fun e => by have := HST4.out.lt; omega
  have hN : w1.heap.size < w3.heap.size := HST.out.lt
  clear hj' hfa hb5 HFM HA
  have HGO : Hid (∀ wr w', ClW w w1.heap.size w4.heap.size w3.heap.size (.slice ha es.length hc) es T' wr → StP wr w1.heap.size es w' → ClW w w1.heap.size w4.heap.size w3.heap.size (.slice ha es.length hc) es T' w') := fun wr w' h h' => h.go h' hfb hN hsz1
  go_wp2_with fail
  go_loopw [7] (fun i wr => ∃ t : Nat, t ≤ 256 ∧ i = .int .i64 (t : Int) ∧ ClW w w1.heap.size w4.heap.size w3.heap.size (.slice ha es.length hc) es T' wr) (fun i _ => 256 - (intOf i).toNat)
  case atStart => exact ⟨0, by omega, rfl, H0.out⟩
  case round =>
    clear H0
    obtain ⟨t, ht, rfl, hcl⟩ := hrel
    by_cases hlt : t < 256
    · have hlt' : (t : Int) < 256 := by omega
      have ht0 : (0 : Int) ≤ (t : Int) := by omega
      have go1 := hcl.2.1.op t hlt
      rw [opT_open HJ'.out] at go1
      have HCL := hidIt hcl
      clear hcl
      cases hop : openL es (t : Int) with
      | true =>
        rw [hop] at go1
        clear hop
        go_wp2_with fail
        go_roundw
        case rel => exact ⟨t + 1, by omega, by go_num, HCL.out⟩
        case measure => simp [intOf]; omega
      | false =>
        rw [hop] at go1
        have HA1 : Hid (∀ k x v, accessR es k (t : Int) x v = (es, 0, 4)) := fun k x v => closed_access hop k x v
        have HE1 : Hid (∀ k, endR es k (t : Int) = (es, 4)) := fun k => closed_end hop k
        have HB1 : Hid (t ≠ 0 → beginR es (t : Int) = (es, 0, 5)) := fun h0 => closed_begin hop (by omega)
        clear hop
        have HC1 := hidIt (gread w1.heap.size t 0 es wr HCL.out.1 (by omega) (by omega))
        rw [HA1.out] at HC1
        go_wp2_with fail
        refine HC1.out.mono ?_
        rintro r u1 ⟨rfl, hs1⟩
        have HK1 := hidIt (HGO.out _ _ HCL.out hs1)
        clear hs1 HC1
        have HC2 := hidIt (gwrite w1.heap.size t 1 1 es u1 HK1.out.1 (by omega) (by omega))
        rw [HA1.out] at HC2
        go_wp2_with fail
        refine HC2.out.mono ?_
        rintro r u2 ⟨rfl, hs1⟩
        have HK2 := hidIt (HGO.out _ _ HK1.out hs1)
        clear hs1 HC2
        have HC3 := hidIt (gadd w1.heap.size t 2 1 es u2 HK2.out.1 (by omega) (by omega))
        rw [HA1.out] at HC3
        go_wp2_with fail
        refine HC3.out.mono ?_
        rintro r u3 ⟨rfl, hs1⟩
        have HK3 := hidIt (HGO.out _ _ HK2.out hs1)
        clear hs1 HC3
        have HC4 := hidIt (gcommit w1.heap.size t es u3 HK3.out.1 (by omega))
        rw [HE1.out] at HC4
        go_wp2_with fail
        refine HC4.out.mono ?_
        rintro r u4 ⟨rfl, hs1⟩
        have HK4 := hidIt (HGO.out _ _ HK3.out hs1)
        clear hs1 HC4
        have HC5 := hidIt (gabort w1.heap.size t es u4 HK4.out.1 (by omega))
        rw [HE1.out] at HC5
        go_wp2_with fail
        refine HC5.out.mono ?_
        rintro r u5 ⟨rfl, hs1⟩
        have HK5 := hidIt (HGO.out _ _ HK4.out hs1)
        clear hs1 HC5
        by_cases hz : t = 0
        · have e0 : ((t : Int) == 0) = true := by rw [beq_iff_eq]; omega
          clear hz
          go_wp2_with fail
          go_roundw
          case rel => exact ⟨t + 1, by omega, by go_num, HK5.out⟩
          case measure => simp [intOf]; omega
        · have e0 : ((t : Int) == 0) = false := by rw [beq_eq_false_iff_ne]; omega
          have HC6 := hidIt (gbegin w1.heap.size t es u5 HK5.out.1 (by omega))
          rw [HB1.out hz] at HC6
          clear hz
          go_wp2_with fail
          refine HC6.out.mono ?_
          rintro r u6 ⟨rfl, hs1⟩
          have HK6 := hidIt (HGO.out _ _ HK5.out hs1)
          clear hs1 HC6
          go_wp2_with fail
          go_roundw
          case rel => exact ⟨t + 1, by omega, by go_num, HK6.out⟩
          case measure => simp [intOf]; omega
    · have hge : ¬ (t : Int) < 256 := by omega
      have HCL := hidIt hcl
      clear hcl
      go_wp2_with fail
      refine (ghistory w1.heap.size es wr HCL.out.1).mono ?_
      rintro r w6 ⟨hv2, rfl, ho2, hb6⟩
      obtain ⟨ha2, hc2, rfl⟩ := ho2.form
      have HSE := hidIt (same_all (.slice ha es.length hc) (.slice ha2 es.length hc2) es w6 (HCL.out.2.2.1.below hb6).slEv ho2.slEv (by have := HLEN.out; omega))
      have HB6 : Hid (Below w.heap.size w w6) := HCL.out.2.2.2.trans (hb6.mono HCL.out.2.2.2.size)
      clear ho2 hb6
      go_wp2_with fail
      refine HSE.out.mono ?_
      rintro r w7 ⟨rfl, n, rfl⟩
      go_wp2_with fail
      go_ret
      exact ⟨rfl, below_drewN HB6.out n⟩

end Go.Proofs.Ytfdalbmopaemgab
