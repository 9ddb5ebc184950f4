import Derived.Test.YtfdalbmopaemgaaZX5
namespace Go.Proofs.Ytfdalbmopaemgaa
open Go.RowKit

/-! ### Apart -/
theorem jj_live {es : List Ev} {T T' : Tr} (j : JJ es T) (j' : JJ es T') (c : Nat) : Live T c ↔ Live T' c := by
  unfold Live
  constructor
  · rintro (h | ⟨h1, h2, h3⟩)
    · exact Or.inl h
    · exact Or.inr ⟨h1, h2, by rw [j'.op c h2, ← j.op c h2]; exact h3⟩
  · rintro (h | ⟨h1, h2, h3⟩)
    · exact Or.inl h
    · exact Or.inr ⟨h1, h2, by rw [j.op c h2, ← j'.op c h2]; exact h3⟩

theorem jj_pth {es : List Ev} {T T' : Tr} (j : JJ es T) (j' : JJ es T') (c : Nat) (hc : c ≤ T.n) : pth T'.par c = pth T.par c :=
  pth_same (jj_par j) (fun i h1 h2 => by have := j.n15; rw [j'.par i (by omega), j.par i (by omega)]) c hc

theorem bitAnd1 (s n : Nat) (hs : s < 65536) : (bits BinOp.and IntKind.u16 ((s : Int) / 2 ^ n) 1 == 1) = s.testBit n := by
  rw [Bool.eq_iff_iff, beq_iff_eq]
  exact and16 s n hs

theorem bitAnd0 (s n : Nat) (hs : s < 65536) : (bits BinOp.and IntKind.u16 ((s : Int) / 2 ^ n) 1 == 0) = !s.testBit n := by
  have h1 : ((s : Int) / 2 ^ n) = ((s / 2 ^ n : Nat) : Int) := by simp
  have h2 : s / 2 ^ n < 65536 := Nat.lt_of_le_of_lt (Nat.div_le_self _ _) hs
  have h3 := u16_and_nat (s / 2 ^ n) 1 h2 (by omega)
  rw [h1, show (1 : Int) = ((1 : Nat) : Int) from rfl, h3, Nat.and_one_is_mod, Nat.testBit_eq_decide_div_mod_eq]
  have : s / 2 ^ n % 2 = 0 ∨ s / 2 ^ n % 2 = 1 := by omega
  rcases this with h | h <;> rw [h] <;> rfl

theorem bitAndOne (s : Nat) (hs : s < 65536) (h0 : s.testBit 0 = false) : (bits BinOp.and IntKind.u16 (s : Int) 1 != 0) = false := by
  have h3 := u16_and_nat s 1 hs (by omega)
  rw [show (1 : Int) = ((1 : Nat) : Int) from rfl, h3, Nat.and_one_is_mod]
  rw [Nat.testBit_eq_decide_div_mod_eq] at h0
  simp at h0
  rw [h0]
  rfl

def ApW (w : World) (b fb : Nat) (es : List Ev) (T : Tr) (wr : World) : Prop := StC wr b es ∧ FamAt wr fb (upT T) (opT T) ∧ Below w.heap.size w wr

theorem ApW.drewN {w : World} {b fb : Nat} {es : List Ev} {T : Tr} {wr : World} (h : ApW w b fb es T wr) (n : Nat) : ApW w b fb es T (wr.drewN n) :=
  ⟨h.1.drewN n, h.2.1.of_heap rfl (Nat.le_refl _), below_drewN h.2.2 n⟩

set_option maxRecDepth 100000 in
set_option maxHeartbeats 8000000 in
theorem apart_walk (v : Value) (ds : List StD) (w : World) (hs : SlSt w w.heap.size v ds) (hok : ∀ d ∈ ds, d.Ok) (hmax : ds.length ≤ 9223372036854775807) :
    Calls Try.prog 6 #[v] w fun r w' => r = .returned (.bool true) ∧ Below w.heap.size w w' := by
  obtain ⟨a, c, rfl⟩ := hs.form
  have HS := hidIt hs
  have HOK := hidIt hok
  have HEO : Hid (∀ e ∈ actsR [] ds, e.Ok) := actsR_ok ds [] (fun e he => (by cases he)) hok
  clear hs hok
  go_enter Try.func6, Try.ntmps6
  go_wp2_with fail
  refine (known_any _).mono ?_
  rintro r w1 ⟨rfl, hb1⟩
  go_wp2_with fail
  refine (new_any w1).mono ?_
  rintro r w2 ⟨rfl, h2, hb2⟩
  have HB2 : Hid (Below w.heap.size w w2) := hb1.trans (hb2.mono hb1.size)
  have HA := hidIt (acts_any w1.heap.size w.heap.size (.slice a ds.length c) ds.length ds [] w2 h2 (HS.out.stay HB2.out.size (fun k hk _ => HB2.out.block k hk)) hb1.size HOK.out hmax)
  rw [List.take_of_length_le (Nat.le_refl _)] at HA
  have hsz1 := hb1.size
  clear h2 hb1 hb2
  go_wp2_with fail
  refine HA.out.mono ?_
  rintro r w3 ⟨rfl, h3⟩
  have HB3 : Hid (Below w.heap.size w w3) := h3.2.low HB2.out hsz1 HB2.out.size
  have HST := hidIt h3.1
  clear h3
  obtain ⟨T, W, hr⟩ := HST.out.rinv
  have HR := hidIt hr
  have HLEN := hidIt HST.out.len
  clear hr
  generalize actsR [] ds = es at HST HLEN HEO HR
  go_wp2_with fail
  refine (ghistory w1.heap.size es w3 HST.out).mono ?_
  rintro r w4 ⟨hv, rfl, ho, hb4⟩
  obtain ⟨ha, hc, rfl⟩ := ho.form
  have HST4 := hidIt (HST.out.of_heap (hb4.block _ HST.out.lt) hb4.size)
  have HB4 : Hid (Below w.heap.size w w4) := HB3.out.trans (hb4.mono HB3.out.size)
  have HFM := hidIt (families_any ha hc es w4 ho.slEv HEO.out (by rw [HR.out.serial.1]) (by have := HLEN.out; omega))
  clear ho hb4
  go_wp2_with fail
  refine HFM.out.mono ?_
  rintro r w5 ⟨rfl, T', hj', hfa, hb5⟩
  rw [List.take_length] at hj'
  have HST5 := hidIt (HST4.out.of_heap (hb5.block _ HST4.out.lt) hb5.size)
  have HB5 : Hid (Below w.heap.size w w5) := HB4.out.trans (hb5.mono HB4.out.size)
  have HJ' := hidIt hj'
  have HFA := hidIt hfa
  clear hj' hfa hb5 HFM HA
  go_wp2_with fail
  have HFU : Hid (∀ i, i < 256 → upT T' i < 256) := fun i _ => upT_lt HJ'.out i
  go_loopw [7] (fun i wr => ∃ x : Nat, x ≤ 4 ∧ i = .int .u8 (x : Int) ∧ ApW w w1.heap.size w4.heap.size es T' wr) (fun i _ => 4 - (intOf i).toNat)
  case atStart => exact ⟨0, by omega, rfl, HST5.out, HFA.out, HB5.out⟩
  case round =>
    obtain ⟨x, hx, rfl, hap⟩ := hrel
    have HAW := hidIt hap
    clear hap
    by_cases hlt : x < 4
    · have hlt' : (x : Int) < 4 := by omega
      have HH := hidIt (gholders w1.heap.size x es wr HAW.out.1 (by omega))
      have hA : holdA es (x : Int) = ((holdersL es (x : Int)).1, (holdersL es (x : Int)).2, 0) := by unfold holdA; rw [if_neg (by omega)]
      rw [hA] at HH
      simp only at HH
      have hbl := holdersL_lt (low15 HR.out.s.jj) (x : Int)
      have hb0 := bits0 HR.out (x : Int)
      have HAP : Hid (∀ u t : Nat, u ≠ 0 → t ≠ 0 → (holdersL es (x : Int)).2.testBit u = true → ((holdersL es (x : Int)).1.testBit t = true ∨ (holdersL es (x : Int)).2.testBit t = true) → (u ∈ pth T'.par t ∨ t ∈ pth T'.par u) ∧ u ≤ T'.n ∧ t ≤ T'.n) := fun u t hu ht h1 h2 => by
        obtain ⟨l1, l2, h3⟩ := HR.out.apart x u t hu ht h1 h2
        have n1 := live_le HR.out.s.jj l1
        have n2 := live_le HR.out.s.jj l2
        have n1' := live_le HJ'.out ((jj_live HR.out.s.jj HJ'.out u).1 l1)
        have n2' := live_le HJ'.out ((jj_live HR.out.s.jj HJ'.out t).1 l2)
        rw [jj_pth HR.out.s.jj HJ'.out t n2, jj_pth HR.out.s.jj HJ'.out u n1]
        exact ⟨h3, n1', n2'⟩
      have HLV : Hid (∀ t : Nat, t ≠ 0 → t ≤ 15 → ((holdersL es (x : Int)).1.testBit t = true ∨ (holdersL es (x : Int)).2.testBit t = true) → opT T' t = true) := fun t ht h15 h2 => by
        have hl : Live T t := by
          rcases h2 with h | h
          · exact ((held_iff HR.out (x : Int) t ht).1.1 h).1
          · exact ((held_iff HR.out (x : Int) t ht).2.1 h).1
        have := (jj_live HR.out.s.jj HJ'.out t).1 hl
        unfold opT
        rw [if_pos h15]
        rcases this with h | h
        · exact absurd h ht
        · exact h.2.2
      generalize (holdersL es (x : Int)).1 = a1 at HH hbl hb0 HAP HLV
      generalize (holdersL es (x : Int)).2 = a2 at HH hbl hb0 HAP HLV
      have hor := u16_or_nat a1 a2 hbl.1 hbl.2
      have hol := or16 hbl.1 hbl.2
      have e1 : (bits BinOp.and IntKind.u16 (bits BinOp.or IntKind.u16 (a1 : Int) (a2 : Int)) 1 != 0) = false := by rw [hor]; exact bitAndOne _ hol (by rw [Nat.testBit_or, hb0.1, hb0.2]; rfl)
      have HE2 : Hid (∀ t : Nat, (bits BinOp.and IntKind.u16 (bits BinOp.or IntKind.u16 (a1 : Int) (a2 : Int) / 2 ^ t) 1 == 0) = !(a1 ||| a2).testBit t) := fun t => by rw [hor]; exact bitAnd0 _ t hol
      have HE3 : Hid (∀ t : Nat, (bits BinOp.and IntKind.u16 ((a2 : Int) / 2 ^ t) 1 == 1) = a2.testBit t) := fun t => bitAnd1 _ t hbl.2
      clear hor hol hb0 hbl hA
      go_wp2_with fail
      refine HH.out.mono ?_
      rintro r w6 ⟨rfl, m, rfl⟩
      have HAM := hidIt (HAW.out.drewN m)
      generalize wr.drewN m = w6 at HAM
      go_wp2_with fail
      go_loop [11] (fun i => ∃ t : Nat, 1 ≤ t ∧ t ≤ 16 ∧ i = .int .u8 (t : Int)) (fun i => 16 - (intOf i).toNat)
      case atStart => exact ⟨1, by omega, by omega, rfl⟩
      case round =>
        obtain ⟨t, ht1, ht16, rfl⟩ := hrel
        by_cases htl : t < 16
        · have htl' : (t : Int) < 16 := by omega
          have e2 := HE2.out t
          cases hbt : (a1 ||| a2).testBit t with
          | false =>
            rw [hbt] at e2
            clear hbt
            go_wp2_with fail
            go_round
            case rel => exact ⟨t + 1, by omega, by omega, by go_num⟩
            case measure => simp [intOf]; omega
          | true =>
            rw [hbt] at e2
            have hbt' : a1.testBit t = true ∨ a2.testBit t = true := by rwa [Nat.testBit_or, Bool.or_eq_true] at hbt
            have go1 := HAM.out.2.1.op t (by omega)
            rw [HLV.out t (by omega) (by omega) hbt'] at go1
            have HBT := hidIt hbt'
            have ht256 : (t : Int) < 256 := by omega
            have ht0 : (0 : Int) ≤ (t : Int) := by omega
            clear hbt hbt'
            go_wp2_with fail
            go_loop [12] (fun i => ∃ u : Nat, 1 ≤ u ∧ u ≤ 16 ∧ i = .int .u8 (u : Int)) (fun i => 16 - (intOf i).toNat)
            case atStart => exact ⟨1, by omega, by omega, rfl⟩
            case round =>
              obtain ⟨u, hu1, hu16, rfl⟩ := hrel
              by_cases hul : u < 16
              · have hul' : (u : Int) < 16 := by omega
                have e3 := HE3.out u
                have HI1 := hidIt (inside_any w4.heap.size u t (upT T') (opT T') w6 HAM.out.2.1 (by omega) HFU.out)
                have HI2 := hidIt (inside_any w4.heap.size t u (upT T') (opT T') w6 HAM.out.2.1 (by omega) HFU.out)
                have HOR : Hid (a2.testBit u = true → insideN (upT T') t 256 u = false → insideN (upT T') u 256 t = true) := fun h1 h2 => by
                  obtain ⟨h3, n1, n2⟩ := HAP.out u t (by omega) (by omega) h1 HBT.out
                  rw [insideN_way HJ'.out t u 256 (by omega) n1] at h2
                  rw [insideN_way HJ'.out u t 256 (by omega) n2]
                  rw [decide_eq_false_iff_not] at h2
                  rw [decide_eq_true_iff]
                  exact h3.elim id (fun h => absurd h h2)
                generalize insideN (upT T') t 256 u = ov at HI1 HOR
                generalize insideN (upT T') u 256 t = un at HI2 HOR
                generalize a2.testBit u = bu at e3 HOR
                cases bu with
                | false =>
                  go_wp2_with fail
                  refine HI1.out.mono ?_
                  rintro r w7 ⟨rfl, rfl⟩
                  go_wp2_with fail
                  refine HI2.out.mono ?_
                  rintro r w7 ⟨rfl, rfl⟩
                  go_wp2_with fail
                  go_round
                  case rel => exact ⟨u + 1, by omega, by omega, by go_num⟩
                  case measure => simp [intOf]; omega
                | true =>
                  cases ov with
                  | true =>
                    go_wp2_with fail
                    refine HI1.out.mono ?_
                    rintro r w7 ⟨rfl, rfl⟩
                    go_wp2_with fail
                    refine HI2.out.mono ?_
                    rintro r w7 ⟨rfl, rfl⟩
                    go_wp2_with fail
                    go_round
                    case rel => exact ⟨u + 1, by omega, by omega, by go_num⟩
                    case measure => simp [intOf]; omega
                  | false =>
                    have hun := HOR.out rfl rfl
                    subst hun
                    go_wp2_with fail
                    refine HI1.out.mono ?_
                    rintro r w7 ⟨rfl, rfl⟩
                    go_wp2_with fail
                    refine HI2.out.mono ?_
                    rintro r w7 ⟨rfl, rfl⟩
                    go_wp2_with fail
                    go_round
                    case rel => exact ⟨u + 1, by omega, by omega, by go_num⟩
                    case measure => simp [intOf]; omega
              · have hge : ¬ (u : Int) < 16 := by omega
                go_wp2_with fail
                go_round
                case rel => exact ⟨t + 1, by omega, by omega, by go_num⟩
                case measure => simp [intOf]; omega
        · have hge : ¬ (t : Int) < 16 := by omega
          go_wp2_with fail
          go_roundw
          case rel => exact ⟨x + 1, by omega, by go_num, HAM.out⟩
          case measure => simp [intOf]; omega
    · have hge : ¬ (x : Int) < 4 := by omega
      go_wp2_with fail
      go_ret
      exact ⟨rfl, HAW.out.2.2⟩

end Go.Proofs.Ytfdalbmopaemgaa
