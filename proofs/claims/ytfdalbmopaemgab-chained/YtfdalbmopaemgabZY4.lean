import Derived.Test.YtfdalbmopaemgabZY3
namespace Go.Proofs.Ytfdalbmopaemgab
open Go.RowKit

structure ChW (w : World) (b : Nat) (es : List Ev) (wr : World) : Prop where
  st : StC wr b es
  below : Below w.heap.size w wr

theorem ChW.go {w : World} {b : Nat} {es es' : List Ev} {wr w' : World} (h : ChW w b es wr) (h' : StP wr b es' w') (hb : w.heap.size ≤ b) : ChW w b es' w' := ⟨h'.1, h'.2.low h.below hb h.below.size⟩

set_option maxRecDepth 100000 in
set_option maxHeartbeats 8000000 in
theorem chained_walk (c x : Nat) (v : Int) (w : World) (hc : c ≤ 255) (hx : x ≤ 255) :
    Calls Try.prog 6 #[.int .u8 (c : Int), .int .u8 (x : Int), .int .i32 v] w fun r w' => r = .returned (.bool true) ∧ Below w.heap.size w w' := by
  obtain ⟨n, hn⟩ : ∃ n, n = 1 + c % 14 := ⟨_, rfl⟩
  obtain ⟨y, hy⟩ : ∃ y, y = x % 4 := ⟨_, rfl⟩
  have hn1 : 1 ≤ n := by omega
  have hn14 : n ≤ 14 := by omega
  have hy4 : y < 4 := by omega
  have HEN : Hid ((1 : Int) + (c : Int) % 14 = (n : Int)) := by show _ = _; omega
  have HEY : Hid ((x : Int) % 4 = (y : Int)) := by show _ = _; omega
  have b1 : 0 ≤ (c : Int) % 14 := by omega
  have b2 : (c : Int) % 14 < 14 := by omega
  have HNN := hidIt hn
  have HYY := hidIt hy
  clear hn hy
  go_enter Try.func6, Try.ntmps6
  go_wp2_with fail
  refine (new_any w).mono ?_
  rintro r w1 ⟨rfl, h1, hb1⟩
  have HBE := hidIt (gbegin w.heap.size 0 [] w1 h1 (by omega))
  rw [Ch1.start.1] at HBE
  have HCW : Hid (ChW w w.heap.size [] w1) := ⟨h1, hb1⟩
  clear h1 hb1
  go_wp2_with fail
  refine HBE.out.mono ?_
  rintro r w2 ⟨rfl, h2⟩
  have HW2 := hidIt (HCW.out.go h2 (Nat.le_refl _))
  clear h2 HBE HCW
  go_wp2_with fail
  rw [HEN.out, HEY.out]
  clear b1 b2
  go_loopw [10, 11, 12] (fun e u i wr => ∃ (k : Nat) (es : List Ev), k ≤ n ∧ e = .int .i64 0 ∧ u = .int .u8 (upN k : Int) ∧ i = .int .u8 (k : Int) ∧ Hid (Ch1 es k) ∧ ChW w w.heap.size es wr) (fun _ _ i _ => n - (intOf i).toNat)
  case atStart => exact ⟨0, _, by omega, rfl, rfl, rfl, Ch1.start.2, HW2.out⟩
  case round =>
    clear HW2
    obtain ⟨k, es, hk, rfl, rfl, rfl, HC1, hcw⟩ := hrel
    have hk0 : (0 : Int) ≤ (k : Int) := by omega
    have HCW := hidIt hcw
    clear hcw
    by_cases hlt : k < n
    · have hlt' : (k : Int) < (n : Int) := by omega
      have HNX := hidIt (HC1.out.next (by omega))
      have HUL : Hid (upN k ≤ 255) := by show _ ≤ _; unfold upN; split <;> omega
      have HBE := hidIt (gbegin w.heap.size (upN k) es wr HCW.out.st HUL.out)
      rw [HNX.out.1] at HBE
      have HUP : Hid (upN (k + 1) = k + 2) := by show _ = _; unfold upN; rw [if_neg (by omega)]
      go_wp2_with fail
      refine HBE.out.mono ?_
      rintro r w3 ⟨rfl, h3⟩
      have HW3 := hidIt (HCW.out.go h3 (Nat.le_refl _))
      clear h3 HBE
      go_wp2_with fail
      go_roundw
      case rel => exact ⟨k + 1, _, by omega, rfl, by rw [HUP.out]; go_num, by go_num, HNX.out.2, HW3.out⟩
      case measure => simp [intOf]; omega
    · have hlt' : ¬ (k : Int) < (n : Int) := by omega
      have hkn : k = n := by omega
      subst hkn
      have HUP : Hid ((upN k : Int) = (k : Int) + 1) := by show _ = _; unfold upN; rw [if_neg (by omega)]; omega
      have HWR := hidIt (HC1.out.write hn1 hn14 y hy4 v)
      have HBE := hidIt (gwrite w.heap.size (k + 1) y v es wr HCW.out.st (by omega) (by omega))
      rw [HWR.out.1, show ((k + 1 : Nat) : Int) = (k : Int) + 1 by omega] at HBE
      rw [show ((k + 1 : Nat) : Int) = (k : Int) + 1 by omega] at HWR
      rw [HUP.out]
      go_wp2_with fail
      refine HBE.out.mono ?_
      rintro r w3 ⟨rfl, h3⟩
      have HW3 := hidIt (HCW.out.go h3 (Nat.le_refl _))
      have HC2 := hidIt HWR.out.2
      clear h3 HBE HWR
      generalize (accessR es 3 ((k : Int) + 1) (y : Int) v).1 = es2 at HW3 HC2
      go_wp2_with fail
      go_loopw [10, 13] (fun e tv wr => ∃ (t : Nat) (es : List Ev), 1 ≤ t ∧ t ≤ k + 1 ∧ e = .int .i64 0 ∧ tv = .int .u8 (t : Int) ∧ Hid (Ch2 es y v k t) ∧ ChW w w.heap.size es wr) (fun _ tv _ => (intOf tv).toNat)
      case atStart => exact ⟨k + 1, es2, by omega, by omega, rfl, by congr 1, HC2, HW3.out⟩
      case round =>
        clear HW3 HC2
        obtain ⟨t, es3, ht1, htk, rfl, rfl, HC3, hcw⟩ := hrel
        have HCW3 := hidIt hcw
        clear hcw
        have ht0 : (0 : Int) ≤ (t : Int) := by omega
        by_cases hlt2 : 1 < t
        · have hlt2' : (1 : Int) < (t : Int) := by omega
          obtain ⟨r1, r2, r3, r4⟩ := HC3.out.round hn14 hy4 (by omega) htk
          have HR4 := hidIt r4
          have HB1 := hidIt (gread w.heap.size 1 y es3 wr HCW3.out.st (by omega) (by omega))
          rw [r1] at HB1
          have HR23 := hidIt (And.intro r2 r3)
          clear r1 r2 r3 r4
          go_wp2_with fail
          refine HB1.out.mono ?_
          rintro r u1 ⟨rfl, h1⟩
          have HK1 := hidIt (HCW3.out.go h1 (Nat.le_refl _))
          clear h1 HB1
          have HB2 := hidIt (gread w.heap.size t y es3 u1 HK1.out.st (by omega) (by omega))
          rw [HR23.out.1] at HB2
          go_wp2_with fail
          refine HB2.out.mono ?_
          rintro r u2 ⟨rfl, h2⟩
          have HK2 := hidIt (HK1.out.go h2 (Nat.le_refl _))
          clear h2 HB2
          have HB3 := hidIt (gcommit w.heap.size t _ u2 HK2.out.st (by omega))
          rw [HR23.out.2] at HB3
          go_wp2_with fail
          refine HB3.out.mono ?_
          rintro r u3 ⟨rfl, h3⟩
          have HK3 := hidIt (HK2.out.go h3 (Nat.le_refl _))
          clear h3 HB3
          go_wp2_with fail
          go_roundw
          case rel => exact ⟨t - 1, _, by omega, by omega, rfl, by congr 1; go_num, HR4.out, HK3.out⟩
          case measure => simp [intOf]; omega
        · have hlt2' : ¬ (1 : Int) < (t : Int) := by omega
          have hte : t = 1 := by omega
          subst hte
          have HLA := hidIt (HC3.out.last hn14 hy4)
          have HB1 := hidIt (gread w.heap.size 1 y es3 wr HCW3.out.st (by omega) (by omega))
          rw [HLA.out.1] at HB1
          go_wp2_with fail
          refine HB1.out.mono ?_
          rintro r u1 ⟨rfl, h1⟩
          have HK1 := hidIt (HCW3.out.go h1 (Nat.le_refl _))
          have HIV := hidIt HLA.out.2
          clear h1 HB1 HLA
          generalize (accessR es3 2 ((1 : Nat) : Int) (y : Int) 0).1 = es4 at HK1 HIV
          have HB2 := hidIt (gvalues w.heap.size es4 u1 HK1.out.st)
          go_wp2_with fail
          refine HB2.out.mono ?_
          rintro r u2 ⟨rfl, hb2⟩
          have HB3 : Hid (∀ c n, Below w.heap.size w ((u2.alloc c).drewN n)) := fun c n => below_drewN ((HK1.out.below.trans (hb2.mono HK1.out.below.size)).trans ((Below.refl _ _).alloc (HK1.out.below.trans (hb2.mono HK1.out.below.size)).size c)) n
          have hyy : y = 0 ∨ y = 1 ∨ y = 2 ∨ y = 3 := by omega
          have hiv := HIV.out
          clear hb2 HB2
          rcases hyy with rfl | rfl | rfl | rfl
          · go_wp2_with fail
            go_ret
            exact ⟨ret_bool (by simpa using hiv), HB3.out _ 0⟩
          · go_wp2_with fail
            go_ret
            exact ⟨ret_bool (by simpa using hiv), HB3.out _ 0⟩
          · go_wp2_with fail
            go_ret
            exact ⟨ret_bool (by simpa using hiv), HB3.out _ 0⟩
          · go_wp2_with fail
            go_ret
            exact ⟨ret_bool (by simpa using hiv), HB3.out _ 0⟩

end Go.Proofs.Ytfdalbmopaemgab
