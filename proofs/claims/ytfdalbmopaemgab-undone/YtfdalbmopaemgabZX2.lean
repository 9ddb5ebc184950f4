import Derived.Test.YtfdalbmopaemgabZX1
namespace Go.Proofs.Ytfdalbmopaemgab
open Go.RowKit

theorem FrB.low {w0 w w' : World} {B b : Nat} (h0 : Below B w0 w) (h : FrB w w' b) (hb : B ≤ b) (hB : B ≤ w.heap.size) : Below B w0 w' :=
  h0.trans ⟨h.below.os, h.below.tape, h.below.output, h.below.size, fun k hk => h.rest k (by omega) (by omega)⟩

def kEs : List Ev := [⟨1, 1, 0, 0, 0⟩, ⟨1, 2, 1, 0, 0⟩, ⟨4, 2, 2, 7, 0⟩, ⟨5, 2, 0, 0, 0⟩, ⟨2, 1, 2, 0, 7⟩, ⟨5, 1, 0, 0, 0⟩]
theorem kn1 : beginR [] ((0 : Nat) : Int) = (kEs.take 1, 1, 0) := by kernel_rfl
theorem kn2 : beginR (kEs.take 1) ((1 : Nat) : Int) = (kEs.take 2, 2, 0) := by kernel_rfl
theorem kn3 : accessR (kEs.take 2) 4 ((2 : Nat) : Int) ((2 : Nat) : Int) 7 = (kEs.take 3, 7, 0) := by kernel_rfl
theorem kn4 : endR (kEs.take 3) 5 ((2 : Nat) : Int) = (kEs.take 4, 0) := by kernel_rfl
theorem kn5 : accessR (kEs.take 4) 2 ((1 : Nat) : Int) ((2 : Nat) : Int) 0 = (kEs.take 5, 7, 0) := by kernel_rfl
theorem kn6 : endR (kEs.take 5) 5 ((1 : Nat) : Int) = (kEs, 0) := by kernel_rfl
theorem kn7 : accessR kEs 2 ((1 : Nat) : Int) ((2 : Nat) : Int) 0 = (kEs, 0, 4) := by kernel_rfl
theorem kn8 : (valsV fun i => isL kEs 0 (i : Int)) = .agg #[.int .i32 0, .int .i32 0, .int .i32 7, .int .i32 0] := by kernel_rfl

def KnS (w : World) (es : List Ev) (w' : World) : Prop := StC w' w.heap.size es ∧ Below w.heap.size w w'

theorem KnS.go {w w1 w2 : World} {es es' : List Ev} (h : KnS w es w1) (h' : StP w1 w.heap.size es' w2) : KnS w es' w2 := ⟨h'.1, h'.2.low h.2 (Nat.le_refl _) h.2.size⟩

set_option maxRecDepth 100000 in
set_option maxHeartbeats 4000000 in
theorem known_any (w : World) : Calls Try.prog 8 #[] w fun r w' => r = .returned (.bool true) ∧ Below w.heap.size w w' := by
  have heq := Try.eqVals
  go_enter Try.func8, Try.ntmps8
  go_wp2_with fail
  refine (new_any w).mono ?_
  rintro r w1 ⟨rfl, h1, hb1⟩
  have HK1 : Hid (KnS w [] w1) := ⟨h1, hb1⟩
  clear h1 hb1
  go_wp2_with fail
  have HC1 := hidIt (gbegin w.heap.size 0 [] w1 HK1.out.1 (by omega))
  rw [kn1] at HC1
  refine HC1.out.mono ?_
  rintro r w2 ⟨rfl, hs⟩
  have HK2 := hidIt (HK1.out.go hs)
  clear hs HC1
  go_wp2_with fail
  have HC2 := hidIt (gbegin w.heap.size 1 (kEs.take 1) w2 HK2.out.1 (by omega))
  rw [kn2] at HC2
  refine HC2.out.mono ?_
  rintro r w3 ⟨rfl, hs⟩
  have HK3 := hidIt (HK2.out.go hs)
  clear hs HC2
  go_wp2_with fail
  have HC3 := hidIt (gadd w.heap.size 2 2 7 (kEs.take 2) w3 HK3.out.1 (by omega) (by omega))
  rw [kn3] at HC3
  refine HC3.out.mono ?_
  rintro r w4 ⟨rfl, hs⟩
  have HK4 := hidIt (HK3.out.go hs)
  clear hs HC3
  go_wp2_with fail
  have HC4 := hidIt (gcommit w.heap.size 2 (kEs.take 3) w4 HK4.out.1 (by omega))
  rw [kn4] at HC4
  refine HC4.out.mono ?_
  rintro r w5 ⟨rfl, hs⟩
  have HK5 := hidIt (HK4.out.go hs)
  clear hs HC4
  go_wp2_with fail
  have HC5 := hidIt (gread w.heap.size 1 2 (kEs.take 4) w5 HK5.out.1 (by omega) (by omega))
  rw [kn5] at HC5
  refine HC5.out.mono ?_
  rintro r w6 ⟨rfl, hs⟩
  have HK6 := hidIt (HK5.out.go hs)
  clear hs HC5
  go_wp2_with fail
  have HC6 := hidIt (gcommit w.heap.size 1 (kEs.take 5) w6 HK6.out.1 (by omega))
  rw [kn6] at HC6
  refine HC6.out.mono ?_
  rintro r w7 ⟨rfl, hs⟩
  have HK7 := hidIt (HK6.out.go hs)
  clear hs HC6
  go_wp2_with fail
  have HC7 := hidIt (gread w.heap.size 1 2 kEs w7 HK7.out.1 (by omega) (by omega))
  rw [kn7] at HC7
  refine HC7.out.mono ?_
  rintro r w8 ⟨rfl, hs⟩
  have HK8 := hidIt (HK7.out.go hs)
  clear hs HC7
  go_wp2_with fail
  have HV := hidIt (gvalues w.heap.size kEs w8 HK8.out.1)
  rw [kn8] at HV
  refine HV.out.mono ?_
  rintro r w9 ⟨rfl, hb⟩
  have HK9 : Hid (KnS w kEs w9) := ⟨HK8.out.1.of_heap (hb.block _ HK8.out.1.lt) hb.size, HK8.out.2.trans (hb.mono HK8.out.2.size)⟩
  clear hb HV
  go_wp2_with fail
  have hba : Below w9.heap.size w9 (w9.alloc (.cells #[.int .i32 0, .int .i32 0, .int .i32 7, .int .i32 0] 53)) := (Below.refl _ _).alloc (Nat.le_refl _) _
  have HH := hidIt (ghistory w.heap.size kEs (w9.alloc (.cells #[.int .i32 0, .int .i32 0, .int .i32 7, .int .i32 0] 53)) (HK9.out.1.of_heap (hba.block _ HK9.out.1.lt) hba.size))
  have HB9 : Hid (Below w.heap.size w (w9.alloc (.cells #[.int .i32 0, .int .i32 0, .int .i32 7, .int .i32 0] 53))) := HK9.out.2.trans (hba.mono HK9.out.2.size)
  clear hba
  refine HH.out.mono ?_
  rintro r w10 ⟨v, rfl, ho, hb⟩
  obtain ⟨a, c, hv⟩ := ho.form
  rw [show kEs.length = 6 from rfl] at hv
  subst hv
  have HB : Hid (Below w.heap.size w w10) := HB9.out.trans (hb.mono HB9.out.size)
  have hblk := hb.block w9.heap.size (by simp)
  have q0 : w10.cell? ⟨w9.heap.size, 0, none⟩ = some (.int .i32 0) := by rw [World.cell?_of_block (a := ⟨w9.heap.size, 0, none⟩) hblk]; simp [go_sem]
  have q1 : w10.cell? ⟨w9.heap.size, 1, none⟩ = some (.int .i32 0) := by rw [World.cell?_of_block (a := ⟨w9.heap.size, 1, none⟩) hblk]; simp [go_sem]
  have q2 : w10.cell? ⟨w9.heap.size, 2, none⟩ = some (.int .i32 7) := by rw [World.cell?_of_block (a := ⟨w9.heap.size, 2, none⟩) hblk]; simp [go_sem]
  have q3 : w10.cell? ⟨w9.heap.size, 3, none⟩ = some (.int .i32 0) := by rw [World.cell?_of_block (a := ⟨w9.heap.size, 3, none⟩) hblk]; simp [go_sem]
  clear ho hb HH hblk
  go_wp2_with fail
  go_ret
  exact ⟨rfl, HB.out⟩

end Go.Proofs.Ytfdalbmopaemgab
