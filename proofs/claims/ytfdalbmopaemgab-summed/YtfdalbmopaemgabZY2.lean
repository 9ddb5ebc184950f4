import Derived.Test.YtfdalbmopaemgabZY1
import Derived.Test.YtfdalbmopaemgabZDQ
namespace Go.Proofs.Ytfdalbmopaemgab
open Go.RowKit

/-- The slice value v holds the answers bs. -/
def SlB (w : World) (v : Value) (bs : List Bool) : Prop :=
  (bs = [] ∧ ∃ a c, v = .slice a 0 c) ∨ (∃ b off cap, v = .slice (some ⟨b, off, none⟩) bs.length cap ∧ b < w.heap.size ∧ ∀ (i : Nat) (h : i < bs.length), w.cell? ⟨b, off + i, none⟩ = some (.bool bs[i]))

theorem SlB.form {w : World} {v : Value} {bs : List Bool} (h : SlB w v bs) : ∃ a c, v = .slice a bs.length c := by
  rcases h with ⟨rfl, a, c, rfl⟩ | ⟨b, off, c, rfl, _⟩
  · exact ⟨a, c, rfl⟩
  · exact ⟨_, c, rfl⟩

theorem SlB.at_ {w wr : World} {a : Option Addr} {c : Nat} {bs : List Bool} (h : SlB w (.slice a bs.length c) bs) (hb : Below w.heap.size w wr) (k : Nat) (hk : k < bs.length) : ∃ b off, a = some ⟨b, off, none⟩ ∧ b < wr.heap.size ∧ wr.cell? ⟨b, off + k, none⟩ = some (.bool bs[k]) := by
  rcases h with ⟨rfl, _⟩ | ⟨b, off, cap, hv, hlt, hc⟩
  · simp at hk
  · simp only [Value.slice.injEq] at hv
    obtain ⟨rfl, _, rfl⟩ := hv
    exact ⟨b, off, rfl, Nat.lt_of_lt_of_le hlt hb.size, by rw [bcells hb _ _ hlt]; exact hc k hk⟩

structure SmL (w : World) (b g : Nat) (es : List Ev) (V : Nat → Int) (wr : World) : Prop where
  st : StC wr b es
  v : VAt wr g V
  below : Below w.heap.size w wr

theorem SmL.go {w : World} {b g : Nat} {es es' : List Ev} {V : Nat → Int} {wr w' : World} (h : SmL w b g es V wr) (h' : StP wr b es' w') (hg : g ≠ b) (hb : w.heap.size ≤ b) : SmL w b g es' V w' :=
  ⟨h'.1, h.v.of_heap (h'.2.rest g h.v.lt hg) h'.2.below.size, h'.2.low h.below hb h.below.size⟩

theorem SmL.drewN {w : World} {b g : Nat} {es : List Ev} {V : Nat → Int} {wr : World} (h : SmL w b g es V wr) (n : Nat) : SmL w b g es V (wr.drewN n) := ⟨h.st.drewN n, h.v.drewN n, below_drewN h.below n⟩

theorem SmL.set {w : World} {b g : Nat} {es : List Ev} {V : Nat → Int} {wr : World} (h : SmL w b g es V wr) (hg : g ≠ b) (hw : w.heap.size ≤ g) (i : Nat) (hi : i < 4) (v : Int) : SmL w b g es (upd V i v) (wr.setCell ⟨g, i, none⟩ (.int .i32 v)) :=
  ⟨h.st.of_heap (Below.heap_setCell _ ⟨g, i, none⟩ _ _ (Ne.symm hg)) (by simp), h.v.set i hi v, h.below.setCell (p := ⟨g, i, none⟩) hw _⟩

set_option maxRecDepth 100000 in
set_option maxHeartbeats 8000000 in
theorem summed_walk (v1 v2 : Value) (ls : List Int) (bs : List Bool) (w : World) (hs1 : SlI w v1 ls) (hs2 : SlB w v2 bs) (hl32 : ∀ x ∈ ls, -2147483648 ≤ x ∧ x ≤ 2147483647) (hm1 : ls.length ≤ 9223372036854775807) :
    Calls Try.prog 5 #[v1, v2] w fun r w' => r = .returned (.bool true) ∧ Below w.heap.size w w' := by
  have heq := Try.eqVals
  obtain ⟨a1, c1, rfl⟩ := hs1.form
  obtain ⟨a2, c2, rfl⟩ := hs2.form
  have HS1 := hidIt hs1
  have HS2 := hidIt hs2
  have HL := hidIt hl32
  clear hs1 hs2 hl32
  go_enter Try.func5, Try.ntmps5
  go_wp2_with fail
  refine (new_any w).mono ?_
  rintro r w1 ⟨rfl, h1, hb1⟩
  have hba : Below w1.heap.size w1 (w1.alloc (.cells #[.int .i32 0, .int .i32 0, .int .i32 0, .int .i32 0] 53)) := (Below.refl _ _).alloc (Nat.le_refl _) _
  have H0 : Hid (SmL w w.heap.size w1.heap.size [] (fun _ => 0) (w1.alloc (.cells #[.int .i32 0, .int .i32 0, .int .i32 0, .int .i32 0] 53))) := ⟨h1.of_heap (hba.block _ h1.lt) hba.size, vat_new w1 _, hb1.trans (hba.mono hb1.size)⟩
  have hgb : w1.heap.size ≠ w.heap.size := by have := h1.lt; omega
  have hgw : w.heap.size ≤ w1.heap.size := Nat.le_of_lt h1.lt
  clear h1 hb1 hba
  go_wp2_with fail
  go_loopw [7] (fun i wr => ∃ (k : Nat) (es : List Ev) (V : Nat → Int), k ≤ 15 ∧ k ≤ ls.length ∧ i = .int .i64 k ∧ Hid (Su es k V) ∧ SmL w w.heap.size w1.heap.size es V wr) (fun i _ => 15 - (intOf i).toNat)
  case atStart => exact ⟨0, [], fun _ => 0, by omega, by omega, rfl, Su.start, H0.out⟩
  case round =>
    clear H0
    obtain ⟨k, es, V, hk15, hkl, rfl, HSU, hsm⟩ := hrel
    have hk0 : (0 : Int) ≤ (k : Int) := by omega
    have HSM := hidIt hsm
    clear hsm
    by_cases p1 : k < ls.length
    · have p1' : (k : Int) < (ls.length : Int) := by omega
      by_cases p2 : k < 15
      · have p2' : (k : Int) < 15 := by omega
        obtain ⟨lb, loff, ha1, _, _⟩ := HS1.out.at_ HSM.out.below k p1
        obtain ⟨lv, hlv⟩ : ∃ x, ls.getD k 0 = x := ⟨_, rfl⟩
        have HGL : Hid (∀ w', Below w.heap.size w w' → w'.cell? ⟨lb, loff + k, none⟩ = some (.int .i32 lv)) := fun w' hb => by
          obtain ⟨b, off, he, _, hc⟩ := HS1.out.at_ hb k p1
          rw [ha1] at he
          simp only [Option.some.injEq, Addr.mk.injEq, and_true] at he
          rw [← hlv, he.1, he.2]
          exact hc
        have hlb : lb < w.heap.size := by
          rcases HS1.out with ⟨h0, _⟩ | ⟨b, off, cap, hv, hlt, _⟩
          · rw [h0] at p1; simp at p1
          · simp only [Value.slice.injEq] at hv
            rw [ha1] at hv
            simp only [Option.some.injEq, Addr.mk.injEq, and_true] at hv
            rw [hv.1.1]; exact hlt
        subst ha1
        clear hlv
        have HBE := hidIt (gbegin w.heap.size 0 es wr HSM.out.st (by omega))
        rw [HSU.out.begin_ p2] at HBE
        go_wp2_with fail
        refine HBE.out.mono ?_
        rintro r u1 ⟨rfl, h1⟩
        have HS1' := hidIt (HSM.out.go h1 hgb (Nat.le_refl _))
        clear h1 HBE
        have gl := HGL.out u1 HS1'.out.below
        have hlb1 : lb < u1.heap.size := Nat.lt_of_lt_of_le hlb HS1'.out.below.size
        have ec : ((k + 1 : Nat) : Int) = (k : Int) + 1 := by omega
        have em : ((k % 4 : Nat) : Int) = (k : Int) % 4 := by omega
        have HX4 : Hid (k % 4 < 4) := Nat.mod_lt _ (by decide)
        have HAD := hidIt (gadd w.heap.size (k + 1) (k % 4) lv (su1 es k) u1 HS1'.out.st (by omega) (by omega))
        rw [(HSU.out.add p2 (k % 4) HX4.out lv).1, ec, em] at HAD
        have HDN := hidIt (HSU.out.done p2 (k % 4) HX4.out lv)
        have ec' : Hid (((k + 1 : Nat) : Int) = (k : Int) + 1) := ec
        clear ec em
        go_wp2_with fail
        refine HAD.out.mono ?_
        rintro r u2 ⟨rfl, h2⟩
        have HS2' := hidIt (HS1'.out.go h2 hgb (Nat.le_refl _))
        clear h2 HAD
        have gv := HS2'.out.v.cell (k % 4) HX4.out
        have gfz := HS2'.out.v.fz
        have hx40 : (0 : Int) ≤ (k : Int) % 4 := by omega
        have hx41 : (k : Int) % 4 < 4 := by omega
        have hxn : ((k : Int) % 4).toNat = k % 4 := by omega
        have gl2 := HGL.out u2 HS2'.out.below
        have hlb2 : lb < u2.heap.size := Nat.lt_of_lt_of_le hlb HS2'.out.below.size
        have HAB : Hid (∀ n, Calls Try.prog 17 #[.pointer (some ⟨w.heap.size, 0, none⟩), .int .u8 ((k : Int) + 1)] (u2.drewN n) fun r w' => r = .returned (.int .i64 0) ∧ StP (u2.drewN n) w.heap.size (su3 es k (k % 4) lv (V (k % 4)) 6) w') := fun n => by
          have := gabort w.heap.size (k + 1) (su2 es k (k % 4) lv (V (k % 4))) (u2.drewN n) (HS2'.out.drewN n).st (by omega)
          rwa [HDN.out.2.2.1, ec'.out] at this
        have HSS : Hid (∀ n, SmL w w.heap.size w1.heap.size (su2 es k (k % 4) lv (V (k % 4))) (upd V (k % 4) (wrap32 (V (k % 4) + lv))) ((u2.drewN n).setCell ⟨w1.heap.size, k % 4, none⟩ (.int .i32 (wrap32 (V (k % 4) + lv))))) := fun n => (HS2'.out.drewN n).set hgb hgw (k % 4) HX4.out _
        have HCM : Hid (∀ n, Calls Try.prog 16 #[.pointer (some ⟨w.heap.size, 0, none⟩), .int .u8 ((k : Int) + 1)] ((u2.drewN n).setCell ⟨w1.heap.size, k % 4, none⟩ (.int .i32 (wrap32 (V (k % 4) + lv)))) fun r w' => r = .returned (.int .i64 0) ∧ StP ((u2.drewN n).setCell ⟨w1.heap.size, k % 4, none⟩ (.int .i32 (wrap32 (V (k % 4) + lv)))) w.heap.size (su3 es k (k % 4) lv (V (k % 4)) 5) w') := fun n => by
          have := gcommit w.heap.size (k + 1) (su2 es k (k % 4) lv (V (k % 4))) _ (HSS.out n).st (by omega)
          rwa [HDN.out.1, ec'.out] at this
        by_cases p3 : k < bs.length
        · have p3' : (k : Int) < (bs.length : Int) := by omega
          obtain ⟨db, doff, ha2, hdb2, gd⟩ := HS2.out.at_ HS2'.out.below k p3
          subst ha2
          cases hbv : bs[k] with
          | true =>
            rw [hbv] at gd
            clear hbv
            go_wp2_with fail
            go_quiet (fail)
            go_wp2_with fail
            go_region
            go_wp2_with fail
            refine (HCM.out _).mono ?_
            rintro r u3 ⟨rfl, h3⟩
            have HS3' := hidIt ((HSS.out _).go h3 hgb (Nat.le_refl _))
            clear h3
            go_wp2_with fail
            go_roundw
            case rel => exact ⟨k + 1, _, _, by omega, by omega, by go_num, HDN.out.2.1, HS3'.out⟩
            case measure => simp [intOf]; omega
          | false =>
            rw [hbv] at gd
            clear hbv
            go_wp2_with fail
            go_quiet (fail)
            go_wp2_with fail
            refine (HAB.out _).mono ?_
            rintro r u3 ⟨rfl, h3⟩
            have HS3' := hidIt ((HS2'.out.drewN _).go h3 hgb (Nat.le_refl _))
            clear h3
            go_wp2_with fail
            go_roundw
            case rel => exact ⟨k + 1, _, V, by omega, by omega, by go_num, HDN.out.2.2.2, HS3'.out⟩
            case measure => simp [intOf]; omega
        · have p3' : ¬ (k : Int) < (bs.length : Int) := by omega
          go_wp2_with fail
          go_quiet (fail)
          go_wp2_with fail
          refine (HAB.out _).mono ?_
          rintro r u3 ⟨rfl, h3⟩
          have HS3' := hidIt ((HS2'.out.drewN _).go h3 hgb (Nat.le_refl _))
          clear h3
          go_wp2_with fail
          go_roundw
          case rel => exact ⟨k + 1, _, V, by omega, by omega, by go_num, HDN.out.2.2.2, HS3'.out⟩
          case measure => simp [intOf]; omega
      · have p2' : ¬ (k : Int) < 15 := by omega
        have hk5 : k = 15 := by omega
        subst hk5
        have q15 : (15 : Int) ≤ (ls.length : Int) := by omega
        have HBE := hidIt (gbegin w.heap.size 0 es wr HSM.out.st (by omega))
        rw [HSU.out.full] at HBE
        go_wp2_with fail
        refine HBE.out.mono ?_
        rintro r u1 ⟨rfl, h1⟩
        have HS1' := hidIt (HSM.out.go h1 hgb (Nat.le_refl _))
        clear h1 HBE
        have HVL : Hid (Calls Try.prog 23 #[.pointer (some ⟨w.heap.size, 0, none⟩)] u1 fun r w' => r = .returned (.agg #[.int .i32 (V 0), .int .i32 (V 1), .int .i32 (V 2), .int .i32 (V 3)]) ∧ Below u1.heap.size u1 w') := by
          have := gvalues w.heap.size _ u1 HS1'.out.st
          unfold valsV at this
          dsimp only at this
          rw [show isL _ 0 ((0 : Nat) : Int) = V 0 from HSU.out.val 0 (by omega), show isL _ 0 ((1 : Nat) : Int) = V 1 from HSU.out.val 1 (by omega), show isL _ 0 ((2 : Nat) : Int) = V 2 from HSU.out.val 2 (by omega), show isL _ 0 ((3 : Nat) : Int) = V 3 from HSU.out.val 3 (by omega)] at this
          exact this
        go_wp2_with fail
        refine HVL.out.mono ?_
        rintro r u2 ⟨rfl, hb2⟩
        have hv2 := HS1'.out.v.below hb2
        have q0 := hv2.cell 0 (by omega)
        have q1 := hv2.cell 1 (by omega)
        have q2 := hv2.cell 2 (by omega)
        have q3 := hv2.cell 3 (by omega)
        have hvl := hv2.lt
        have HB2 : Hid (Below w.heap.size w u2) := HS1'.out.below.trans (hb2.mono HS1'.out.below.size)
        have HB3 : Hid (∀ c n, Below w.heap.size w ((u2.alloc c).drewN n)) := fun c n => below_drewN (HB2.out.trans ((Below.refl _ _).alloc HB2.out.size c)) n
        clear hb2 hv2 HVL
        go_wp2_with fail
        go_ret
        exact ⟨ret_bool (by simp), HB3.out _ 0⟩
    · have p1' : ¬ (k : Int) < (ls.length : Int) := by omega
      have hke : k = ls.length := by omega
      by_cases p2 : k < 15
      · have q15 : ¬ (15 : Int) ≤ (ls.length : Int) := by omega
        have HBE := hidIt (gbegin w.heap.size 0 es wr HSM.out.st (by omega))
        rw [HSU.out.begin_ p2] at HBE
        go_wp2_with fail
        refine HBE.out.mono ?_
        rintro r u1 ⟨rfl, h1⟩
        have HS1' := hidIt (HSM.out.go h1 hgb (Nat.le_refl _))
        clear h1 HBE
        have HVL : Hid (Calls Try.prog 23 #[.pointer (some ⟨w.heap.size, 0, none⟩)] u1 fun r w' => r = .returned (.agg #[.int .i32 (V 0), .int .i32 (V 1), .int .i32 (V 2), .int .i32 (V 3)]) ∧ Below u1.heap.size u1 w') := by
          have := gvalues w.heap.size _ u1 HS1'.out.st
          unfold valsV at this
          dsimp only at this
          rw [show isL _ 0 ((0 : Nat) : Int) = V 0 from HSU.out.after p2 0 (by omega), show isL _ 0 ((1 : Nat) : Int) = V 1 from HSU.out.after p2 1 (by omega), show isL _ 0 ((2 : Nat) : Int) = V 2 from HSU.out.after p2 2 (by omega), show isL _ 0 ((3 : Nat) : Int) = V 3 from HSU.out.after p2 3 (by omega)] at this
          exact this
        go_wp2_with fail
        refine HVL.out.mono ?_
        rintro r u2 ⟨rfl, hb2⟩
        have hv2 := HS1'.out.v.below hb2
        have q0 := hv2.cell 0 (by omega)
        have q1 := hv2.cell 1 (by omega)
        have q2 := hv2.cell 2 (by omega)
        have q3 := hv2.cell 3 (by omega)
        have hvl := hv2.lt
        have HB2 : Hid (Below w.heap.size w u2) := HS1'.out.below.trans (hb2.mono HS1'.out.below.size)
        have HB3 : Hid (∀ c n, Below w.heap.size w ((u2.alloc c).drewN n)) := fun c n => below_drewN (HB2.out.trans ((Below.refl _ _).alloc HB2.out.size c)) n
        clear hb2 hv2 HVL
        go_wp2_with fail
        go_ret
        exact ⟨ret_bool (by simp), HB3.out _ 0⟩
      · have hk5 : k = 15 := by omega
        have q15 : (15 : Int) ≤ (ls.length : Int) := by omega
        clear hke
        subst hk5
        have HBE := hidIt (gbegin w.heap.size 0 es wr HSM.out.st (by omega))
        rw [HSU.out.full] at HBE
        go_wp2_with fail
        refine HBE.out.mono ?_
        rintro r u1 ⟨rfl, h1⟩
        have HS1' := hidIt (HSM.out.go h1 hgb (Nat.le_refl _))
        clear h1 HBE
        have HVL : Hid (Calls Try.prog 23 #[.pointer (some ⟨w.heap.size, 0, none⟩)] u1 fun r w' => r = .returned (.agg #[.int .i32 (V 0), .int .i32 (V 1), .int .i32 (V 2), .int .i32 (V 3)]) ∧ Below u1.heap.size u1 w') := by
          have := gvalues w.heap.size _ u1 HS1'.out.st
          unfold valsV at this
          dsimp only at this
          rw [show isL _ 0 ((0 : Nat) : Int) = V 0 from HSU.out.val 0 (by omega), show isL _ 0 ((1 : Nat) : Int) = V 1 from HSU.out.val 1 (by omega), show isL _ 0 ((2 : Nat) : Int) = V 2 from HSU.out.val 2 (by omega), show isL _ 0 ((3 : Nat) : Int) = V 3 from HSU.out.val 3 (by omega)] at this
          exact this
        go_wp2_with fail
        refine HVL.out.mono ?_
        rintro r u2 ⟨rfl, hb2⟩
        have hv2 := HS1'.out.v.below hb2
        have q0 := hv2.cell 0 (by omega)
        have q1 := hv2.cell 1 (by omega)
        have q2 := hv2.cell 2 (by omega)
        have q3 := hv2.cell 3 (by omega)
        have hvl := hv2.lt
        have HB2 : Hid (Below w.heap.size w u2) := HS1'.out.below.trans (hb2.mono HS1'.out.below.size)
        have HB3 : Hid (∀ c n, Below w.heap.size w ((u2.alloc c).drewN n)) := fun c n => below_drewN (HB2.out.trans ((Below.refl _ _).alloc HB2.out.size c)) n
        clear hb2 hv2 HVL
        go_wp2_with fail
        go_ret
        exact ⟨ret_bool (by simp), HB3.out _ 0⟩

end Go.Proofs.Ytfdalbmopaemgab
