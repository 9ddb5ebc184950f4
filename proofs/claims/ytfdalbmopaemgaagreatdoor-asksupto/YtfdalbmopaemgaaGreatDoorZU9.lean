import Derived.Test.YtfdalbmopaemgaaGreatDoorZU8
import Derived.Test.YtfdalbmopaemgaaGreatDoorZU2
import Derived.Test.YtfdalbmopaemgaaGreatDoorZU3
import Derived.Test.YtfdalbmopaemgaaGreatDoorZG5
import Derived.Deep.MidRow
namespace Go.Proofs.YtfdalbmopaemgaaGreatDoor
open Go.RowKit

structure OpB (o : OpD) : Prop where
  n0 : -9223372036854775808 ≤ o.n
  n1 : o.n ≤ 9223372036854775807
  t0 : 0 ≤ o.t
  t1 : o.t ≤ 255
  x0 : 0 ≤ o.x
  x1 : o.x ≤ 255
  v0 : -2147483648 ≤ o.v
  v1 : o.v ≤ 2147483647

theorem acted_all {St : World → (Nat → Prop) → Value → List Ev → Prop} (I : StOk St) (B pb : Nat) (F : Nat → Prop) (sp hv : Value) (es : List Ev) (ok on ot ox ov : Int) (ha : Option Addr) (hl hc : Nat) (os : ByteArray) (hk0 : 6 ≤ ok) (hk1 : ok ≤ 11) (hb : OpB ⟨ok, on, ot, ox, ov, .slice ha hl hc, os⟩) (w : World) (h : Pl St w B pb F sp hv es) (hB : B ≤ w.heap.size) :
    Calls Tryz.prog 20 #[.pointer (some ⟨pb, 0, none⟩), opV ⟨ok, on, ot, ox, ov, .slice ha hl hc, os⟩] w (PlPost St w B pb F sp hv) := by
  obtain ⟨_, _, t0, t1, x0, x1, v0, v1⟩ := hb
  simp only at t0 t1 x0 x1 v0 v1
  obtain ⟨tt, rfl⟩ : ∃ tt : Nat, ot = (tt : Int) := ⟨ot.toNat, by omega⟩
  obtain ⟨xx, rfl⟩ : ∃ xx : Nat, ox = (xx : Int) := ⟨ox.toNat, by omega⟩
  have hc' : ok = 6 ∨ ok = 7 ∨ ok = 8 ∨ ok = 9 ∨ ok = 10 ∨ ok = 11 := by omega
  rcases hc' with rfl | rfl | rfl | rfl | rfl | rfl
  · exact acted_begin I B pb F sp hv es on (xx : Int) ov tt ha hl hc os w h (by omega) hB
  · exact acted_read I B pb F sp hv es on ov xx tt ha hl hc os w h (by omega) (by omega) hB
  · exact acted_write I B pb F sp hv es on ov xx tt ha hl hc os w h (by omega) (by omega) v0 v1 hB
  · exact acted_add I B pb F sp hv es on ov xx tt ha hl hc os w h (by omega) (by omega) v0 v1 hB
  · exact acted_commit I B pb F sp hv es on (xx : Int) ov tt ha hl hc os w h (by omega) hB
  · exact acted_abort I B pb F sp hv es on (xx : Int) ov tt ha hl hc os w h (by omega) hB

/-- What a step of a script leaves. -/
def SPost (St : World → (Nat → Prop) → Value → List Ev → Prop) (w : World) (B wb H n : Nat) (r : Ending) (w' : World) : Prop :=
  r = .returned (.bool true) ∧ ∃ hv' hs' pv' ds', GInv St w' B wb hv' hs' pv' ds' ∧ hs'.length ≤ H + 4 ∧ ds'.length ≤ n + 1 ∧ Below B w w'

theorem asked_all {St : World → (Nat → Prop) → Value → List Ev → Prop} (I : StOk St) (J : StAsk St) (K : StHist St) (B wb : Nat) (hv pv : Value) (hs : List (Value × Int)) (ds : List PlD) (i : Nat) (hi : i < ds.length) (ok on ot ox ov : Int) (ha : Option Addr) (hl hc : Nat) (os : ByteArray) (hk0 : 12 ≤ ok) (hk1 : ok ≤ 14) (hb : OpB ⟨ok, on, ot, ox, ov, .slice ha hl hc, os⟩) (w : World) (h : GInv St w B wb hv hs pv ds) (hH : hs.length ≤ 10000000) :
    Calls Tryz.prog 19 #[.pointer (some ⟨wb, 0, none⟩), .pointer (some ⟨ds[i].pb, 0, none⟩), opV ⟨ok, on, ot, ox, ov, .slice ha hl hc, os⟩] w (SPost St w B wb hs.length ds.length) := by
  obtain ⟨_, _, _, _, x0, x1, _, _⟩ := hb
  simp only at x0 x1
  obtain ⟨xx, rfl⟩ : ∃ xx : Nat, ox = (xx : Int) := ⟨ox.toNat, by omega⟩
  have hBw : B ≤ w.heap.size := Nat.le_trans h.inv.base (Nat.le_of_lt h.inv.wb_lt)
  have hc' : ok = 12 ∨ ok = 13 ∨ ok = 14 := by omega
  rcases hc' with rfl | rfl | rfl
  · refine (asked_holders I J B ds[i].pb ds[i].F ds[i].sp ds[i].hv ds[i].es (some ⟨wb, 0, none⟩) on ot ov xx ha hl hc os w (h.each i hi) (by omega) hBw).mono fun r w' hp => ?_
    obtain ⟨ds', h1, h2, h3⟩ := h.act I i hi hp
    exact ⟨hp.1, hv, hs, pv, ds', h1, by omega, by omega, h3⟩
  · refine (asked_values I J B ds[i].pb ds[i].F ds[i].sp ds[i].hv ds[i].es (some ⟨wb, 0, none⟩) on ot (xx : Int) ov ha hl hc os w (h.each i hi) hBw).mono fun r w' hp => ?_
    obtain ⟨ds', h1, h2, h3⟩ := h.act I i hi hp
    exact ⟨hp.1, hv, hs, pv, ds', h1, by omega, by omega, h3⟩
  · refine (asked_history I K B wb hv pv hs ds i hi on ot (xx : Int) ov ha hl hc os w h hH).mono fun r w' ⟨h1, hv', hs', ds', h2, h3, h4, h5⟩ => ?_
    exact ⟨h1, hv', hs', pv, ds', h2, h3, by omega, h5⟩

set_option maxHeartbeats 1000000 in
theorem pick_one (c : Int) (n : Nat) (h0 : -9223372036854775808 ≤ c) (h1 : c ≤ 9223372036854775807) (hn : 0 < n) (hn2 : n ≤ 1048576) :
    ∃ k : Nat, k < n ∧ ∀ w, Calls Tryz.prog 18 #[.int .i64 c, .int .i64 (n : Int)] w fun r w' => r = .returned (.int .i64 (k : Int)) ∧ w' = w := by
  have hn0 : (0 : Int) < (n : Int) := by omega
  have hmod : ∀ m : Int, 0 ≤ m → ∃ k : Nat, k < n ∧ m.tmod (n : Int) = (k : Int) := fun m hm => by
    have h2 := Int.emod_nonneg m (show (n : Int) ≠ 0 by omega)
    have h3 := Int.emod_lt_of_pos m hn0
    exact ⟨(m % (n : Int)).toNat, by omega, by rw [Int.tmod_eq_emod_of_nonneg hm]; omega⟩
  by_cases hc : c < 0
  · obtain ⟨k, hk, hm⟩ := hmod (-(c + 1)) (by omega)
    rw [Int.neg_tmod] at hm
    have HK := hidIt (And.intro hk hm)
    clear hk hm hmod
    refine ⟨k, HK.out.1, fun w => ?_⟩
    go_enter Tryz.func18, Tryz.ntmps18
    go_wp2
    go_ret
    exact ⟨ret_int HK.out.2, rfl⟩
  · obtain ⟨k, hk, hm⟩ := hmod c (by omega)
    have HK := hidIt (And.intro hk hm)
    clear hk hm hmod
    refine ⟨k, HK.out.1, fun w => ?_⟩
    go_enter Tryz.func18, Tryz.ntmps18
    go_wp2
    go_ret
    exact ⟨ret_int (by first | exact HK.out.2 | (rw [← HK.out.2, Int.tmod_eq_emod_of_nonneg (by omega)])), rfl⟩

theorem GInv.drewN {St : World → (Nat → Prop) → Value → List Ev → Prop} (I : StOk St) {w : World} {B wb : Nat} {hv pv : Value} {hs : List (Value × Int)} {ds : List PlD} (h : GInv St w B wb hv hs pv ds) (n : Nat) : GInv St (w.drewN n) B wb hv hs pv ds := h.below I (below_drewN (Below.refl _ _) n)

set_option maxRecDepth 100000 in
set_option maxHeartbeats 4000000 in
theorem step_g {St : World → (Nat → Prop) → Value → List Ev → Prop} (I : StOk St) (J : StAsk St) (N : StNew St) (K : StHist St) (B wb : Nat) (hv pv : Value) (hs : List (Value × Int)) (ds : List PlD) (ok on ot ox ov : Int) (ha : Option Addr) (hl hc : Nat) (os : ByteArray) (hk : ok < 1 ∨ 5 ≤ ok) (hk64 : -9223372036854775808 ≤ ok ∧ ok ≤ 9223372036854775807) (hb : OpB ⟨ok, on, ot, ox, ov, .slice ha hl hc, os⟩) (w : World) (h : GInv St w B wb hv hs pv ds) (hH : hs.length ≤ 10000000) (hn : ds.length ≤ 1048576) :
    Calls Tryz.prog 11 #[.pointer (some ⟨wb, 0, none⟩), opV ⟨ok, on, ot, ox, ov, .slice ha hl hc, os⟩] w (SPost St w B wb hs.length ds.length) := by
  have hbx : Below w.heap.size w (w.alloc (opC ⟨ok, on, ot, ox, ov, .slice ha hl hc, os⟩)) := (Below.refl _ _).alloc (Nat.le_refl _) _
  have hBw : B ≤ w.heap.size := Nat.le_trans h.inv.base (Nat.le_of_lt h.inv.wb_lt)
  have hg := h.below I hbx
  have hwl := h.inv.wb_lt
  have HBX : Hid (Below B w (w.alloc (opC ⟨ok, on, ot, ox, ov, .slice ha hl hc, os⟩))) := hbx.mono hBw
  have HG := hidIt hg
  obtain ⟨pa, pc, hpf⟩ := ownsRow_form h.prow
  have pcell := h.pcell
  rw [hpf] at pcell
  have HPF := hidIt hpf
  have HROW := hidIt h.prow
  clear h hg hbx hpf
  by_cases k5 : ok = 5
  · subst k5
    have HC := hidIt (created_any I N B wb hv hs pv ds _ HG.out hn)
    go_enter Tryz.func11, Tryz.ntmps11
    go_wp2_with fail
    refine HC.out.mono ?_
    rintro r w1 ⟨rfl, pv', ds', h1, h2, h3⟩
    have HR := hidIt (And.intro h1 (And.intro h2 h3))
    clear h1 h2 h3
    go_wp2_with fail
    go_ret
    exact ⟨rfl, hv, hs, pv', ds', HR.out.1, by omega, by have := HR.out.2.1; omega, HBX.out.trans HR.out.2.2⟩
  · have q1 : (ok == 1) = false := by simp; omega
    have q2 : (ok == 2) = false := by simp; omega
    have q3 : (ok == 3) = false := by simp; omega
    have q4 : (ok == 4) = false := by simp; omega
    have q5 : (ok == 5) = false := by simp; omega
    by_cases k6 : ok < 6
    · clear hk k5
      go_enter Tryz.func11, Tryz.ntmps11
      go_wp2_with fail
      go_ret
      exact ⟨rfl, hv, hs, pv, ds, HG.out, by omega, by omega, HBX.out⟩
    · by_cases k14 : 14 < ok
      · clear hk k5
        go_enter Tryz.func11, Tryz.ntmps11
        go_wp2_with fail
        go_ret
        exact ⟨rfl, hv, hs, pv, ds, HG.out, by omega, by omega, HBX.out⟩
      · by_cases hz : ds.length = 0
        · have e3 : ((ds.length : Int) == 0) = true := by rw [beq_iff_eq]; omega
          clear hk k5
          go_enter Tryz.func11, Tryz.ntmps11
          go_wp2_with fail
          go_ret
          exact ⟨rfl, hv, hs, pv, ds, HG.out, by omega, by omega, HBX.out⟩
        · have e3 : ((ds.length : Int) == 0) = false := by rw [beq_eq_false_iff_ne]; omega
          obtain ⟨k, hkl, hpick⟩ := pick_one on ds.length hb.n0 hb.n1 (by omega) hn
          have HPK := hidIt hpick
          have hkl' : (k : Int) < (ds.length : Int) := by omega
          have hk0 : (0 : Int) ≤ (k : Int) := by omega
          clear hpick hk k5
          cases pa with
          | none =>
            have := own_none (by have := HROW.out; rwa [HPF.out] at this) rfl
            omega
          | some ad =>
            have hrow := HROW.out
            rw [HPF.out] at hrow
            have hcell := own_cells hrow ad rfl k (.pointer (some ⟨ds[k].pb, 0, none⟩)) (by unfold ptrs; rw [List.getElem?_map, List.getElem?_eq_getElem hkl]; rfl)
            obtain ⟨g, rfl⟩ : ∃ g, ad = ⟨g, 0, none⟩ := by
              rcases hrow.2 with hq | ⟨g, cap, cur, hq, _⟩
              · have := hq.1
                simp at this
              · simp only [Value.slice.injEq, Option.some.injEq] at hq
                exact ⟨g, hq.1⟩
            rw [Addr.add_mid, Nat.zero_add] at hcell
            have hglt : g < w.heap.size := World.block_lt_of_cell? w ⟨g, k, none⟩ hcell
            clear hrow
            have HDR : Hid (Below B w (w.alloc (opC ⟨ok, on, ot, ox, ov, .slice ha hl hc, os⟩)).drew) := below_drewN HBX.out 1
            by_cases k12 : 12 ≤ ok
            · have HAS := hidIt (asked_all I J K B wb hv pv hs ds k hkl ok on ot ox ov ha hl hc os k12 (by omega) hb (w.alloc (opC ⟨ok, on, ot, ox, ov, .slice ha hl hc, os⟩)).drew (HG.out.drewN I 1) hH)
              go_enter Tryz.func11, Tryz.ntmps11
              go_wp2_with fail
              have d1 : (w.alloc (opC ⟨ok, on, ot, ox, ov, .slice ha hl hc, os⟩)).cell? ⟨wb, 0, none⟩ = some (.slice (some ⟨g, 0, none⟩) ds.length pc) := by rw [World.cell?_alloc_past (hn := hwl)]; exact pcell
              have d2 : (w.alloc (opC ⟨ok, on, ot, ox, ov, .slice ha hl hc, os⟩)).cell? ⟨w.heap.size, 1, none⟩ = some (.int .i64 on) := by simp [go_sem]
              have d3 : (w.alloc (opC ⟨ok, on, ot, ox, ov, .slice ha hl hc, os⟩)).cell? ⟨g, k, none⟩ = some (.pointer (some ⟨ds[k].pb, 0, none⟩)) := by rw [World.cell?_alloc_past (hn := hglt)]; exact hcell
              go_region_held3 (fun w' => w'.cell? ⟨wb, 0, none⟩ = some (.slice (some ⟨g, 0, none⟩) ds.length pc) ∧ w'.cell? ⟨w.heap.size, 1, none⟩ = some (.int .i64 on) ∧ w'.cell? ⟨g, k, none⟩ = some (.pointer (some ⟨ds[k].pb, 0, none⟩))) (go_keep) (first | (go_at_call 18; refine (HPK.out _).mono ?_; rintro r w9 ⟨rfl, rfl⟩))
              go_wp2_with fail
              refine HAS.out.mono ?_
              rintro r w9 ⟨rfl, hv', hs', pv', ds', h1, h2, h3, h4⟩
              have HRR := hidIt (And.intro h1 (And.intro h2 (And.intro h3 h4)))
              clear h1 h2 h3 h4
              go_wp2_with fail
              go_ret
              exact ⟨rfl, hv', hs', pv', ds', HRR.out.1, HRR.out.2.1, HRR.out.2.2.1, HDR.out.trans HRR.out.2.2.2⟩
            · have HAC := hidIt (acted_all I B ds[k].pb ds[k].F ds[k].sp ds[k].hv ds[k].es ok on ot ox ov ha hl hc os (by omega) (by omega) hb (w.alloc (opC ⟨ok, on, ot, ox, ov, .slice ha hl hc, os⟩)).drew ((HG.out.drewN I 1).each k hkl) (Nat.le_trans hBw (by simp)))
              go_enter Tryz.func11, Tryz.ntmps11
              go_wp2_with fail
              have d1 : (w.alloc (opC ⟨ok, on, ot, ox, ov, .slice ha hl hc, os⟩)).cell? ⟨wb, 0, none⟩ = some (.slice (some ⟨g, 0, none⟩) ds.length pc) := by rw [World.cell?_alloc_past (hn := hwl)]; exact pcell
              have d2 : (w.alloc (opC ⟨ok, on, ot, ox, ov, .slice ha hl hc, os⟩)).cell? ⟨w.heap.size, 1, none⟩ = some (.int .i64 on) := by simp [go_sem]
              have d3 : (w.alloc (opC ⟨ok, on, ot, ox, ov, .slice ha hl hc, os⟩)).cell? ⟨g, k, none⟩ = some (.pointer (some ⟨ds[k].pb, 0, none⟩)) := by rw [World.cell?_alloc_past (hn := hglt)]; exact hcell
              go_region_held3 (fun w' => w'.cell? ⟨wb, 0, none⟩ = some (.slice (some ⟨g, 0, none⟩) ds.length pc) ∧ w'.cell? ⟨w.heap.size, 1, none⟩ = some (.int .i64 on) ∧ w'.cell? ⟨g, k, none⟩ = some (.pointer (some ⟨ds[k].pb, 0, none⟩))) (go_keep) (first | (go_at_call 18; refine (HPK.out _).mono ?_; rintro r w9 ⟨rfl, rfl⟩))
              go_wp2_with fail
              refine HAC.out.mono ?_
              rintro r w9 hp
              obtain ⟨ds', h1, h2, h3⟩ := HG.out.drewN I 1 |>.act I k hkl hp
              obtain rfl := hp.1
              have HRR := hidIt (And.intro h1 (And.intro h2 h3))
              clear h1 h2 h3 hp
              go_wp2_with fail
              go_ret
              exact ⟨rfl, hv, hs, pv, ds', HRR.out.1, by omega, by have := HRR.out.2.1; omega, HDR.out.trans HRR.out.2.2⟩

end Go.Proofs.YtfdalbmopaemgaaGreatDoor
