import Derived.Test.YtfdalbmopaemgabGreatDoorZU8
import Derived.Test.YtfdalbmopaemgabGreatDoorZU2
import Derived.Test.YtfdalbmopaemgabGreatDoorZU3
import Derived.Test.YtfdalbmopaemgabGreatDoorZG5
import Derived.Deep.MidRow
import Derived.Test.YtfdalbmopaemgabGreatDoorL5
import Derived.Test.YtfdalbmopaemgabGreatDoorL6
namespace Go.Proofs.YtfdalbmopaemgabGreatDoor
open Go.RowKit

structure OpB (o : OpD) : Prop where
  n0 : -9223372036854775808 ≤ o.n
  n1 : o.n ≤ 9223372036854775807
  t0 : 0 ≤ o.t
  t1 : o.t ≤ 255
  x0 : 0 ≤ o.x
  x1 : o.x ≤ 255
  v0 : -2147483648 ≤ o.v
  v1 : o.v ≤ 2147483647

theorem acted_all {St : World → (Nat → Prop) → Value → List Ev → Prop} (I : StOk St) (B pb : Nat) (F : Nat → Prop) (sp hv : Value) (es : List Ev) (ok on ot ox ov : Int) (ha : Option Addr) (hl hc : Nat) (os : ByteArray) (hk0 : 6 ≤ ok) (hk1 : ok ≤ 11) (hb : OpB ⟨ok, on, ot, ox, ov, .slice ha hl hc, os⟩) (w : World) (h : Pl St w B pb F sp hv es) (hB : B ≤ w.heap.size) :
    Calls Tryz.prog 16 #[.pointer (some ⟨pb, 0, none⟩), opV ⟨ok, on, ot, ox, ov, .slice ha hl hc, os⟩] w (PlPost St w B pb F sp hv) := by
  obtain ⟨_, _, t0, t1, x0, x1, v0, v1⟩ := hb
  simp only at t0 t1 x0 x1 v0 v1
  obtain ⟨tt, rfl⟩ : ∃ tt : Nat, ot = (tt : Int) := ⟨ot.toNat, by omega⟩
  obtain ⟨xx, rfl⟩ : ∃ xx : Nat, ox = (xx : Int) := ⟨ox.toNat, by omega⟩
  have hc' : ok = 6 ∨ ok = 7 ∨ ok = 8 ∨ ok = 9 ∨ ok = 10 ∨ ok = 11 := by omega
  rcases hc' with rfl | rfl | rfl | rfl | rfl | rfl
  · exact acted_begin I B pb F sp hv es on (xx : Int) ov tt ha hl hc os w h (by omega) hB
  · exact acted_read I B pb F sp hv es on ov xx tt ha hl hc os w h (by omega) (by omega) hB
  · exact acted_write I B pb F sp hv es on ov xx tt ha hl hc os w h (by omega) (by omega) v0 v1 hB
  · exact acted_add I B pb F sp hv es on ov xx tt ha hl hc os w h (by omega) (by omega) v0 v1 hB
  · exact acted_commit I B pb F sp hv es on (xx : Int) ov tt ha hl hc os w h (by omega) hB
  · exact acted_abort I B pb F sp hv es on (xx : Int) ov tt ha hl hc os w h (by omega) hB

/-- What a step of a script leaves. -/
def SPost (St : World → (Nat → Prop) → Value → List Ev → Prop) (w : World) (B wb H n : Nat) (r : Ending) (w' : World) : Prop :=
  r = .returned (.bool true) ∧ ∃ hv' hs' pv' ds', GInv St w' B wb hv' hs' pv' ds' ∧ hs'.length ≤ H + 4 ∧ ds'.length ≤ n + 1 ∧ Below B w w'

theorem asked_all {St : World → (Nat → Prop) → Value → List Ev → Prop} (I : StOk St) (J : StAsk St) (K : StHist St) (B wb : Nat) (hv pv : Value) (hs : List (Value × Int)) (ds : List PlD) (i : Nat) (hi : i < ds.length) (ok on ot ox ov : Int) (ha : Option Addr) (hl hc : Nat) (os : ByteArray) (hk0 : 12 ≤ ok) (hk1 : ok ≤ 14) (hb : OpB ⟨ok, on, ot, ox, ov, .slice ha hl hc, os⟩) (w : World) (h : GInv St w B wb hv hs pv ds) (hH : hs.length ≤ 10000000) :
    Calls Tryz.prog 15 #[.pointer (some ⟨wb, 0, none⟩), .pointer (some ⟨ds[i].pb, 0, none⟩), opV ⟨ok, on, ot, ox, ov, .slice ha hl hc, os⟩] w (SPost St w B wb hs.length ds.length) := by
  obtain ⟨_, _, _, _, x0, x1, _, _⟩ := hb
  simp only at x0 x1
  obtain ⟨xx, rfl⟩ : ∃ xx : Nat, ox = (xx : Int) := ⟨ox.toNat, by omega⟩
  have hBw : B ≤ w.heap.size := Nat.le_trans h.inv.base (Nat.le_of_lt h.inv.wb_lt)
  have hc' : ok = 12 ∨ ok = 13 ∨ ok = 14 := by omega
  rcases hc' with rfl | rfl | rfl
  · refine (asked_holders I J B ds[i].pb ds[i].F ds[i].sp ds[i].hv ds[i].es (some ⟨wb, 0, none⟩) on ot ov xx ha hl hc os w (h.each i hi) (by omega) hBw).mono fun r w' hp => ?_
    obtain ⟨ds', h1, h2, h3⟩ := h.act I i hi hp
    exact ⟨hp.1, hv, hs, pv, ds', h1, by omega, by omega, h3⟩
  · refine (asked_values I J B ds[i].pb ds[i].F ds[i].sp ds[i].hv ds[i].es (some ⟨wb, 0, none⟩) on ot (xx : Int) ov ha hl hc os w (h.each i hi) hBw).mono fun r w' hp => ?_
    obtain ⟨ds', h1, h2, h3⟩ := h.act I i hi hp
    exact ⟨hp.1, hv, hs, pv, ds', h1, by omega, by omega, h3⟩
  · refine (asked_history I K B wb hv pv hs ds i hi on ot (xx : Int) ov ha hl hc os w h hH).mono fun r w' ⟨h1, hv', hs', ds', h2, h3, h4, h5⟩ => ?_
    exact ⟨h1, hv', hs', pv, ds', h2, h3, by omega, h5⟩

set_option maxHeartbeats 1000000 in
theorem pick_one (c : Int) (n : Nat) (h0 : -9223372036854775808 ≤ c) (h1 : c ≤ 9223372036854775807) (hn : 0 < n) (hn2 : n ≤ 1048576) :
    ∃ k : Nat, k < n ∧ ∀ w, Calls Tryz.prog 14 #[.int .i64 c, .int .i64 (n : Int)] w fun r w' => r = .returned (.int .i64 (k : Int)) ∧ w' = w := by
  have hn0 : (0 : Int) < (n : Int) := by omega
  have hmod : ∀ m : Int, 0 ≤ m → ∃ k : Nat, k < n ∧ m.tmod (n : Int) = (k : Int) := fun m hm => by
    have h2 := Int.emod_nonneg m (show (n : Int) ≠ 0 by omega)
    have h3 := Int.emod_lt_of_pos m hn0
    exact ⟨(m % (n : Int)).toNat, by omega, by rw [Int.tmod_eq_emod_of_nonneg hm]; omega⟩
  by_cases hc : c < 0
  · obtain ⟨k, hk, hm⟩ := hmod (-(c + 1)) (by omega)
    rw [Int.neg_tmod] at hm
    have HK := hidIt (And.intro hk hm)
    clear hk hm hmod
    refine ⟨k, HK.out.1, fun w => ?_⟩
    go_enter Tryz.func14, Tryz.ntmps14
    go_wp2
    go_ret
    exact ⟨ret_int HK.out.2, rfl⟩
  · obtain ⟨k, hk, hm⟩ := hmod c (by omega)
    have HK := hidIt (And.intro hk hm)
    clear hk hm hmod
    refine ⟨k, HK.out.1, fun w => ?_⟩
    go_enter Tryz.func14, Tryz.ntmps14
    go_wp2
    go_ret
    exact ⟨ret_int (by first | exact HK.out.2 | (rw [← HK.out.2, Int.tmod_eq_emod_of_nonneg (by omega)])), rfl⟩

theorem GInv.drewN {St : World → (Nat → Prop) → Value → List Ev → Prop} (I : StOk St) {w : World} {B wb : Nat} {hv pv : Value} {hs : List (Value × Int)} {ds : List PlD} (h : GInv St w B wb hv hs pv ds) (n : Nat) : GInv St (w.drewN n) B wb hv hs pv ds := h.below I (below_drewN (Below.refl _ _) n)

set_option maxRecDepth 100000 in
set_option maxHeartbeats 4000000 in
theorem step_g {St : World → (Nat → Prop) → Value → List Ev → Prop} (I : StOk St) (J : StAsk St) (N : StNew St) (K : StHist St) (B wb : Nat) (hv pv : Value) (hs : List (Value × Int)) (ds : List PlD) (ok on ot ox ov : Int) (ha : Option Addr) (hl hc : Nat) (os : ByteArray) (hk : ok < 1 ∨ 5 ≤ ok) (hk64 : -9223372036854775808 ≤ ok ∧ ok ≤ 9223372036854775807) (hb : OpB ⟨ok, on, ot, ox, ov, .slice ha hl hc, os⟩) (w : World) (h : GInv St w B wb hv hs pv ds) (hH : hs.length ≤ 10000000) (hn : ds.length ≤ 1048576) :
    Calls Tryz.prog 7 #[.pointer (some ⟨wb, 0, none⟩), opV ⟨ok, on, ot, ox, ov, .slice ha hl hc, os⟩] w (SPost St w B wb hs.length ds.length) := by
  have hbx : Below w.heap.size w (w.alloc (opC ⟨ok, on, ot, ox, ov, .slice ha hl hc, os⟩)) := (Below.refl _ _).alloc (Nat.le_refl _) _
  have hBw : B ≤ w.heap.size := Nat.le_trans h.inv.base (Nat.le_of_lt h.inv.wb_lt)
  have hg := h.below I hbx
  have hwl := h.inv.wb_lt
  have HBX : Hid (Below B w (w.alloc (opC ⟨ok, on, ot, ox, ov, .slice ha hl hc, os⟩))) := hbx.mono hBw
  have HG := hidIt hg
  obtain ⟨pa, pc, hpf⟩ := ownsRow_form h.prow
  have pcell := h.pcell
  rw [hpf] at pcell
  have HPF := hidIt hpf
  have HROW := hidIt h.prow
  clear h hg hbx hpf
  by_cases k5 : ok = 5
  · subst k5
    have HC := hidIt (created_any I N B wb hv hs pv ds _ HG.out hn)
    go_enter Tryz.func7, Tryz.ntmps7
    go_wp2_with fail
    refine HC.out.mono ?_
    rintro r w1 ⟨rfl, pv', ds', h1, h2, h3⟩
    have HR := hidIt (And.intro h1 (And.intro h2 h3))
    clear h1 h2 h3
    go_wp2_with fail
    go_ret
    exact ⟨rfl, hv, hs, pv', ds', HR.out.1, by omega, by have := HR.out.2.1; omega, HBX.out.trans HR.out.2.2⟩
  · have q1 : (ok == 1) = false := by simp; omega
    have q2 : (ok == 2) = false := by simp; omega
    have q3 : (ok == 3) = false := by simp; omega
    have q4 : (ok == 4) = false := by simp; omega
    have q5 : (ok == 5) = false := by simp; omega
    by_cases k6 : ok < 6
    · clear hk k5
      go_enter Tryz.func7, Tryz.ntmps7
      go_wp2_with fail
      go_ret
      exact ⟨rfl, hv, hs, pv, ds, HG.out, by omega, by omega, HBX.out⟩
    · by_cases k14 : 14 < ok
      · clear hk k5
        go_enter Tryz.func7, Tryz.ntmps7
        go_wp2_with fail
        go_ret
        exact ⟨rfl, hv, hs, pv, ds, HG.out, by omega, by omega, HBX.out⟩
      · by_cases hz : ds.length = 0
        · have e3 : ((ds.length : Int) == 0) = true := by rw [beq_iff_eq]; omega
          clear hk k5
          go_enter Tryz.func7, Tryz.ntmps7
          go_wp2_with fail
          go_ret
          exact ⟨rfl, hv, hs, pv, ds, HG.out, by omega, by omega, HBX.out⟩
        · have e3 : ((ds.length : Int) == 0) = false := by rw [beq_eq_false_iff_ne]; omega
          obtain ⟨k, hkl, hpick⟩ := pick_one on ds.length hb.n0 hb.n1 (by omega) hn
          have HPK := hidIt hpick
          have hkl' : (k : Int) < (ds.length : Int) := by omega
          have hk0 : (0 : Int) ≤ (k : Int) := by omega
          clear hpick hk k5
          cases pa with
          | none =>
            have := own_none (by have := HROW.out; rwa [HPF.out] at this) rfl
            omega
          | some ad =>
            have hrow := HROW.out
            rw [HPF.out] at hrow
            have hcell := own_cells hrow ad rfl k (.pointer (some ⟨ds[k].pb, 0, none⟩)) (by unfold ptrs; rw [List.getElem?_map, List.getElem?_eq_getElem hkl]; rfl)
            obtain ⟨g, rfl⟩ : ∃ g, ad = ⟨g, 0, none⟩ := by
              rcases hrow.2 with hq | ⟨g, cap, cur, hq, _⟩
              · have := hq.1
                simp at this
              · simp only [Value.slice.injEq, Option.some.injEq] at hq
                exact ⟨g, hq.1⟩
            rw [Addr.add_mid, Nat.zero_add] at hcell
            have hglt : g < w.heap.size := World.block_lt_of_cell? w ⟨g, k, none⟩ hcell
            clear hrow
            have HDR : Hid (Below B w (w.alloc (opC ⟨ok, on, ot, ox, ov, .slice ha hl hc, os⟩)).drew) := below_drewN HBX.out 1
            by_cases k12 : 12 ≤ ok
            · have HAS := hidIt (asked_all I J K B wb hv pv hs ds k hkl ok on ot ox ov ha hl hc os k12 (by omega) hb (w.alloc (opC ⟨ok, on, ot, ox, ov, .slice ha hl hc, os⟩)).drew (HG.out.drewN I 1) hH)
              go_enter Tryz.func7, Tryz.ntmps7
              go_wp2_with fail
              have d1 : (w.alloc (opC ⟨ok, on, ot, ox, ov, .slice ha hl hc, os⟩)).cell? ⟨wb, 0, none⟩ = some (.slice (some ⟨g, 0, none⟩) ds.length pc) := by rw [World.cell?_alloc_past (hn := hwl)]; exact pcell
              have d2 : (w.alloc (opC ⟨ok, on, ot, ox, ov, .slice ha hl hc, os⟩)).cell? ⟨w.heap.size, 1, none⟩ = some (.int .i64 on) := by simp [go_sem]
              have d3 : (w.alloc (opC ⟨ok, on, ot, ox, ov, .slice ha hl hc, os⟩)).cell? ⟨g, k, none⟩ = some (.pointer (some ⟨ds[k].pb, 0, none⟩)) := by rw [World.cell?_alloc_past (hn := hglt)]; exact hcell
              go_region_held3 (fun w' => w'.cell? ⟨wb, 0, none⟩ = some (.slice (some ⟨g, 0, none⟩) ds.length pc) ∧ w'.cell? ⟨w.heap.size, 1, none⟩ = some (.int .i64 on) ∧ w'.cell? ⟨g, k, none⟩ = some (.pointer (some ⟨ds[k].pb, 0, none⟩))) (go_keep) (first | (go_at_call 14; refine (HPK.out _).mono ?_; rintro r w9 ⟨rfl, rfl⟩))
              go_wp2_with fail
              refine HAS.out.mono ?_
              rintro r w9 ⟨rfl, hv', hs', pv', ds', h1, h2, h3, h4⟩
              have HRR := hidIt (And.intro h1 (And.intro h2 (And.intro h3 h4)))
              clear h1 h2 h3 h4
              go_wp2_with fail
              go_ret
              exact ⟨rfl, hv', hs', pv', ds', HRR.out.1, HRR.out.2.1, HRR.out.2.2.1, HDR.out.trans HRR.out.2.2.2⟩
            · have HAC := hidIt (acted_all I B ds[k].pb ds[k].F ds[k].sp ds[k].hv ds[k].es ok on ot ox ov ha hl hc os (by omega) (by omega) hb (w.alloc (opC ⟨ok, on, ot, ox, ov, .slice ha hl hc, os⟩)).drew ((HG.out.drewN I 1).each k hkl) (Nat.le_trans hBw (by simp)))
              go_enter Tryz.func7, Tryz.ntmps7
              go_wp2_with fail
              have d1 : (w.alloc (opC ⟨ok, on, ot, ox, ov, .slice ha hl hc, os⟩)).cell? ⟨wb, 0, none⟩ = some (.slice (some ⟨g, 0, none⟩) ds.length pc) := by rw [World.cell?_alloc_past (hn := hwl)]; exact pcell
              have d2 : (w.alloc (opC ⟨ok, on, ot, ox, ov, .slice ha hl hc, os⟩)).cell? ⟨w.heap.size, 1, none⟩ = some (.int .i64 on) := by simp [go_sem]
              have d3 : (w.alloc (opC ⟨ok, on, ot, ox, ov, .slice ha hl hc, os⟩)).cell? ⟨g, k, none⟩ = some (.pointer (some ⟨ds[k].pb, 0, none⟩)) := by rw [World.cell?_alloc_past (hn := hglt)]; exact hcell
              go_region_held3 (fun w' => w'.cell? ⟨wb, 0, none⟩ = some (.slice (some ⟨g, 0, none⟩) ds.length pc) ∧ w'.cell? ⟨w.heap.size, 1, none⟩ = some (.int .i64 on) ∧ w'.cell? ⟨g, k, none⟩ = some (.pointer (some ⟨ds[k].pb, 0, none⟩))) (go_keep) (first | (go_at_call 14; refine (HPK.out _).mono ?_; rintro r w9 ⟨rfl, rfl⟩))
              go_wp2_with fail
              refine HAC.out.mono ?_
              rintro r w9 hp
              obtain ⟨ds', h1, h2, h3⟩ := HG.out.drewN I 1 |>.act I k hkl hp
              obtain rfl := hp.1
              have HRR := hidIt (And.intro h1 (And.intro h2 h3))
              clear h1 h2 h3 hp
              go_wp2_with fail
              go_ret
              exact ⟨rfl, hv, hs, pv, ds', HRR.out.1, by omega, by have := HRR.out.2.1; omega, HDR.out.trans HRR.out.2.2⟩

end Go.Proofs.YtfdalbmopaemgabGreatDoor

namespace Go.Proofs.YtfdalbmopaemgabGreatDoor
open Go.RowKit

/-! ### keep, of a row, among players -/
theorem keep_rowPF {St : World → (Nat → Prop) → Value → List Ev → Prop} (I : StOk St) (B wb : Nat) (hv pv : Value) (hs : List (Value × Int)) (ps : List PlD) (g cap : Nat) (es : List Ev) (w : World) (h : GInv St w B wb hv hs pv ps) (hrow : Row w g cap es) (hBg : B ≤ g) (hgw : g ≠ wb) (hgv : hv.ownBlock ≠ some g)
    (hgx : ∀ x ∈ hs, x.1.ownBlock ≠ some g) (hn : es.length ≤ 2097152) (hH : hs.length ≤ 10000000) (hgp : pv.ownBlock ≠ some g) (hgd : ∀ i (hi : i < ps.length), ¬ ps[i].own g) :
    Calls Tryz.prog 22 #[.pointer (some ⟨wb, 0, none⟩), .slice (some ⟨g, 0, none⟩) es.length cap] w fun r w' => r = .returned (.tuple #[]) ∧ ∃ hv' hs', GInv St w' B wb hv' hs' pv ps ∧ hs'.length = hs.length + 4 ∧ Below B w w' ∧ ∀ k, k < w.heap.size → k ≠ g → k ≠ wb → hv.ownBlock ≠ some k → w'.heap[k]? = w.heap[k]? := by
  refine (keep_rowG B wb hv hs g cap es w h.inv hrow hBg hgw hgv hgx hn hH).mono fun r w' hk => ?_
  obtain ⟨h1, hv', hs', h2, h3, h4⟩ := h.kept I hgp hgd hk
  obtain ⟨_, _, _, _, _, _, hf, _, _⟩ := hk
  exact ⟨h1, hv', hs', h2, h3, h4, hf.1⟩

theorem keep_rowP {St : World → (Nat → Prop) → Value → List Ev → Prop} (I : StOk St) (B wb : Nat) (hv pv : Value) (hs : List (Value × Int)) (ps : List PlD) (g cap : Nat) (es : List Ev) (w : World) (h : GInv St w B wb hv hs pv ps) (hrow : Row w g cap es) (hBg : B ≤ g) (hgw : g ≠ wb) (hgv : hv.ownBlock ≠ some g)
    (hgx : ∀ x ∈ hs, x.1.ownBlock ≠ some g) (hn : es.length ≤ 2097152) (hH : hs.length ≤ 10000000) (hgp : pv.ownBlock ≠ some g) (hgd : ∀ i (hi : i < ps.length), ¬ ps[i].own g) :
    Calls Tryz.prog 22 #[.pointer (some ⟨wb, 0, none⟩), .slice (some ⟨g, 0, none⟩) es.length cap] w fun r w' => r = .returned (.tuple #[]) ∧ ∃ hv' hs', GInv St w' B wb hv' hs' pv ps ∧ hs'.length = hs.length + 4 ∧ Below B w w' :=
  (keep_rowPF I B wb hv pv hs ps g cap es w h hrow hBg hgw hgv hgx hn hH hgp hgd).mono fun _ _ ⟨h1, hv', hs', h2, h3, h4, _⟩ => ⟨h1, hv', hs', h2, h3, h4⟩

set_option maxRecDepth 100000 in
set_option maxHeartbeats 2000000 in
theorem printed_g {St : World → (Nat → Prop) → Value → List Ev → Prop} (I : StOk St) (B wb : Nat) (hv pv : Value) (hs : List (Value × Int)) (ps : List PlD) (o : OpD) (es : List Ev) (w : World) (h : GInv St w B wb hv hs pv ps) (hop : OpOk w B o es) (hH : hs.length ≤ 10000000) (ht : Tab w) :
    Calls Tryz.prog 10 #[.pointer (some ⟨wb, 0, none⟩), opV o] w (SPost St w B wb hs.length ps.length) := by
  obtain ⟨ok, on, ot, ox, ov, ohv, os⟩ := o
  obtain ⟨ha, hc, hvf⟩ := slice_form hop.sl
  simp only at hvf
  subst hvf
  have HI := hidIt h
  have HOP := hidIt hop
  have hlen := hop.len
  have hBw : B ≤ w.heap.size := Nat.le_trans h.inv.base (Nat.le_of_lt h.inv.wb_lt)
  have hbx := (Below.refl w.heap.size w).alloc (Nat.le_refl _) (opC ⟨ok, on, ot, ox, ov, .slice ha es.length hc, os⟩)
  clear h hop
  have hl0 : (0 : Int) ≤ (es.length : Int) := by omega
  have hl1 : (es.length : Int) ≤ ((es.length + 8 : Nat) : Int) := by omega
  go_enter Tryz.func10, Tryz.ntmps10
  go_wp2_with fail
  refine (handed_any _ es _ (HOP.out.sl.below hbx) hlen).mono ?_
  rintro r w1 ⟨g, rfl, hg, hrow, hb1⟩
  have hb1' : Below w.heap.size w w1 := hbx.trans (hb1.mono (by simp))
  obtain ⟨z0, z5, z6⟩ := bcell7 hb1 (by simp) rfl
  have hz1 : w.heap.size < w1.heap.size := by have := hb1.size; simp at this; omega
  go_wp2_with fail
  refine (print_all _ es _ (Row.prefix hrow).slEv HOP.out.ok (by omega) (ht.below ht.2 hb1')).mono ?_
  rintro r w2 ⟨rfl, hb2⟩
  obtain ⟨pt, hpt⟩ : ∃ pt, printT es = pt := ⟨_, rfl⟩
  obtain ⟨pe, hpe⟩ : ∃ pe, printE es = pe := ⟨_, rfl⟩
  have HPT := hidIt hpt
  have HPE := hidIt hpe
  rw [hpt, hpe]
  clear hpt hpe
  have y5 : w2.cell? ⟨w.heap.size, 5, none⟩ = some (.slice ha es.length hc) := by rw [bcells hb2 _ _ hz1]; exact z5
  have hb2' : Below w.heap.size w w2 := hb1'.trans (hb2.mono hb1'.size)
  clear z0 z5 z6
  go_wp2_with fail
  refine (refPrint_all _ es _ (HOP.out.sl.below hb2') HOP.out.ok (by omega)).mono ?_
  rintro r w3 ⟨rfl, hb3⟩
  rw [HPT.out, HPE.out]
  have hz2 : w.heap.size < w2.heap.size := Nat.lt_of_lt_of_le hz1 hb2.size
  have x5 : w3.cell? ⟨w.heap.size, 5, none⟩ = some (.slice ha es.length hc) := by rw [bcells hb3 _ _ hz2]; exact y5
  have hb3' : Below w.heap.size w w3 := hb2'.trans (hb3.mono hb2'.size)
  have hrow3 : Row w3 g (es.length + 8) (es ++ List.replicate 8 byEv) := (hrow.below hb2 hrow.lt).below hb3 (Nat.lt_of_lt_of_le hrow.lt hb2.size)
  clear y5
  go_wp2_with fail
  refine (still_any _ es g _ (HOP.out.sl.below hb3') hlen hrow3).mono ?_
  rintro r w4 ⟨rfl, hb4⟩
  have hb4' : Below w.heap.size w w4 := hb3'.trans (hb4.mono hb3'.size)
  have hrow4 : Row w4 g (es.length + 8) (es ++ List.replicate 8 byEv) := hrow3.below hb4 hrow3.lt
  have hgw : w.heap.size ≤ g := by simp at hg; omega
  have hlen8 : (es ++ List.replicate 8 byEv).length = es.length + 8 := by simp
  have hkeep := keep_rowP I B wb hv pv hs ps g (es.length + 8) (es ++ List.replicate 8 byEv) w4 (HI.out.below I hb4') hrow4 (Nat.le_trans hBw hgw) (by have := HI.out.inv.wb_lt; omega) (fun e => by have := (HI.out.inv.hv_lt g e).2; omega) (fun x hx e => by have := ((HI.out.inv.each x hx).lt g e).2; omega) (by rw [hlen8]; omega) hH (fun e => by have := (World.ownsRow.lt HI.out.prow g e).2; omega) (fun i hi q => by have := PlD.own_lt I (HI.out.each i hi) q; omega)
  rw [hlen8] at hkeep
  have HK := hidIt hkeep
  clear x5 hkeep hlen8
  go_wp2_with fail
  refine HK.out.mono ?_
  rintro r w5 ⟨rfl, hv', hs', hi5, hl5, hb5⟩
  have HR := hidIt (And.intro hi5 (And.intro hl5 hb5))
  clear hi5 hl5 hb5
  go_wp2_with fail
  go_ret
  refine ⟨ret_bool (by simp), hv', hs', pv, ps, HR.out.1, by have := HR.out.2.1; omega, by omega, (hb4'.mono hBw).trans HR.out.2.2⟩

end Go.Proofs.YtfdalbmopaemgabGreatDoor

namespace Go.Proofs.YtfdalbmopaemgabGreatDoor
open Go.RowKit

set_option maxRecDepth 100000 in
set_option maxHeartbeats 2000000 in
theorem keep_nil (B wb : Nat) (hv : Value) (hs : List (Value × Int)) (w : World) (h : Inv w B wb hv hs) (hH : hs.length ≤ 10000000) :
    Calls Tryz.prog 22 #[.pointer (some ⟨wb, 0, none⟩), .slice none 0 0] w (KeepPost w B wb hs.length) := by
  obtain ⟨ha, hc, hvf⟩ := h.form
  have c1 := h.cell
  rw [hvf] at c1
  have HV := hidIt hvf
  have HI := hidIt h
  obtain ⟨mark, hmark⟩ : ∃ m : Int, (hs.length : Int) + 1 = m := ⟨_, rfl⟩
  have hm0 : 0 ≤ mark := by omega
  have hm1 : mark ≤ 1073741824 := by omega
  have HM := hidIt hmark
  have hBw : B ≤ w.heap.size := Nat.le_trans h.base (Nat.le_of_lt h.wb_lt)
  have HBW := hidIt hBw
  clear hvf h
  obtain ⟨n0, hn0⟩ : ∃ n0, Hid (0 = n0) := ⟨0, rfl⟩
  have hn00 : n0 ≤ 0 := Nat.le_of_eq hn0.out.symm
  go_enter Tryz.func22, Tryz.ntmps22
  go_wp2_with fail
  clear hmark
  refine (marked_any mark _ hm0 hm1).mono ?_
  rintro r w1 ⟨rfl, hb1⟩
  clear c1
  have hmem : EvAt (w1.alloc (.cells #[.int .u8 (mkEv mark).k, .int .u8 (mkEv mark).t, .int .u8 (mkEv mark).a, .int .i32 (mkEv mark).v, .int .i32 (mkEv mark).s] 45)) w1.heap.size 0 (mkEv mark) := ⟨by simp [go_sem], by simp [go_sem], by simp [go_sem], by simp [go_sem], by simp [go_sem]⟩
  have hb1' : Below w.heap.size w (w1.alloc (.cells #[.int .u8 (mkEv mark).k, .int .u8 (mkEv mark).t, .int .u8 (mkEv mark).a, .int .i32 (mkEv mark).v, .int .i32 (mkEv mark).s] 45)) := hb1.alloc hb1.size _
  go_wp2_with fail
  go_loopw [6] (fun i wr => i = .int .i64 0 ∧ Inv wr B wb hv hs ∧ EvAt wr w1.heap.size 0 (mkEv mark) ∧ w1.heap.size < wr.heap.size ∧ Below B w wr) (fun _ _ => 0)
  case atStart => exact ⟨rfl, HI.out.below hb1', hmem, by simp, hb1'.mono HBW.out⟩
  case round =>
    obtain ⟨rfl, hinv, hme, hmlt, hnx⟩ := hrel
    · have hge : ¬ (0 : Int) < 0 := by omega
      obtain ⟨i1, hi, hz0, hz1, hz2⟩ := info_parts Tryz.infoHold
      have HI1 := hidIt hi
      have HY0 := hidIt hz0
      have HY1 := hidIt hz1
      have HY2 := hidIt hz2
      clear hi hz0 hz1 hz2
      have hl : LInv wr B wb w1.heap.size hv hs (.slice none 0 0) 0 mark :=
        ⟨Own.nil _ _, by simp [Value.ownBlock], by simp [Value.ownBlock], fun k hk => by simp [Value.ownBlock] at hk,
         fun e => by have := (HI.out.hv_lt _ e).2; have := hb1.size; omega, fun e => by have := HI.out.wb_lt; have := hb1.size; omega, hmlt, hme,
         fun x hx k hk hk' => by simp [Value.ownBlock] at hk'⟩
      have c1 := hinv.cell
      rw [HV.out] at c1
      have hBr : B ≤ wr.heap.size := Nat.le_trans hinv.base (Nat.le_of_lt hinv.wb_lt)
      have HIN := hidIt hinv
      have HL := hidIt hl
      clear hinv hl hme
      go_wp2_with (at_builtin; refine wpList_append_two _ rfl _ _ 28 rfl B 43 i1 (.agg #[.slice none 0 0, .int .i32 0]) 2 32 Tryz.underlying28 HI1.out HY0.out HY1.out HY2.out rfl (by decide) hv hs.length (holdCells hs) HV.out.symm (HIN.out.below ((Below.refl _ _).alloc (Nat.le_refl _) _)).row ⟨wr.heap.size, 0, none⟩ 1 1 [.slice none 0 0, .int .i32 mark] rfl rfl (hold_new wr _ _ _) ?c1 (by decide) ?c3 ?c4 ?c5 ?_)
      case c1 => exact ⟨rfl, rfl⟩
      case c3 => unfold maxLen; omega
      case c4 => omega
      case c5 => first | omega | (simp; omega)
      intro hv' w2 hown2 happ2
      obtain ⟨a', c', rfl⟩ := ownsRow_form hown2
      have hI2 := HIN.out.below ((Below.refl wr.heap.size wr).alloc (Nat.le_refl _) (.cells #[.slice none 0 0, .int .i32 mark] 43))
      have hL2 := HL.out.below ((Below.refl wr.heap.size wr).alloc (Nat.le_refl _) (.cells #[.slice none 0 0, .int .i32 mark] 43))
      obtain ⟨k1, k2⟩ := app_cell hI2 happ2
      have hb2 := below_app (hnx.alloc hBr (.cells #[.slice none 0 0, .int .i32 mark] 43)) happ2 (fun j hj => (HIN.out.hv_lt j hj).1) (by simp; omega)
      obtain ⟨s1, s2⟩ := step_holds hI2 hL2 hm0 hm1 (by omega) hown2 happ2
      have HSS : Hid (Loop2 w B wb w1.heap.size hs.length n0 mark 0 (.slice none 0 0) (w2.setCell ⟨wb, 1, none⟩ (.slice a' (hs.length + 1) c'))) :=
        by
        have hn0' := hn0.out
        subst hn0'
        exact ⟨_, _, s1, s2, by simp, hb2.setCell (p := ⟨wb, 1, none⟩) HIN.out.base _, Nat.le_trans s1.base (Nat.le_of_lt s1.wb_lt)⟩
      clear hI2 hL2 hb2 s1 s2 hown2 happ2 c1
      go_wp2_with fail
      go_loopw [1, 7] (fun l i wr => ∃ j : Nat, j ≤ 3 ∧ i = .int .i64 j ∧ Loop2 w B wb w1.heap.size hs.length n0 mark j l wr) (fun _ i _ => 3 - (intOf i).toNat)
      case atStart => exact ⟨0, by omega, rfl, HSS.out⟩
      case round =>
        clear HSS k1 k2
        obtain ⟨j, hj, rfl, hvj, hsj, hij, hlj, hlen, hbj, hBj⟩ := hrel
        have HLEN := hidIt hlen
        have hlenb : hsj.length ≤ 10000004 := by omega
        clear hlen
        by_cases hlt3 : j < 3
        · have hlt3' : (j : Int) < 3 := by omega
          obtain ⟨i0, hi, hz0, hz1, hz2⟩ := info_parts Tryz.infoEv
          have HI0 := hidIt hi
          have HX0 := hidIt hz0
          have HX1 := hidIt hz1
          have HX2 := hidIt hz2
          clear hi hz0 hz1 hz2
          obtain ⟨m0, m1, m2, m3, m4⟩ := hlj.mcell
          simp only [Nat.zero_add] at m1 m2 m3 m4
          have HIJ := hidIt hij
          have HLJ := hidIt hlj
          clear hij hlj
          go_wp2_with (at_builtin; refine wpList_append_two _ rfl _ _ 31 rfl B 45 i0 (.agg #[.int .u8 0, .int .u8 0, .int .u8 0, .int .i32 0, .int .i32 0]) 5 12 Tryz.underlying31 HI0.out HX0.out HX1.out HX2.out rfl (by decide) _ _ _ rfl (HLJ.out.below ((Below.refl _ _).alloc (Nat.le_refl _) _)).own _ 1 1 (evC (mkEv mark)) rfl rfl (evC_new1 _ _ _) ?d1 (by decide) ?d3 ?d4 ?d5 ?_)
          case d1 => exact evC_one _
          case d3 => unfold maxLen; simp; omega
          case d4 => simp; omega
          case d5 => simp; omega
          intro lv' w3 hown3 happ3
          have hI3 := HIJ.out.below ((Below.refl wr.heap.size wr).alloc (Nat.le_refl _) (.cells #[.int .u8 (mkEv mark).k, .int .u8 (mkEv mark).t, .int .u8 (mkEv mark).a, .int .i32 (mkEv mark).v, .int .i32 (mkEv mark).s] 45))
          have hL3 := HLJ.out.below ((Below.refl wr.heap.size wr).alloc (Nat.le_refl _) (.cells #[.int .u8 (mkEv mark).k, .int .u8 (mkEv mark).t, .int .u8 (mkEv mark).a, .int .i32 (mkEv mark).v, .int .i32 (mkEv mark).s] 45))
          have howne : Own w3 B lv' (List.replicate (n0 + j + 1) (mkEv mark)) := by
            unfold Own
            rw [List.replicate_succ', evCells_append, List.length_append, List.length_replicate]
            simpa [evCells] using hown3
          have hb3 := below_app (hbj.alloc hBj (.cells #[.int .u8 (mkEv mark).k, .int .u8 (mkEv mark).t, .int .u8 (mkEv mark).a, .int .i32 (mkEv mark).v, .int .i32 (mkEv mark).s] 45)) happ3 (fun g hg => (World.ownsRow.lt HLJ.out.own g hg).1) (by simp; omega)
          obtain ⟨q1, q2⟩ := step_list hI3 hL3 (by omega) howne happ3
          obtain ⟨la, lc, rfl⟩ := ownsRow_form hown3
          obtain ⟨hja, hjc, rfl⟩ := q1.form
          have c3 := q1.cell
          have hB3 : B ≤ w3.heap.size := Nat.le_trans q1.base (Nat.le_of_lt q1.wb_lt)
          have HQ1 := hidIt q1
          have HQ2 := hidIt q2
          clear hI3 hL3 howne hown3 happ3 q1 q2 m0 m1 m2 m3 m4
          go_wp2_with (at_builtin; refine wpList_append_two _ rfl _ _ 28 rfl B 43 i1 (.agg #[.slice none 0 0, .int .i32 0]) 2 32 Tryz.underlying28 HI1.out HY0.out HY1.out HY2.out rfl (by decide) _ _ _ rfl (HQ1.out.below ((Below.refl _ _).alloc (Nat.le_refl _) _)).row _ 1 1 [.slice la (n0 + j + 1) lc, .int .i32 mark] rfl rfl (hold_new w3 _ _ _) ?e1 (by decide) ?e3 ?e4 ?e5 ?_)
          case e1 => exact hold_cells_one (.slice la (n0 + j + 1) lc) mark rfl
          case e3 => unfold maxLen; omega
          case e4 => omega
          case e5 => first | omega | (simp; omega)
          intro hv4 w4 hown4 happ4
          obtain ⟨a4, c4, rfl⟩ := ownsRow_form hown4
          have hI4 := HQ1.out.below ((Below.refl w3.heap.size w3).alloc (Nat.le_refl _) (.cells #[.slice la (n0 + j + 1) lc, .int .i32 mark] 43))
          have hL4 := HQ2.out.below ((Below.refl w3.heap.size w3).alloc (Nat.le_refl _) (.cells #[.slice la (n0 + j + 1) lc, .int .i32 mark] 43))
          obtain ⟨k1, k2⟩ := app_cell hI4 happ4
          have hb4 := below_app (hb3.alloc hB3 (.cells #[.slice la (n0 + j + 1) lc, .int .i32 mark] 43)) happ4 (fun g hg => (HQ1.out.hv_lt g hg).1) (by simp; omega)
          obtain ⟨s1, s2⟩ := step_holds hI4 hL4 hm0 hm1 (by omega) hown4 happ4
          have HSS : Hid (Loop2 w B wb w1.heap.size hs.length n0 mark (j + 1) (.slice la (n0 + j + 1) lc) (w4.setCell ⟨wb, 1, none⟩ (.slice a4 (hsj.length + 1) c4))) :=
            ⟨_, _, s1, s2, by rw [List.length_append, HLEN.out]; rfl, hb4.setCell (p := ⟨wb, 1, none⟩) HQ1.out.base _, Nat.le_trans s1.base (Nat.le_of_lt s1.wb_lt)⟩
          clear hI4 hL4 hb4 s1 s2 hown4 happ4 c3
          go_wp2_with fail
          go_roundw
          case rel => exact ⟨j + 1, by omega, by go_num, HSS.out⟩
          case measure => simp [intOf]; omega
        · have hge3 : ¬ (j : Int) < 3 := by omega
          have hj3 : j = 3 := by omega
          subst hj3
          go_wp2_with fail
          go_end0
          exact ⟨rfl, hvj, hsj, hij, by rw [HLEN.out], hbj⟩

end Go.Proofs.YtfdalbmopaemgabGreatDoor
