import Derived.Test.YtfdalbmopaemgaaGreatDoorZW3
import Derived.Test.YtfdalbmopaemgaaGreatDoorZR13
import Derived.Test.YtfdalbmopaemgaaGreatDoorZL4F
import Derived.Test.YtfdalbmopaemgaaGreatDoorZK9
import Derived.Test.YtfdalbmopaemgaaGreatDoorZG1
namespace Go.Proofs.YtfdalbmopaemgaaGreatDoor
open Go.RowKit

/-- Two rows of four values are compared. -/
theorem Tryz.eqVals (w : World) (x0 x1 x2 x3 y0 y1 y2 y3 : Int) : (Op.equalIn 10000 58 (.agg #[.int .i32 x0, .int .i32 x1, .int .i32 x2, .int .i32 x3]) (.agg #[.int .i32 y0, .int .i32 y1, .int .i32 y2, .int .i32 y3])).run Tryz.prog w = .ok (x0 == y0 && (x1 == y1 && (x2 == y2 && x3 == y3))) w := by
  have hu := Tryz.underlying58
  rw [show (10000 : Nat) = 9999 + 1 from rfl, Op.equalIn]
  simp only [Sem.run_bind, run_underlying hu, Result.andThen_ok]
  simp only [Std.Legacy.Range.forIn_eq_forIn_range', Std.Legacy.Range.size]
  simp [List.range', part, go_sem, Tryz.isAgg21, Tryz.sizeOf21]
  by_cases h0 : x0 = y0 <;> by_cases h1 : x1 = y1 <;> by_cases h2 : x2 = y2 <;> by_cases h3 : x3 = y3 <;> simp [*]

end Go.Proofs.YtfdalbmopaemgaaGreatDoor

namespace Go.Proofs.YtfdalbmopaemgaaGreatDoor
open Go.RowKit

/-- Four values in a block of their own. -/
structure Vals (w : World) (b : Nat) (V : Nat → Int) : Prop where
  c0 : w.cell? ⟨b, 0, none⟩ = some (.int .i32 (V 0))
  c1 : w.cell? ⟨b, 1, none⟩ = some (.int .i32 (V 1))
  c2 : w.cell? ⟨b, 2, none⟩ = some (.int .i32 (V 2))
  c3 : w.cell? ⟨b, 3, none⟩ = some (.int .i32 (V 3))
  lt : b < w.heap.size

theorem vals_new (w : World) (T : TypeId) (V : Nat → Int) : Vals (w.alloc (.cells #[.int .i32 (V 0), .int .i32 (V 1), .int .i32 (V 2), .int .i32 (V 3)] T)) w.heap.size V :=
  ⟨by simp [go_sem], by simp [go_sem], by simp [go_sem], by simp [go_sem], by simp⟩

theorem Vals.of_heap {w w' : World} {b : Nat} {V : Nat → Int} (h : Vals w b V) (hh : w'.heap[b]? = w.heap[b]?) : Vals w' b V :=
  ⟨by rw [World.cell?_of_block (a := ⟨b, _, none⟩) hh]; exact h.c0, by rw [World.cell?_of_block (a := ⟨b, _, none⟩) hh]; exact h.c1, by rw [World.cell?_of_block (a := ⟨b, _, none⟩) hh]; exact h.c2, by rw [World.cell?_of_block (a := ⟨b, _, none⟩) hh]; exact h.c3, by
    have h1 : w'.cell? ⟨b, 0, none⟩ = some (.int .i32 (V 0)) := by rw [World.cell?_of_block (a := ⟨b, _, none⟩) hh]; exact h.c0
    exact World.block_lt_of_cell? w' ⟨b, 0, none⟩ h1⟩

theorem Vals.below {w w' : World} {b : Nat} {V : Nat → Int} (h : Vals w b V) (hb : Below w.heap.size w w') : Vals w' b V := h.of_heap (hb.block b h.lt)

set_option maxRecDepth 100000 in
set_option maxHeartbeats 2000000 in
theorem replayed_any (B wb : Nat) (hv : Value) (hs : List (Value × Int)) (o : OpD) (es : List Ev) (w : World) (h : Inv w B wb hv hs) (hop : OpOk w B o es) (hH : hs.length ≤ 10000000) :
    Calls Tryz.prog 17 #[.pointer (some ⟨wb, 0, none⟩), opV o] w (StepPost w B wb hs.length) := by
  obtain ⟨ok, on, ot, ox, ov, ohv, os⟩ := o
  obtain ⟨ha, hc, hvf⟩ := slice_form hop.sl
  simp only at hvf
  subst hvf
  have HI := hidIt h
  have HOP := hidIt hop
  have hlen := hop.len
  have hcap : es.length ≤ hc := hop.cap _ _ _ rfl
  have hBw : B ≤ w.heap.size := Nat.le_trans h.base (Nat.le_of_lt h.wb_lt)
  have hbx := (Below.refl w.heap.size w).alloc (Nat.le_refl _) (opC ⟨ok, on, ot, ox, ov, .slice ha es.length hc, os⟩)
  clear h hop
  have hl0 : (0 : Int) ≤ (es.length : Int) := by omega
  have hl1 : (es.length : Int) ≤ ((es.length + 8 : Nat) : Int) := by omega
  go_enter Tryz.func17, Tryz.ntmps17
  go_wp2_with fail
  refine (handed_any _ es _ (HOP.out.sl.below hbx) hlen).mono ?_
  rintro r w1 ⟨g, rfl, hg, hrow, hb1⟩
  have hb1' : Below w.heap.size w w1 := hbx.trans (hb1.mono (by simp))
  obtain ⟨z0, z5, z6⟩ := bcell7 hb1 (by simp) rfl
  have hz1 : w.heap.size < w1.heap.size := by have := hb1.size; simp at this; omega
  go_wp2_with fail
  refine (replay_all _ es _ (Row.prefix hrow).slEv HOP.out.ok hlen).mono ?_
  rintro r w2 ⟨rfl, hb2⟩
  obtain ⟨⟨rp, rv, re⟩, hrg⟩ : ∃ x, replayG es = x := ⟨_, rfl⟩
  have HRG := hidIt hrg
  rw [hrg]
  simp only
  clear hrg
  have y5 : w2.cell? ⟨w.heap.size, 5, none⟩ = some (.slice ha es.length hc) := by rw [bcells hb2 _ _ hz1]; exact z5
  have hz2 : w.heap.size < w2.heap.size := Nat.lt_of_lt_of_le hz1 hb2.size
  have hb2' : Below w.heap.size w w2 := hb1'.trans (hb2.mono hb1'.size)
  have hbv : Below w2.heap.size w2 (w2.alloc (.cells #[.int .i32 (rv 0), .int .i32 (rv 1), .int .i32 (rv 2), .int .i32 (rv 3)] 58)) := (Below.refl _ _).alloc (Nat.le_refl _) _
  have hb2v := hb2'.trans (hbv.mono hb2'.size)
  have HA := hidIt (vals_new w2 58 rv)
  clear z0 z5 z6
  go_wp2_with fail
  refine (refReplay ha hc es _ (HOP.out.sl.below hb2v) HOP.out.ok hlen hcap).mono ?_
  rintro r w3 ⟨rfl, hb3⟩
  rw [HRG.out]
  simp only
  have hz2v : w.heap.size < (w2.alloc (.cells #[.int .i32 (rv 0), .int .i32 (rv 1), .int .i32 (rv 2), .int .i32 (rv 3)] 58)).heap.size := by simp; omega
  have x5 : w3.cell? ⟨w.heap.size, 5, none⟩ = some (.slice ha es.length hc) := by rw [bcells hb3 _ _ hz2v, bcells hbv _ _ hz2]; exact y5
  have hb3' : Below w.heap.size w w3 := hb2v.trans (hb3.mono hb2v.size)
  have hbu : Below w3.heap.size w3 (w3.alloc (.cells #[.int .i32 (rv 0), .int .i32 (rv 1), .int .i32 (rv 2), .int .i32 (rv 3)] 58)) := (Below.refl _ _).alloc (Nat.le_refl _) _
  have hb3u := hb3'.trans (hbu.mono hb3'.size)
  have HA3 := hidIt ((HA.out.below hb3).below hbu)
  have HU3 := hidIt (vals_new w3 58 rv)
  have hz3 : w2.heap.size < w3.heap.size := by have := hb3.size; simp at this; omega
  have hz3' : w.heap.size < w3.heap.size := by omega
  have hrow2 := hrow.below hb2 hrow.lt
  have hrow3 := ((hrow2.below hbv hrow2.lt).below hb3 (hrow2.below hbv hrow2.lt).lt)
  have hrow3u : Row (w3.alloc (.cells #[.int .i32 (rv 0), .int .i32 (rv 1), .int .i32 (rv 2), .int .i32 (rv 3)] 58)) g (es.length + 8) (es ++ List.replicate 8 byEv) := hrow3.below hbu hrow3.lt
  have hgl2 : g < w2.heap.size := hrow2.lt
  clear y5
  go_wp2_with fail
  refine (still_any _ es g _ (HOP.out.sl.below hb3u) hlen hrow3u).mono ?_
  rintro r w4 ⟨rfl, hb4⟩
  have hb4' : Below w.heap.size w w4 := hb3u.trans (hb4.mono hb3u.size)
  have hrow4 : Row w4 g (es.length + 8) (es ++ List.replicate 8 byEv) := hrow3u.below hb4 hrow3u.lt
  have hgw : w.heap.size ≤ g := by simp at hg; omega
  have hlen8 : (es ++ List.replicate 8 byEv).length = es.length + 8 := by simp
  have hkeep := keep_rowF B wb hv hs g (es.length + 8) (es ++ List.replicate 8 byEv) w4 (HI.out.below hb4') hrow4 (Nat.le_trans hBw hgw) (by have := HI.out.wb_lt; omega) (fun e => by have := (HI.out.hv_lt g e).2; omega) (fun x hx e => by have := ((HI.out.each x hx).lt g e).2; omega) (by rw [hlen8]; omega) hH
  rw [hlen8] at hkeep
  have HK := hidIt hkeep
  have HA4 := hidIt (HA3.out.below hb4)
  have HU4 := hidIt (HU3.out.below hb4)
  clear x5 hkeep hlen8
  go_wp2_with fail
  refine HK.out.mono ?_
  rintro r w5 ⟨rfl, hv', hs', hi5, hl5, hb5, hf5⟩
  have hfar : ∀ k, w.heap.size < k → k ≠ g → k < w4.heap.size → w5.heap[k]? = w4.heap[k]? := fun k h1 h2 h3 => hf5 k h3 h2 (by have := HI.out.wb_lt; omega) (fun e => by have := (HI.out.hv_lt k e).2; omega)
  have hA5 := HA4.out.of_heap (hfar _ hz2 (by omega) HA4.out.lt)
  have hU5 := HU4.out.of_heap (hfar _ (by omega) (by omega) HU4.out.lt)
  obtain ⟨a0, a1, a2, a3, _⟩ := hA5
  obtain ⟨b0, b1, b2, b3, _⟩ := hU5
  have HR := hidIt (And.intro hi5 (And.intro hl5 hb5))
  clear hi5 hl5 hb5 hf5 hfar
  have heqv := Tryz.eqVals
  go_wp2_with fail
  go_ret
  refine ⟨ret_bool (by simp), hv', hs', HR.out.1, by have := HR.out.2.1; omega, (hb4'.mono hBw).trans HR.out.2.2⟩

set_option maxRecDepth 100000 in
set_option maxHeartbeats 1000000 in
theorem step_replay : StepOk 4 := by
  intro B wb hv hs o es w hk h hop hH ht
  obtain ⟨ha, hc, hvf⟩ := slice_form hop.sl
  obtain ⟨ok, on, ot, ox, ov, ohv, os⟩ := o
  simp only at hk hvf
  subst hk hvf
  have hbx := (Below.refl w.heap.size w).alloc (Nat.le_refl _) (opC ⟨4, on, ot, ox, ov, .slice ha es.length hc, os⟩)
  have hBw : B ≤ w.heap.size := Nat.le_trans h.base (Nat.le_of_lt h.wb_lt)
  have HC := hidIt (replayed_any B wb hv hs ⟨4, on, ot, ox, ov, .slice ha es.length hc, os⟩ es _ (h.below hbx) (hop.stay (hbx.mono hBw)) hH)
  clear h hop
  go_enter Tryz.func11, Tryz.ntmps11
  go_wp2_with fail
  refine HC.out.mono ?_
  rintro r w1 ⟨rfl, hv', hs', h1, h2, h3⟩
  have HR := hidIt (And.intro h1 (And.intro h2 h3))
  clear h1 h2 h3
  go_wp2_with fail
  go_ret
  exact ⟨rfl, hv', hs', HR.out.1, HR.out.2.1, (hbx.mono hBw).trans HR.out.2.2⟩

set_option maxHeartbeats 400000 in
theorem replays_walk (v : Value) (ds : List OpD) (w : World) (hs : SlOp w v ds) (hok : ∀ d ∈ ds, ∃ es, OpOk w w.heap.size d es) (hmax : ds.length ≤ 1048576) (ht : Tab w) :
    Calls Tryz.prog 6 #[v] w fun r w' => r = .returned (.bool true) ∧ Below w.heap.size w w' := by
  have HC := hidIt (upTo_all 4 (by decide) (by decide) step_replay v ds w hs hok hmax ht)
  clear hs hok
  go_enter Tryz.func6, Tryz.ntmps6
  go_wp2_with fail
  refine HC.out.mono ?_
  rintro r w1 ⟨rfl, hb⟩
  go_wp2_with fail
  go_ret
  exact ⟨rfl, hb⟩

end Go.Proofs.YtfdalbmopaemgaaGreatDoor

namespace Go.Proofs.YtfdalbmopaemgaaGreatDoor
open Go.RowKit

/-! ### The document's own answers about a store -/
def holderG (h : List Ev) : Nat → Int → Int × Bool
  | 0, _ => (0, false)
  | n + 1, t => if t = 0 then (0, true) else if openL h t = true then (t, true) else if h.any (isC t) = false then (0, false) else holderG h n (parentL h t)

theorem tup_ib {k : IntKind} {a b : Int} {c d : Bool} (h : a = b) (h' : c = d) : Ending.returned (.tuple #[.int k a, .bool c]) = .returned (.tuple #[.int k b, .bool d]) := by rw [h, h']

set_option maxRecDepth 100000 in
set_option maxHeartbeats 1000000 in
theorem refHolder (v : Value) (es : List Ev) (t : Int) (w : World) (hs : SlEv w v es) (hm : es.length ≤ 1048576) :
    Calls Tryz.prog 59 #[v, .int .u8 t] w fun r w' => r = .returned (.tuple #[.int .u8 (holderG es 16 t).1, .bool (holderG es 16 t).2]) ∧ w' = w := by
  have HS := hidIt hs
  obtain ⟨ad, c, rfl⟩ := slice_form hs
  clear hs
  go_enter Tryz.func59, Tryz.ntmps59
  go_wp2_with fail
  go_loop [1, 6] (fun tv n => ∃ (k : Nat) (t' : Int), k ≤ 16 ∧ n = .int .i64 k ∧ tv = .int .u8 t' ∧ Hid (holderG es 16 t = holderG es (16 - k) t')) (fun _ n => 16 - (intOf n).toNat)
  case atStart => exact ⟨0, t, by omega, rfl, rfl, rfl⟩
  case round =>
    obtain ⟨k, t', hk, rfl, rfl, HW⟩ := hrel
    by_cases hlt : k < 16
    · have hlt' : (k : Int) ≤ 15 := by omega
      obtain ⟨m, hm'⟩ : ∃ m, 16 - k = m + 1 := ⟨15 - k, by omega⟩
      have HM : Hid (16 - (k + 1) = m) := by show _ = _; omega
      rw [hm'] at HW
      clear hm'
      cases h1 : (t' == 0) with
      | true =>
        have h1' : t' = 0 := by simpa using h1
        have HF : Hid (holderG es 16 t = (0, true)) := by show _ = _; rw [HW.out, holderG, if_pos h1']
        clear h1'
        go_wp2_with fail
        go_ret2
        exact ⟨tup_ib (by rw [HF.out]) (by rw [HF.out]), rfl⟩
      | false =>
        have h1' : t' ≠ 0 := by simpa using h1
        obtain ⟨o, ho⟩ : ∃ o, openL es t' = o := ⟨_, rfl⟩
        have HO := hidIt ho
        obtain ⟨cm, hcm⟩ : ∃ cm, es.any (isC t') = cm := ⟨_, rfl⟩
        have HCM := hidIt hcm
        cases o with
        | true =>
          have HF : Hid (holderG es 16 t = (t', true)) := by show _ = _; rw [HW.out, holderG, if_neg h1', if_pos ho]
          clear h1' ho hcm
          go_wp2_with (go_at_call 64; refine (refOpen _ es t' _ HS.out hm).mono ?_; rintro r w1 ⟨rfl, rfl⟩; rw [HO.out])
          go_ret2
          exact ⟨tup_ib (by rw [HF.out]) (by rw [HF.out]), rfl⟩
        | false =>
          cases cm with
          | false =>
            have HF : Hid (holderG es 16 t = (0, false)) := by show _ = _; rw [HW.out, holderG, if_neg h1', if_neg (by rw [ho]; decide), if_pos hcm]
            clear h1' ho hcm
            go_wp2_with (first | (go_at_call 64; refine (refOpen _ es t' _ HS.out hm).mono ?_; rintro r w1 ⟨rfl, rfl⟩; rw [HO.out]) | (go_at_call 89; refine (refCommitted _ es t' _ HS.out hm).mono ?_; rintro r w1 ⟨rfl, rfl⟩; rw [HCM.out]))
            go_ret2
            exact ⟨tup_ib (by rw [HF.out]) (by rw [HF.out]), rfl⟩
          | true =>
            have HF : Hid (holderG es 16 t = holderG es m (parentL es t')) := by show _ = _; rw [HW.out, holderG, if_neg h1', if_neg (by rw [ho]; decide), if_neg (by rw [hcm]; decide)]
            clear h1' ho hcm
            go_wp2_with (first | (go_at_call 64; refine (refOpen _ es t' _ HS.out hm).mono ?_; rintro r w1 ⟨rfl, rfl⟩; rw [HO.out]) | (go_at_call 89; refine (refCommitted _ es t' _ HS.out hm).mono ?_; rintro r w1 ⟨rfl, rfl⟩; rw [HCM.out]) | (go_at_call 88; refine (refParent _ es t' _ HS.out hm).mono ?_; rintro r w1 ⟨rfl, rfl⟩))
            go_round
            case rel => exact ⟨k + 1, parentL es t', by omega, by go_num, rfl, by show _ = _; rw [HM.out]; exact HF.out⟩
            case measure => simp [intOf]; omega
    · have hke : k = 16 := by omega
      subst hke
      have HF : Hid (holderG es 16 t = (0, false)) := HW
      go_wp2_with fail
      go_ret2
      exact ⟨tup_ib (by rw [HF.out]) (by rw [HF.out]), rfl⟩

end Go.Proofs.YtfdalbmopaemgaaGreatDoor
