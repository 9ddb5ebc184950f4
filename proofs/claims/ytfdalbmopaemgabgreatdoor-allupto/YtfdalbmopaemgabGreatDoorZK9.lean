import Derived.Test.YtfdalbmopaemgabGreatDoorZR9
import Derived.Test.YtfdalbmopaemgabGreatDoorK8
namespace Go.Proofs.YtfdalbmopaemgabGreatDoor
open Go.RowKit

theorem tup2i {a b c d : Int} (h : a = b) (h' : c = d) : Ending.returned (.tuple #[.int .i64 a, .int .i64 c]) = .returned (.tuple #[.int .i64 b, .int .i64 d]) := by rw [h, h']

set_option maxRecDepth 100000 in
set_option maxHeartbeats 1000000 in
theorem refCheck (a : Option Addr) (c : Nat) (es : List Ev) (w : World) (hs : SlEv w (.slice a es.length c) es) (hok : ∀ e ∈ es, e.Ok) (hm : es.length ≤ 1048576) (hcap : es.length ≤ c) :
    Calls Tryz.prog 27 #[.slice a es.length c] w (CheckPost w es) := by
  have HS := hidIt hs
  have HOK := hidIt hok
  clear hs hok
  go_enter Tryz.func27, Tryz.ntmps27
  go_wp2_with fail
  go_loopw [4] (fun i wr => ∃ k : Nat, k ≤ es.length ∧ i = .int .i64 k ∧ Below w.heap.size w wr ∧ Hid (checkG [] es = checkG (es.take k) (es.drop k))) (fun i _ => es.length - (intOf i).toNat)
  case atStart => exact ⟨0, by omega, rfl, Below.refl _ _, by show _ = _; simp⟩
  case round =>
    obtain ⟨k, hk, rfl, hnx, HC⟩ := hrel
    by_cases hlt : k < es.length
    · have hlt' : (k : Int) < (es.length : Int) := by omega
      have hk0 : (0 : Int) ≤ (k : Int) := by omega
      have hkc : (k : Int) ≤ (c : Int) := by omega
      have HS2 := hidIt (HS.out.below hnx)
      obtain ⟨b, off, rfl, hbw, g0, g1, g2, g3, g4⟩ := HS2.out.at_ k hlt
      have hevo := HOK.out es[k] (List.getElem_mem _)
      have HST := hidIt (checkG_stop es k hlt)
      have HON := hidIt (checkG_on es k hlt)
      obtain ⟨ev, hev⟩ : ∃ ev, es[k] = ev := ⟨_, rfl⟩
      rw [hev] at g0 g1 g2 g3 g4 hevo HST HON
      have HW : Hid (Calls Tryz.prog 50 #[.slice (some ⟨b, off, none⟩) k c, evV ev] wr.drew fun r w' => r = .returned (.int .i64 (wrongL (es.take k) ev)) ∧ Below wr.heap.size wr w') := by
        refine (refWrong _ (es.take k) ev wr.drew ((HS2.out.head (c' := c) k (by omega)).of_heap (Nat.le_refl _) (fun _ _ _ => rfl)) hevo (by rw [List.length_take]; omega)).mono ?_
        rintro r w' ⟨h1, h2⟩
        exact ⟨h1, ⟨h2.os, h2.tape, h2.output, h2.size, h2.block⟩⟩
      obtain ⟨wv, hwv⟩ : ∃ wv, wrongL (es.take k) ev = wv := ⟨_, rfl⟩
      have HWV := hidIt hwv
      clear hev hwv hevo
      cases h0 : (wv == 0) with
      | true =>
        have HN : Hid (checkG [] es = checkG (es.take (k + 1)) (es.drop (k + 1))) := by show _ = _; rw [HC.out, HON.out (by rw [HWV.out]; simpa using h0)]
        have h0n : (wv != 0) = false := by simp [bne, h0]
        clear h0
        go_wp2_with fail
        go_region_with (go_at_call 50; refine HW.out.mono ?_; rintro r w2 ⟨rfl, hb2⟩; rw [HWV.out])
        go_wp2_with fail
        go_roundw
        case rel => exact ⟨k + 1, by omega, by go_num, hnx.trans (hb2.mono hnx.size), HN⟩
        case measure => simp [intOf]; omega
      | false =>
        have HN : Hid (checkG [] es = (wv, (k : Int))) := by show _ = _; rw [HC.out, HST.out (by rw [HWV.out]; simpa using h0), HWV.out]
        have h0n : (wv != 0) = true := by simp [bne, h0]
        clear h0
        go_wp2_with fail
        go_region_with (go_at_call 50; refine HW.out.mono ?_; rintro r w2 ⟨rfl, hb2⟩; rw [HWV.out])
        go_wp2_with fail
        go_ret2
        exact ⟨tup2i (by rw [HN.out]) (by rw [HN.out]), hnx.trans (hb2.mono hnx.size)⟩
    · have hge : ¬ (k : Int) < (es.length : Int) := by omega
      have HN : Hid (checkG [] es = (0, 0)) := by show _ = _; rw [HC.out, List.drop_eq_nil_of_le (by omega)]; rfl
      go_wp2_with fail
      go_ret2
      exact ⟨tup2i (by rw [HN.out]) (by rw [HN.out]), hnx⟩

end Go.Proofs.YtfdalbmopaemgabGreatDoor

namespace Go.Proofs.YtfdalbmopaemgabGreatDoor
open Go.RowKit

theorem tr_new (w : World) (T : TypeId) : TrAt (w.alloc (.cells #[.int .u8 0, .int .u8 0, .int .u8 0, .int .u8 0, .int .u8 0, .int .u8 0, .int .u8 0, .int .u8 0, .int .u8 0, .int .u8 0, .int .u8 0, .int .u8 0, .int .u8 0, .int .u8 0, .int .u8 0, .int .u8 0, .int .u8 0, .bool false, .bool false, .bool false, .bool false, .bool false, .bool false, .bool false, .bool false, .bool false, .bool false, .bool false, .bool false, .bool false, .bool false, .bool false, .bool false] T)) w.heap.size ⟨0, fun _ => 0, fun _ => false⟩ := by
  refine ⟨by simp [go_sem], fun i hi => ?_, fun i hi => ?_, fun o => by simp [go_sem], by simp⟩
  all_goals
    have hc : i = 0 ∨ i = 1 ∨ i = 2 ∨ i = 3 ∨ i = 4 ∨ i = 5 ∨ i = 6 ∨ i = 7 ∨ i = 8 ∨ i = 9 ∨ i = 10 ∨ i = 11 ∨ i = 12 ∨ i = 13 ∨ i = 14 ∨ i = 15 := by omega
    rcases hc with rfl | rfl | rfl | rfl | rfl | rfl | rfl | rfl | rfl | rfl | rfl | rfl | rfl | rfl | rfl | rfl <;> simp [go_sem]

def CkLoop (w : World) (es : List Ev) (k : Nat) (wr : World) : Prop :=
  ∃ T, TrAt wr w.heap.size T ∧ JJ (es.take k) T ∧ Below w.heap.size w wr ∧ checkG [] es = checkG (es.take k) (es.drop k)

theorem fault_r (b : Nat) (T : Tr) (k : Int) (t a : Nat) (v s : Int) (W : World) (h : TrAt W b T) (hn : T.n ≤ 15) (hk0 : 0 ≤ k) (hk1 : k ≤ 255) (ht : t ≤ 255) (ha : a ≤ 255) :
    Calls Tryz.prog 76 #[.pointer (some ⟨b, 0, none⟩), evV ⟨k, (t : Int), (a : Int), v, s⟩] W fun r w' => r = .returned (.int .i64 (faultL T k t a v s)) ∧ Below W.heap.size W w' ∧ (∀ b o, b < W.heap.size → w'.cell? ⟨b, o, none⟩ = W.cell? ⟨b, o, none⟩) := by
  refine (fault_any b T k t a v s W h hn hk0 hk1 ht ha).mono ?_
  rintro r w' ⟨rfl, h⟩
  exact ⟨rfl, h, bcells h⟩

theorem ev_nat (e : Ev) (h : e.Ok) : ∃ (k : Int) (t a : Nat) (v s : Int), e = ⟨k, (t : Int), (a : Int), v, s⟩ ∧ 0 ≤ k ∧ k ≤ 255 ∧ t ≤ 255 ∧ a ≤ 255 := by
  obtain ⟨k0, k1, t0, t1, a0, a1, v0, v1, s0, s1⟩ := h
  obtain ⟨k, t, a, v, s⟩ := e
  simp only at k0 k1 t0 t1 a0 a1
  obtain ⟨t', rfl⟩ : ∃ t' : Nat, t = (t' : Int) := ⟨t.toNat, by omega⟩
  obtain ⟨a', rfl⟩ : ∃ a' : Nat, a = (a' : Int) := ⟨a.toNat, by omega⟩
  exact ⟨k, t', a', v, s, rfl, k0, k1, by omega, by omega⟩

set_option maxRecDepth 100000 in
set_option maxHeartbeats 2000000 in
theorem hcheck_any (a : Option Addr) (c : Nat) (es : List Ev) (w : World) (hs : SlEv w (.slice a es.length c) es) (hok : ∀ e ∈ es, e.Ok) (hm : es.length ≤ 1048576) :
    Calls Tryz.prog 49 #[.slice a es.length c] w (CheckPost w es) := by
  have HS := hidIt hs
  have HOK := hidIt hok
  clear hs hok
  have HST := hidIt (tr_new w 50)
  go_enter Tryz.func49, Tryz.ntmps49
  go_wp2_with fail
  go_loopw [10] (fun i wr => ∃ k : Nat, k ≤ es.length ∧ i = .int .i64 k ∧ CkLoop w es k wr) (fun i _ => es.length - (intOf i).toNat)
  case atStart => exact ⟨0, by omega, rfl, _, HST.out, JJ.start, (Below.refl _ _).alloc (Nat.le_refl _) _, rfl⟩
  case round =>
    clear HST
    obtain ⟨k, hk, rfl, T, htr, hj, hnx, hck⟩ := hrel
    have HC := hidIt hck
    have HTR := hidIt htr
    have HJ := hidIt hj
    clear hck htr hj
    by_cases hlt : k < es.length
    · have hlt' : (k : Int) < (es.length : Int) := by omega
      have hk0 : (0 : Int) ≤ (k : Int) := by omega
      have HS2 := hidIt (HS.out.below hnx)
      obtain ⟨bb, off, rfl, hbw, g0, g1, g2, g3, g4⟩ := HS2.out.at_ k hlt
      have hevo := HOK.out es[k] (List.getElem_mem _)
      have HSP := hidIt (checkG_stop es k hlt)
      have HON := hidIt (checkG_on es k hlt)
      have HTK := hidIt (List.take_succ_eq_append_getElem hlt)
      obtain ⟨kk, tt, aa, vv, ss, hev, hk0', hk1', ht', ha'⟩ := ev_nat es[k] hevo
      rw [hev] at g0 g1 g2 g3 g4 HSP HON HTK
      clear hev hevo
      simp only at g0 g1 g2 g3 g4
      have hbr : Below w.heap.size w (wr.alloc (.cells #[.int .u8 kk, .int .u8 (tt : Int), .int .u8 (aa : Int), .int .i32 vv, .int .i32 ss] 45)) := hnx.alloc hnx.size _
      have hlen : (es.take k).length = k := by rw [List.length_take]; omega
      by_cases h60 : 60 ≤ k
      · have h60' : (60 : Int) ≤ (k : Int) := by omega
        have HN : Hid (checkG [] es = (1, (k : Int))) := by
          have hw1 : wrongL (es.take k) ⟨kk, (tt : Int), (aa : Int), vv, ss⟩ = 1 := by unfold wrongL; rw [if_pos (by omega)]
          show _ = _
          rw [HC.out, HSP.out (by rw [hw1]; decide), hw1]
        clear hlen
        go_wp2_with fail
        go_ret2
        exact ⟨tup2i (by rw [HN.out]) (by rw [HN.out]), hbr⟩
      · have h60' : ¬ (60 : Int) ≤ (k : Int) := by omega
        have HFW := hidIt (fault_wrong HJ.out (by omega) kk tt aa vv ss)
        have HFC := hidIt (fault_r w.heap.size T kk tt aa vv ss _ (HTR.out.below ((Below.refl wr.heap.size wr).alloc (Nat.le_refl _) (.cells #[.int .u8 kk, .int .u8 (tt : Int), .int .u8 (aa : Int), .int .i32 vv, .int .i32 ss] 45))) HJ.out.n15 hk0' hk1' ht' ha')
        obtain ⟨fv, hfv⟩ : ∃ fv, faultL T kk tt aa vv ss = fv := ⟨_, rfl⟩
        have HFV := hidIt hfv
        rw [hfv] at HFW
        clear hfv hlen
        cases h0 : (fv == 0) with
        | false =>
          have h0n : (fv != 0) = true := by simp [bne, h0]
          have HN : Hid (checkG [] es = (fv, (k : Int))) := by
            show _ = _
            rw [HC.out, HSP.out (by rw [← HFW.out]; simpa using h0), ← HFW.out]
          clear h0
          go_wp2_with (go_at_call 76; refine HFC.out.mono ?_; rintro r w2 ⟨rfl, hb2, hc2⟩; rw [HFV.out])
          go_ret2
          exact ⟨tup2i (by rw [HN.out]) (by rw [HN.out]), hbr.trans (hb2.mono hbr.size)⟩
        | true =>
          have h0n : (fv != 0) = false := by simp [bne, h0]
          have hw0 : wrongL (es.take k) ⟨kk, (tt : Int), (aa : Int), vv, ss⟩ = 0 := by rw [← HFW.out]; simpa using h0
          have HSO := hidIt (step_ok HJ.out kk tt aa vv ss hw0)
          have HN : Hid (checkG [] es = checkG (es.take (k + 1)) (es.drop (k + 1))) := by
            show _ = _
            rw [HC.out, HON.out hw0]
          clear h0 hw0
          go_wp2_with (go_at_call 76; refine HFC.out.mono ?_; rintro r w2 ⟨rfl, hb2, hc2⟩; rw [HFV.out]; have y0 : w2.cell? ⟨wr.heap.size, 0, none⟩ = some (.int .u8 kk) := (by rw [hc2 _ _ (by simp)]; simp [go_sem]); have y1 : w2.cell? ⟨wr.heap.size, 1, none⟩ = some (.int .u8 (tt : Int)) := (by rw [hc2 _ _ (by simp)]; simp [go_sem]); have y2 : w2.cell? ⟨wr.heap.size, 2, none⟩ = some (.int .u8 (aa : Int)) := (by rw [hc2 _ _ (by simp)]; simp [go_sem]); have y3 : w2.cell? ⟨wr.heap.size, 3, none⟩ = some (.int .i32 vv) := (by rw [hc2 _ _ (by simp)]; simp [go_sem]); have y4 : w2.cell? ⟨wr.heap.size, 4, none⟩ = some (.int .i32 ss) := (by rw [hc2 _ _ (by simp)]; simp [go_sem]); clear hc2)
          refine (happen_any w.heap.size T kk tt aa vv ss _ ((HTR.out.below ((Below.refl wr.heap.size wr).alloc (Nat.le_refl _) _)).below hb2) HSO.out.1 ha').mono ?_
          rintro r w3 ⟨rfl, htr3, hb3, _⟩
          have HR : Hid (CkLoop w es (k + 1) w3) := ⟨_, htr3, by rw [HTK.out]; exact HSO.out.2, (hbr.trans (hb2.mono hbr.size)).trans hb3, HN.out⟩
          clear htr3 hb3
          go_wp2_with fail
          go_roundw
          case rel => exact ⟨k + 1, by omega, by go_num, HR.out⟩
          case measure => simp [intOf]; omega
    · have hge : ¬ (k : Int) < (es.length : Int) := by omega
      have HN : Hid (checkG [] es = (0, 0)) := by show _ = _; rw [HC.out, List.drop_eq_nil_of_le (by omega)]; rfl
      go_wp2_with fail
      go_ret2
      exact ⟨tup2i (by rw [HN.out]) (by rw [HN.out]), hnx⟩

set_option maxHeartbeats 400000 in
theorem check_all (v : Value) (es : List Ev) (w : World) (hs : SlEv w v es) (hok : ∀ e ∈ es, e.Ok) (hm : es.length ≤ 1048576) :
    Calls Tryz.prog 26 #[v] w (CheckPost w es) := by
  obtain ⟨a, c, rfl⟩ := slice_form hs
  have HC := hidIt (hcheck_any a c es w hs hok hm)
  clear hs hok
  go_enter Tryz.func26, Tryz.ntmps26
  go_wp2_with fail
  refine HC.out.mono ?_
  rintro r w1 ⟨rfl, hb⟩
  go_wp2_with fail
  go_ret2
  exact ⟨rfl, hb⟩

end Go.Proofs.YtfdalbmopaemgabGreatDoor
