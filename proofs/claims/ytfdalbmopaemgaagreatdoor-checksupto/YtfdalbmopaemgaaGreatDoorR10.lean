import Derived.Test.YtfdalbmopaemgaaGreatDoorR9
namespace Go.Proofs.YtfdalbmopaemgaaGreatDoor
open Go.RowKit

theorem tup2i {a b c d : Int} (h : a = b) (h' : c = d) : Ending.returned (.tuple #[.int .i64 a, .int .i64 c]) = .returned (.tuple #[.int .i64 b, .int .i64 d]) := by rw [h, h']

set_option maxRecDepth 100000 in
set_option maxHeartbeats 1000000 in
theorem refCheck (a : Option Addr) (c : Nat) (es : List Ev) (w : World) (hs : SlEv w (.slice a es.length c) es) (hok : ∀ e ∈ es, e.Ok) (hm : es.length ≤ 1048576) (hcap : es.length ≤ c) :
    Calls Tryz.prog 32 #[.slice a es.length c] w (CheckPost w es) := by
  have HS := hidIt hs
  have HOK := hidIt hok
  clear hs hok
  go_enter Tryz.func32, Tryz.ntmps32
  go_wp2_with fail
  go_loopw [4] (fun i wr => ∃ k : Nat, k ≤ es.length ∧ i = .int .i64 k ∧ Below w.heap.size w wr ∧ Hid (checkG [] es = checkG (es.take k) (es.drop k))) (fun i _ => es.length - (intOf i).toNat)
  case atStart => exact ⟨0, by omega, rfl, Below.refl _ _, by show _ = _; simp⟩
  case round =>
    obtain ⟨k, hk, rfl, hnx, HC⟩ := hrel
    by_cases hlt : k < es.length
    · have hlt' : (k : Int) < (es.length : Int) := by omega
      have hk0 : (0 : Int) ≤ (k : Int) := by omega
      have hkc : (k : Int) ≤ (c : Int) := by omega
      have HS2 := hidIt (HS.out.below hnx)
      obtain ⟨b, off, rfl, hbw, g0, g1, g2, g3, g4⟩ := HS2.out.at_ k hlt
      have hevo := HOK.out es[k] (List.getElem_mem _)
      have HST := hidIt (checkG_stop es k hlt)
      have HON := hidIt (checkG_on es k hlt)
      obtain ⟨ev, hev⟩ : ∃ ev, es[k] = ev := ⟨_, rfl⟩
      rw [hev] at g0 g1 g2 g3 g4 hevo HST HON
      have HW : Hid (Calls Tryz.prog 55 #[.slice (some ⟨b, off, none⟩) k c, evV ev] wr.drew fun r w' => r = .returned (.int .i64 (wrongL (es.take k) ev)) ∧ Below wr.heap.size wr w') := by
        refine (refWrong _ (es.take k) ev wr.drew ((HS2.out.head (c' := c) k (by omega)).of_heap (Nat.le_refl _) (fun _ _ _ => rfl)) hevo (by rw [List.length_take]; omega)).mono ?_
        rintro r w' ⟨h1, h2⟩
        exact ⟨h1, ⟨h2.os, h2.tape, h2.output, h2.size, h2.block⟩⟩
      obtain ⟨wv, hwv⟩ : ∃ wv, wrongL (es.take k) ev = wv := ⟨_, rfl⟩
      have HWV := hidIt hwv
      clear hev hwv hevo
      cases h0 : (wv == 0) with
      | true =>
        have HN : Hid (checkG [] es = checkG (es.take (k + 1)) (es.drop (k + 1))) := by show _ = _; rw [HC.out, HON.out (by rw [HWV.out]; simpa using h0)]
        have h0n : (wv != 0) = false := by simp [bne, h0]
        clear h0
        go_wp2_with fail
        go_region_with (go_at_call 55; refine HW.out.mono ?_; rintro r w2 ⟨rfl, hb2⟩; rw [HWV.out])
        go_wp2_with fail
        go_roundw
        case rel => exact ⟨k + 1, by omega, by go_num, hnx.trans (hb2.mono hnx.size), HN⟩
        case measure => simp [intOf]; omega
      | false =>
        have HN : Hid (checkG [] es = (wv, (k : Int))) := by show _ = _; rw [HC.out, HST.out (by rw [HWV.out]; simpa using h0), HWV.out]
        have h0n : (wv != 0) = true := by simp [bne, h0]
        clear h0
        go_wp2_with fail
        go_region_with (go_at_call 55; refine HW.out.mono ?_; rintro r w2 ⟨rfl, hb2⟩; rw [HWV.out])
        go_wp2_with fail
        go_ret2
        exact ⟨tup2i (by rw [HN.out]) (by rw [HN.out]), hnx.trans (hb2.mono hnx.size)⟩
    · have hge : ¬ (k : Int) < (es.length : Int) := by omega
      have HN : Hid (checkG [] es = (0, 0)) := by show _ = _; rw [HC.out, List.drop_eq_nil_of_le (by omega)]; rfl
      go_wp2_with fail
      go_ret2
      exact ⟨tup2i (by rw [HN.out]) (by rw [HN.out]), hnx⟩

end Go.Proofs.YtfdalbmopaemgaaGreatDoor
