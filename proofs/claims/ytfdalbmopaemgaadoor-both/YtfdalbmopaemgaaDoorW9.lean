import Derived.Test.YtfdalbmopaemgaaDoorSame
namespace Go.Proofs.YtfdalbmopaemgaaDoor
open Go.RowKit

/-! ### bare -/
set_option maxHeartbeats 1000000 in
theorem bare_any (e : Ev) (w : World) :
    Calls Tryd.prog 6 #[evV e] w fun r w' => r = .returned (evV (bare e)) ∧ Below w.heap.size w w' := by
  have hba : ∀ o o2, Below w.heap.size w ((w.alloc o).alloc o2) := fun o o2 => ((Below.refl _ _).alloc (Nat.le_refl _) o).alloc (by simp) o2
  by_cases k1 : e.k = 1
  · have t1 : (e.k == 1) = true := by simp [k1]
    have hb : bare e = ⟨e.k, e.t, e.a, 0, 0⟩ := by simp [bare, k1, nArg, nVal, nSeen]
    have HB := hidIt hb
    clear hb k1
    go_enter Tryd.func6, Tryd.ntmps6
    go_wp2
    rw [HB.out]
    exact bodyPost_ret (v := evV ⟨e.k, e.t, e.a, 0, 0⟩) (by simp [results, Tryd.results6, go_sem]) rfl ⟨rfl, hba _ _⟩
  · have f1 : (e.k == 1) = false := by simp [k1]
    by_cases k2 : e.k = 2
    · have t2 : (e.k == 2) = true := by simp [k2]
      have hb : bare e = ⟨e.k, e.t, e.a, 0, e.s⟩ := by simp [bare, k2, nArg, nVal, nSeen, onObj]
      have HB := hidIt hb
      clear hb k2 k1
      go_enter Tryd.func6, Tryd.ntmps6
      go_wp2
      rw [HB.out]
      exact bodyPost_ret (v := evV ⟨e.k, e.t, e.a, 0, e.s⟩) (by simp [results, Tryd.results6, go_sem]) rfl ⟨rfl, hba _ _⟩
    · have f2 : (e.k == 2) = false := by simp [k2]
      by_cases k3 : e.k = 3
      · have t3 : (e.k == 3) = true := by simp [k3]
        have hb : bare e = ⟨e.k, e.t, e.a, e.v, 0⟩ := by simp [bare, k3, nArg, nVal, nSeen, onObj]
        have HB := hidIt hb
        clear hb k3 k1 k2
        go_enter Tryd.func6, Tryd.ntmps6
        go_wp2
        rw [HB.out]
        exact bodyPost_ret (v := evV ⟨e.k, e.t, e.a, e.v, 0⟩) (by simp [results, Tryd.results6, go_sem]) rfl ⟨rfl, hba _ _⟩
      · have f3 : (e.k == 3) = false := by simp [k3]
        by_cases k4 : e.k = 4
        · have t4 : (e.k == 4) = true := by simp [k4]
          have hb : bare e = ⟨e.k, e.t, e.a, e.v, e.s⟩ := by simp [bare, k4, nArg, nVal, nSeen, onObj]
          have HB := hidIt hb
          clear hb k4 k1 k2 k3
          go_enter Tryd.func6, Tryd.ntmps6
          go_wp2
          rw [HB.out]
          exact bodyPost_ret (v := evV ⟨e.k, e.t, e.a, e.v, e.s⟩) (by simp [results, Tryd.results6, go_sem]) rfl ⟨rfl, hba _ _⟩
        · have f4 : (e.k == 4) = false := by simp [k4]
          have hb : bare e = ⟨e.k, e.t, 0, 0, 0⟩ := by simp [bare, k1, k2, k3, k4, nArg, nVal, nSeen, onObj]
          have HB := hidIt hb
          clear hb k1 k2 k3 k4
          go_enter Tryd.func6, Tryd.ntmps6
          go_wp2
          rw [HB.out]
          exact bodyPost_ret (v := evV ⟨e.k, e.t, 0, 0, 0⟩) (by simp [results, Tryd.results6, go_sem]) rfl ⟨rfl, hba _ _⟩

/-! ### Only -/
theorem parse_known : parseL [65, 32, 49, 32, 50, 32, 45, 51, 32, 52, 10] = ([⟨4, 1, 2, -3, 4⟩], 0, 0) := by rfl

theorem own_one {w : World} {B : Nat} {v : Value} {e : Ev} (h : Own w B v [e]) : ∃ g cap, v = .slice (some ⟨g, 0, none⟩) 1 cap ∧ g < w.heap.size ∧ EvAt w g 0 e := by
  rcases h.slEv with ⟨h0, _⟩ | ⟨b, off, cap, h1, h2, h3⟩
  · cases h0
  · rcases h.2 with ⟨_, h0⟩ | ⟨g, cap', cur, h4, _⟩
    · cases h0
    · rw [h1] at h4
      simp only [Value.slice.injEq, Option.some.injEq, Addr.mk.injEq] at h4
      obtain ⟨⟨rfl, rfl, _⟩, _, _⟩ := h4
      have := h3 0 (by simp)
      exact ⟨b, cap, h1, h2, by simpa using this⟩

set_option maxHeartbeats 1000000 in
theorem only_walk (s : ByteArray) (w : World) (hs : s.size ≤ 9223372036854775000) (ht : Tab w) :
    Calls Tryd.prog 4 #[.string s] w fun r w' => r = .returned (.bool true) ∧ Below w.heap.size w w' := by
  go_enter Tryd.func4, Tryd.ntmps4
  go_wp2_with fail
  refine (parse_all _ _ (by decide)).mono ?_
  rintro r w1 ⟨v, rfl, h1, h2⟩
  simp only [parse_known] at h1 ⊢
  obtain ⟨g, cap, rfl, hg, ⟨x0, x1, x2, x3, x4⟩⟩ := own_one h1
  simp at x0 x1 x2 x3 x4
  go_wp2_with fail
  refine (parse_all s _ hs).mono ?_
  rintro r w2 ⟨u, rfl, h3, h4⟩
  have hP := parseL_sound s.data.toList
  obtain ⟨P, hPP⟩ : ∃ P, parseL s.data.toList = P := ⟨_, rfl⟩
  rw [hPP] at hP h3 ⊢
  obtain ⟨es, f, q⟩ := P
  simp only at hP h3 ⊢
  obtain ⟨a, cp, rfl⟩ := h3.form
  have hb2 : Below w.heap.size w w2 := h2.trans (h4.mono h2.size)
  have HH1 := hidIt h1
  clear h1 x0 x1 x2 x3 x4 hPP
  by_cases hf : f = 0
  · obtain ⟨rfl, p1, p2, p3⟩ := hP.1 hf
    have hf1 : (f != 0) = false := by simp [hf]
    have hak : allKinds es = true := by
      unfold allKinds
      rw [List.all_eq_true]
      exact fun e he => (p2 e he).2.1
    have hpt : printT es = s.data.toList := by
      unfold printT
      rw [if_neg (by omega), if_pos hak, p1]
    have hpe : printE es = 0 := by
      unfold printE
      rw [if_neg (by omega), if_pos hak]
    have HPT := hidIt hpt
    have HPE := hidIt hpe
    have HOK : Hid (∀ e ∈ es, e.Ok) := fun e he => (p2 e he).1
    have HLE := hidIt p3
    clear hf hP hak hpt hpe p1 p2
    go_wp2_with fail
    refine (print_all _ es _ h3.slEv HOK.out (by omega) (ht.below ht.2 hb2)).mono ?_
    rintro r w3 ⟨rfl, h5⟩
    rw [HPT.out, HPE.out]
    have e1 : (⟨s.data.toList.toArray⟩ : ByteArray) = s := by simp
    rw [e1]
    go_wp2_with fail
    go_ret
    exact ⟨ret_bool (by simp), hb2.trans (h5.mono hb2.size)⟩
  · obtain ⟨rfl, q0, q1⟩ := hP.2 hf
    have hf1 : (f != 0) = true := by simp [hf]
    clear hP hf
    go_wp2_with fail
    go_ret
    exact ⟨ret_bool (by simp), hb2⟩

end Go.Proofs.YtfdalbmopaemgaaDoor
