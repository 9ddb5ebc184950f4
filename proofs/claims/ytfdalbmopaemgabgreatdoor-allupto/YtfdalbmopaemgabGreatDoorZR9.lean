import Derived.Test.YtfdalbmopaemgabGreatDoorR8
namespace Go.Proofs.YtfdalbmopaemgabGreatDoor
open Go.RowKit

theorem refEmpty_s (e : Ev) (W : World) (hk : isKind e.k = true) :
    Calls Tryz.prog 78 #[evV e] W fun r w' => r = .returned (.bool (emptyL e)) ∧ Below W.heap.size W w' ∧ (∀ b o, b < W.heap.size → w'.cell? ⟨b, o, none⟩ = W.cell? ⟨b, o, none⟩) := by
  refine (refEmpty e W hk).mono ?_
  rintro r w' ⟨rfl, h⟩
  exact ⟨rfl, h, bcells h⟩

set_option maxRecDepth 100000 in
set_option maxHeartbeats 4000000 in
theorem refWrong (vv : Value) (es : List Ev) (e : Ev) (w : World) (hs : SlEv w vv es) (he : e.Ok) (hm : es.length ≤ 1048576) :
    Calls Tryz.prog 50 #[vv, evV e] w fun r w' => r = .returned (.int .i64 (wrongL es e)) ∧ Below w.heap.size w w' := by
  obtain ⟨ad, c, rfl⟩ := slice_form hs
  obtain ⟨k0, k1, t0, t1, a0, a1, v0, v1, s0, s1⟩ := he
  obtain ⟨k, t, a, v, s⟩ := e
  simp only at k0 k1 t0 t1 a0 a1 v0 v1 s0 s1
  have hbx : Below w.heap.size w (w.alloc (.cells #[.int .u8 k, .int .u8 t, .int .u8 a, .int .i32 v, .int .i32 s] 45)) := (Below.refl _ _).alloc (Nat.le_refl _) _
  have HS1 := hidIt (hs.below hbx)
  clear hs
  by_cases hl : 60 ≤ es.length
  · have hl' : (60 : Int) ≤ (es.length : Int) := by omega
    have HW : Hid (wrongL es ⟨k, t, a, v, s⟩ = 1) := by show _ = _; unfold wrongL; rw [if_pos hl]
    go_enter Tryz.func50, Tryz.ntmps50
    go_wp2_with fail
    go_ret
    exact ⟨ret_int HW.out.symm, hbx⟩
  · have hl' : ¬ (60 : Int) ≤ (es.length : Int) := by omega
    have hlz : es.length < 60 := by omega
    cases hkd : isKind k with
    | false =>
      have HW : Hid (wrongL es ⟨k, t, a, v, s⟩ = 3) := by show _ = _; unfold wrongL; rw [if_neg hl, if_pos hkd]
      have hkk : k < 1 ∨ 6 < k := by
        unfold isKind at hkd
        simp at hkd
        omega
      clear hkd
      rcases hkk with hkk | hkk
      · go_enter Tryz.func50, Tryz.ntmps50
        go_wp2_with fail
        go_ret
        exact ⟨ret_int HW.out.symm, hbx⟩
      · have hkk2 : ¬ k < 1 := by omega
        go_enter Tryz.func50, Tryz.ntmps50
        go_wp2_with fail
        go_ret
        exact ⟨ret_int HW.out.symm, hbx⟩
    | true =>
      have HK := hidIt hkd
      obtain ⟨n, hn⟩ : ∃ n, countL es = n := ⟨_, rfl⟩
      have hn60 : n < 60 := by have := countL_le es; omega
      obtain ⟨o, ho⟩ : ∃ o, openL es t = o := ⟨_, rfl⟩
      obtain ⟨oa, hoa⟩ : ∃ oa, openL es a = oa := ⟨_, rfl⟩
      obtain ⟨em, hem⟩ : ∃ em, emptyL ⟨k, t, a, v, s⟩ = em := ⟨_, rfl⟩
      obtain ⟨ch, hch⟩ : ∃ ch, childL es t = ch := ⟨_, rfl⟩
      have HN := hidIt hn
      have HO := hidIt ho
      have HOA := hidIt hoa
      have HEM := hidIt hem
      have HCH := hidIt hch
      have HCC := hidIt (refCount _ es _ HS1.out hm)
      have HCO := hidIt (refOpen _ es t _ HS1.out hm)
      have HCA := hidIt (refOpen _ es a _ HS1.out hm)
      clear hn ho hoa hem hch
      have hc := kinds6 hkd
      clear hkd
      rcases hc with rfl | rfl | rfl | rfl | rfl | rfl
      · by_cases hn15 : 15 ≤ n
        · have hn15' : (15 : Int) ≤ (n : Int) := by omega
          have HW : Hid (wrongL es ⟨1, t, a, v, s⟩ = 4) := by
            have e1 := HN.out; have e2 := HO.out; have e3 := HOA.out; have e4 := HEM.out; have e5 := HCH.out
            try have q1 := HTE.out
            try have q2 := HAE.out
            show _ = _
            unfold wrongL
            simp only [e1, e2, e3, e4, e5]
            first | (simp [isKind, *]; done) | (simp [isKind, *]; omega)
          go_enter Tryz.func50, Tryz.ntmps50
          go_wp2_with fail
          refine HCC.out.mono ?_
          rintro r w1 ⟨rfl, rfl⟩
          rw [HN.out]
          go_wp2_with fail
          refine HCA.out.mono ?_
          rintro r w1 ⟨rfl, rfl⟩
          rw [HOA.out]
          go_wp2_with fail
          go_ret
          exact ⟨ret_int HW.out.symm, hbx⟩
        · have hn15' : ¬ (15 : Int) ≤ (n : Int) := by omega
          cases ht : (t == (n : Int) + 1) with
          | false =>
            have ht' : t ≠ (n : Int) + 1 := by simpa using ht
            have htn : (t != (n : Int) + 1) = true := by simp [bne, ht]
            have HW : Hid (wrongL es ⟨1, t, a, v, s⟩ = 4) := by
              have e1 := HN.out; have e2 := HO.out; have e3 := HOA.out; have e4 := HEM.out; have e5 := HCH.out
              try have q1 := HTE.out
              try have q2 := HAE.out
              show _ = _
              unfold wrongL
              simp only [e1, e2, e3, e4, e5]
              first | (simp [isKind, *]; done) | (simp [isKind, *]; omega)
            go_enter Tryz.func50, Tryz.ntmps50
            go_wp2_with fail
            refine HCC.out.mono ?_
            rintro r w1 ⟨rfl, rfl⟩
            rw [HN.out]
            go_wp2_with fail
            refine HCA.out.mono ?_
            rintro r w1 ⟨rfl, rfl⟩
            rw [HOA.out]
            go_wp2_with fail
            go_ret
            exact ⟨ret_int HW.out.symm, hbx⟩
          | true =>
            have HTE : Hid (t = (n : Int) + 1) := by show _ = _; simpa using ht
            have htn : (t != (n : Int) + 1) = false := by simp [bne, ht]
            clear ht
            cases ha : (a == 0) with
            | true =>
              have HAE : Hid (a = 0) := by show _ = _; simpa using ha
              have han : (a != 0) = false := by simp [bne, ha]
              clear ha
              cases em with
              | false =>
                have HW : Hid (wrongL es ⟨1, t, a, v, s⟩ = 7) := by
                  have e1 := HN.out; have e2 := HO.out; have e3 := HOA.out; have e4 := HEM.out; have e5 := HCH.out
                  try have q1 := HTE.out
                  try have q2 := HAE.out
                  show _ = _
                  unfold wrongL
                  simp only [e1, e2, e3, e4, e5]
                  first | (simp [isKind, *]; done) | (simp [isKind, *]; omega)
                go_enter Tryz.func50, Tryz.ntmps50
                go_wp2_with fail
                refine HCC.out.mono ?_
                rintro r w1 ⟨rfl, rfl⟩
                rw [HN.out]
                go_wp2_with fail
                refine HCA.out.mono ?_
                rintro r w1 ⟨rfl, rfl⟩
                rw [HOA.out]
                go_wp2_with fail
                refine (refEmpty_s ⟨1, t, a, v, s⟩ _ HK.out).mono ?_
                rintro r w2 ⟨rfl, hb2, hc2⟩
                rw [HEM.out]
                have y0 : w2.cell? ⟨w.heap.size, 0, none⟩ = some (.int .u8 1) := by rw [hc2 _ _ (by simp)]; simp [go_sem]
                have y1 : w2.cell? ⟨w.heap.size, 1, none⟩ = some (.int .u8 t) := by rw [hc2 _ _ (by simp)]; simp [go_sem]
                have hbz := hbx.trans (hb2.mono (by simp))
                have HCK := hidIt (refChild _ es t _ (HS1.out.below hb2) hm)
                clear hc2
                go_wp2_with fail
                go_ret
                exact ⟨ret_int HW.out.symm, hbz⟩
              | true =>
                have HW : Hid (wrongL es ⟨1, t, a, v, s⟩ = 0) := by
                  have e1 := HN.out; have e2 := HO.out; have e3 := HOA.out; have e4 := HEM.out; have e5 := HCH.out
                  try have q1 := HTE.out
                  try have q2 := HAE.out
                  show _ = _
                  unfold wrongL
                  simp only [e1, e2, e3, e4, e5]
                  first | (simp [isKind, *]; done) | (simp [isKind, *]; omega)
                go_enter Tryz.func50, Tryz.ntmps50
                go_wp2_with fail
                refine HCC.out.mono ?_
                rintro r w1 ⟨rfl, rfl⟩
                rw [HN.out]
                go_wp2_with fail
                refine HCA.out.mono ?_
                rintro r w1 ⟨rfl, rfl⟩
                rw [HOA.out]
                go_wp2_with fail
                refine (refEmpty_s ⟨1, t, a, v, s⟩ _ HK.out).mono ?_
                rintro r w2 ⟨rfl, hb2, hc2⟩
                rw [HEM.out]
                have y0 : w2.cell? ⟨w.heap.size, 0, none⟩ = some (.int .u8 1) := by rw [hc2 _ _ (by simp)]; simp [go_sem]
                have y1 : w2.cell? ⟨w.heap.size, 1, none⟩ = some (.int .u8 t) := by rw [hc2 _ _ (by simp)]; simp [go_sem]
                have hbz := hbx.trans (hb2.mono (by simp))
                have HCK := hidIt (refChild _ es t _ (HS1.out.below hb2) hm)
                clear hc2
                go_wp2_with fail
                refine HCK.out.mono ?_
                rintro r w3 ⟨rfl, rfl⟩
                rw [HCH.out]
                go_wp2_with fail
                go_ret
                exact ⟨ret_int HW.out.symm, hbz⟩
            | false =>
              have ha' : a ≠ 0 := by simpa using ha
              have han : (a != 0) = true := by simp [bne, ha]
              cases oa with
              | false =>
                have HW : Hid (wrongL es ⟨1, t, a, v, s⟩ = 5) := by
                  have e1 := HN.out; have e2 := HO.out; have e3 := HOA.out; have e4 := HEM.out; have e5 := HCH.out
                  try have q1 := HTE.out
                  try have q2 := HAE.out
                  show _ = _
                  unfold wrongL
                  simp only [e1, e2, e3, e4, e5]
                  first | (simp [isKind, *]; done) | (simp [isKind, *]; omega)
                go_enter Tryz.func50, Tryz.ntmps50
                go_wp2_with fail
                refine HCC.out.mono ?_
                rintro r w1 ⟨rfl, rfl⟩
                rw [HN.out]
                go_wp2_with fail
                refine HCA.out.mono ?_
                rintro r w1 ⟨rfl, rfl⟩
                rw [HOA.out]
                go_wp2_with fail
                go_ret
                exact ⟨ret_int HW.out.symm, hbx⟩
              | true =>
                cases em with
                | false =>
                  have HW : Hid (wrongL es ⟨1, t, a, v, s⟩ = 7) := by
                    have e1 := HN.out; have e2 := HO.out; have e3 := HOA.out; have e4 := HEM.out; have e5 := HCH.out
                    try have q1 := HTE.out
                    try have q2 := HAE.out
                    show _ = _
                    unfold wrongL
                    simp only [e1, e2, e3, e4, e5]
                    first | (simp [isKind, *]; done) | (simp [isKind, *]; omega)
                  go_enter Tryz.func50, Tryz.ntmps50
                  go_wp2_with fail
                  refine HCC.out.mono ?_
                  rintro r w1 ⟨rfl, rfl⟩
                  rw [HN.out]
                  go_wp2_with fail
                  refine HCA.out.mono ?_
                  rintro r w1 ⟨rfl, rfl⟩
                  rw [HOA.out]
                  go_wp2_with fail
                  refine (refEmpty_s ⟨1, t, a, v, s⟩ _ HK.out).mono ?_
                  rintro r w2 ⟨rfl, hb2, hc2⟩
                  rw [HEM.out]
                  have y0 : w2.cell? ⟨w.heap.size, 0, none⟩ = some (.int .u8 1) := by rw [hc2 _ _ (by simp)]; simp [go_sem]
                  have y1 : w2.cell? ⟨w.heap.size, 1, none⟩ = some (.int .u8 t) := by rw [hc2 _ _ (by simp)]; simp [go_sem]
                  have hbz := hbx.trans (hb2.mono (by simp))
                  have HCK := hidIt (refChild _ es t _ (HS1.out.below hb2) hm)
                  clear hc2
                  go_wp2_with fail
                  go_ret
                  exact ⟨ret_int HW.out.symm, hbz⟩
                | true =>
                  have HW : Hid (wrongL es ⟨1, t, a, v, s⟩ = 0) := by
                    have e1 := HN.out; have e2 := HO.out; have e3 := HOA.out; have e4 := HEM.out; have e5 := HCH.out
                    try have q1 := HTE.out
                    try have q2 := HAE.out
                    show _ = _
                    unfold wrongL
                    simp only [e1, e2, e3, e4, e5]
                    first | (simp [isKind, *]; done) | (simp [isKind, *]; omega)
                  go_enter Tryz.func50, Tryz.ntmps50
                  go_wp2_with fail
                  refine HCC.out.mono ?_
                  rintro r w1 ⟨rfl, rfl⟩
                  rw [HN.out]
                  go_wp2_with fail
                  refine HCA.out.mono ?_
                  rintro r w1 ⟨rfl, rfl⟩
                  rw [HOA.out]
                  go_wp2_with fail
                  refine (refEmpty_s ⟨1, t, a, v, s⟩ _ HK.out).mono ?_
                  rintro r w2 ⟨rfl, hb2, hc2⟩
                  rw [HEM.out]
                  have y0 : w2.cell? ⟨w.heap.size, 0, none⟩ = some (.int .u8 1) := by rw [hc2 _ _ (by simp)]; simp [go_sem]
                  have y1 : w2.cell? ⟨w.heap.size, 1, none⟩ = some (.int .u8 t) := by rw [hc2 _ _ (by simp)]; simp [go_sem]
                  have hbz := hbx.trans (hb2.mono (by simp))
                  have HCK := hidIt (refChild _ es t _ (HS1.out.below hb2) hm)
                  clear hc2
                  go_wp2_with fail
                  refine HCK.out.mono ?_
                  rintro r w3 ⟨rfl, rfl⟩
                  rw [HCH.out]
                  go_wp2_with fail
                  go_ret
                  exact ⟨ret_int HW.out.symm, hbz⟩
      · cases o with
        | false =>
          have HW : Hid (wrongL es ⟨2, t, a, v, s⟩ = 4) := by
            have e1 := HN.out; have e2 := HO.out; have e3 := HOA.out; have e4 := HEM.out; have e5 := HCH.out
            show _ = _
            unfold wrongL
            simp only [e1, e2, e3, e4, e5]
            first | (simp [isKind, *]; done) | (simp [isKind, *]; omega)
          go_enter Tryz.func50, Tryz.ntmps50
          go_wp2_with fail
          refine HCC.out.mono ?_
          rintro r w1 ⟨rfl, rfl⟩
          rw [HN.out]
          go_wp2_with fail
          refine HCO.out.mono ?_
          rintro r w1 ⟨rfl, rfl⟩
          rw [HO.out]
          go_wp2_with fail
          go_ret
          exact ⟨ret_int HW.out.symm, hbx⟩
        | true =>
          by_cases ha : 4 ≤ a
          · have ha' : ¬ a < 4 := by omega
            have HW : Hid (wrongL es ⟨2, t, a, v, s⟩ = 6) := by
              have e1 := HN.out; have e2 := HO.out; have e3 := HOA.out; have e4 := HEM.out; have e5 := HCH.out
              show _ = _
              unfold wrongL
              simp only [e1, e2, e3, e4, e5]
              first | (simp [isKind, *]; done) | (simp [isKind, *]; omega)
            go_enter Tryz.func50, Tryz.ntmps50
            go_wp2_with fail
            refine HCC.out.mono ?_
            rintro r w1 ⟨rfl, rfl⟩
            rw [HN.out]
            go_wp2_with fail
            refine HCO.out.mono ?_
            rintro r w1 ⟨rfl, rfl⟩
            rw [HO.out]
            go_wp2_with fail
            go_ret
            exact ⟨ret_int HW.out.symm, hbx⟩
          · have ha' : a < 4 := by omega
            cases em with
            | false =>
              have HW : Hid (wrongL es ⟨2, t, a, v, s⟩ = 7) := by
                have e1 := HN.out; have e2 := HO.out; have e3 := HOA.out; have e4 := HEM.out; have e5 := HCH.out
                show _ = _
                unfold wrongL
                simp only [e1, e2, e3, e4, e5]
                first | (simp [isKind, *]; done) | (simp [isKind, *]; omega)
              go_enter Tryz.func50, Tryz.ntmps50
              go_wp2_with fail
              refine HCC.out.mono ?_
              rintro r w1 ⟨rfl, rfl⟩
              rw [HN.out]
              go_wp2_with fail
              refine HCO.out.mono ?_
              rintro r w1 ⟨rfl, rfl⟩
              rw [HO.out]
              go_wp2_with fail
              refine (refEmpty_s ⟨2, t, a, v, s⟩ _ HK.out).mono ?_
              rintro r w2 ⟨rfl, hb2, hc2⟩
              rw [HEM.out]
              have y0 : w2.cell? ⟨w.heap.size, 0, none⟩ = some (.int .u8 2) := by rw [hc2 _ _ (by simp)]; simp [go_sem]
              have y1 : w2.cell? ⟨w.heap.size, 1, none⟩ = some (.int .u8 t) := by rw [hc2 _ _ (by simp)]; simp [go_sem]
              have hbz := hbx.trans (hb2.mono (by simp))
              have HCK := hidIt (refChild _ es t _ (HS1.out.below hb2) hm)
              clear hc2
              go_wp2_with fail
              go_ret
              exact ⟨ret_int HW.out.symm, hbz⟩
            | true =>
              have HW : Hid (wrongL es ⟨2, t, a, v, s⟩ = 0) := by
                have e1 := HN.out; have e2 := HO.out; have e3 := HOA.out; have e4 := HEM.out; have e5 := HCH.out
                show _ = _
                unfold wrongL
                simp only [e1, e2, e3, e4, e5]
                first | (simp [isKind, *]; done) | (simp [isKind, *]; omega)
              go_enter Tryz.func50, Tryz.ntmps50
              go_wp2_with fail
              refine HCC.out.mono ?_
              rintro r w1 ⟨rfl, rfl⟩
              rw [HN.out]
              go_wp2_with fail
              refine HCO.out.mono ?_
              rintro r w1 ⟨rfl, rfl⟩
              rw [HO.out]
              go_wp2_with fail
              refine (refEmpty_s ⟨2, t, a, v, s⟩ _ HK.out).mono ?_
              rintro r w2 ⟨rfl, hb2, hc2⟩
              rw [HEM.out]
              have y0 : w2.cell? ⟨w.heap.size, 0, none⟩ = some (.int .u8 2) := by rw [hc2 _ _ (by simp)]; simp [go_sem]
              have y1 : w2.cell? ⟨w.heap.size, 1, none⟩ = some (.int .u8 t) := by rw [hc2 _ _ (by simp)]; simp [go_sem]
              have hbz := hbx.trans (hb2.mono (by simp))
              have HCK := hidIt (refChild _ es t _ (HS1.out.below hb2) hm)
              clear hc2
              go_wp2_with fail
              refine HCK.out.mono ?_
              rintro r w3 ⟨rfl, rfl⟩
              rw [HCH.out]
              go_wp2_with fail
              go_ret
              exact ⟨ret_int HW.out.symm, hbz⟩
      · cases o with
        | false =>
          have HW : Hid (wrongL es ⟨3, t, a, v, s⟩ = 4) := by
            have e1 := HN.out; have e2 := HO.out; have e3 := HOA.out; have e4 := HEM.out; have e5 := HCH.out
            show _ = _
            unfold wrongL
            simp only [e1, e2, e3, e4, e5]
            first | (simp [isKind, *]; done) | (simp [isKind, *]; omega)
          go_enter Tryz.func50, Tryz.ntmps50
          go_wp2_with fail
          refine HCC.out.mono ?_
          rintro r w1 ⟨rfl, rfl⟩
          rw [HN.out]
          go_wp2_with fail
          refine HCO.out.mono ?_
          rintro r w1 ⟨rfl, rfl⟩
          rw [HO.out]
          go_wp2_with fail
          go_ret
          exact ⟨ret_int HW.out.symm, hbx⟩
        | true =>
          by_cases ha : 4 ≤ a
          · have ha' : ¬ a < 4 := by omega
            have HW : Hid (wrongL es ⟨3, t, a, v, s⟩ = 6) := by
              have e1 := HN.out; have e2 := HO.out; have e3 := HOA.out; have e4 := HEM.out; have e5 := HCH.out
              show _ = _
              unfold wrongL
              simp only [e1, e2, e3, e4, e5]
              first | (simp [isKind, *]; done) | (simp [isKind, *]; omega)
            go_enter Tryz.func50, Tryz.ntmps50
            go_wp2_with fail
            refine HCC.out.mono ?_
            rintro r w1 ⟨rfl, rfl⟩
            rw [HN.out]
            go_wp2_with fail
            refine HCO.out.mono ?_
            rintro r w1 ⟨rfl, rfl⟩
            rw [HO.out]
            go_wp2_with fail
            go_ret
            exact ⟨ret_int HW.out.symm, hbx⟩
          · have ha' : a < 4 := by omega
            cases em with
            | false =>
              have HW : Hid (wrongL es ⟨3, t, a, v, s⟩ = 7) := by
                have e1 := HN.out; have e2 := HO.out; have e3 := HOA.out; have e4 := HEM.out; have e5 := HCH.out
                show _ = _
                unfold wrongL
                simp only [e1, e2, e3, e4, e5]
                first | (simp [isKind, *]; done) | (simp [isKind, *]; omega)
              go_enter Tryz.func50, Tryz.ntmps50
              go_wp2_with fail
              refine HCC.out.mono ?_
              rintro r w1 ⟨rfl, rfl⟩
              rw [HN.out]
              go_wp2_with fail
              refine HCO.out.mono ?_
              rintro r w1 ⟨rfl, rfl⟩
              rw [HO.out]
              go_wp2_with fail
              refine (refEmpty_s ⟨3, t, a, v, s⟩ _ HK.out).mono ?_
              rintro r w2 ⟨rfl, hb2, hc2⟩
              rw [HEM.out]
              have y0 : w2.cell? ⟨w.heap.size, 0, none⟩ = some (.int .u8 3) := by rw [hc2 _ _ (by simp)]; simp [go_sem]
              have y1 : w2.cell? ⟨w.heap.size, 1, none⟩ = some (.int .u8 t) := by rw [hc2 _ _ (by simp)]; simp [go_sem]
              have hbz := hbx.trans (hb2.mono (by simp))
              have HCK := hidIt (refChild _ es t _ (HS1.out.below hb2) hm)
              clear hc2
              go_wp2_with fail
              go_ret
              exact ⟨ret_int HW.out.symm, hbz⟩
            | true =>
              have HW : Hid (wrongL es ⟨3, t, a, v, s⟩ = 0) := by
                have e1 := HN.out; have e2 := HO.out; have e3 := HOA.out; have e4 := HEM.out; have e5 := HCH.out
                show _ = _
                unfold wrongL
                simp only [e1, e2, e3, e4, e5]
                first | (simp [isKind, *]; done) | (simp [isKind, *]; omega)
              go_enter Tryz.func50, Tryz.ntmps50
              go_wp2_with fail
              refine HCC.out.mono ?_
              rintro r w1 ⟨rfl, rfl⟩
              rw [HN.out]
              go_wp2_with fail
              refine HCO.out.mono ?_
              rintro r w1 ⟨rfl, rfl⟩
              rw [HO.out]
              go_wp2_with fail
              refine (refEmpty_s ⟨3, t, a, v, s⟩ _ HK.out).mono ?_
              rintro r w2 ⟨rfl, hb2, hc2⟩
              rw [HEM.out]
              have y0 : w2.cell? ⟨w.heap.size, 0, none⟩ = some (.int .u8 3) := by rw [hc2 _ _ (by simp)]; simp [go_sem]
              have y1 : w2.cell? ⟨w.heap.size, 1, none⟩ = some (.int .u8 t) := by rw [hc2 _ _ (by simp)]; simp [go_sem]
              have hbz := hbx.trans (hb2.mono (by simp))
              have HCK := hidIt (refChild _ es t _ (HS1.out.below hb2) hm)
              clear hc2
              go_wp2_with fail
              refine HCK.out.mono ?_
              rintro r w3 ⟨rfl, rfl⟩
              rw [HCH.out]
              go_wp2_with fail
              go_ret
              exact ⟨ret_int HW.out.symm, hbz⟩
      · cases o with
        | false =>
          have HW : Hid (wrongL es ⟨4, t, a, v, s⟩ = 4) := by
            have e1 := HN.out; have e2 := HO.out; have e3 := HOA.out; have e4 := HEM.out; have e5 := HCH.out
            show _ = _
            unfold wrongL
            simp only [e1, e2, e3, e4, e5]
            first | (simp [isKind, *]; done) | (simp [isKind, *]; omega)
          go_enter Tryz.func50, Tryz.ntmps50
          go_wp2_with fail
          refine HCC.out.mono ?_
          rintro r w1 ⟨rfl, rfl⟩
          rw [HN.out]
          go_wp2_with fail
          refine HCO.out.mono ?_
          rintro r w1 ⟨rfl, rfl⟩
          rw [HO.out]
          go_wp2_with fail
          go_ret
          exact ⟨ret_int HW.out.symm, hbx⟩
        | true =>
          by_cases ha : 4 ≤ a
          · have ha' : ¬ a < 4 := by omega
            have HW : Hid (wrongL es ⟨4, t, a, v, s⟩ = 6) := by
              have e1 := HN.out; have e2 := HO.out; have e3 := HOA.out; have e4 := HEM.out; have e5 := HCH.out
              show _ = _
              unfold wrongL
              simp only [e1, e2, e3, e4, e5]
              first | (simp [isKind, *]; done) | (simp [isKind, *]; omega)
            go_enter Tryz.func50, Tryz.ntmps50
            go_wp2_with fail
            refine HCC.out.mono ?_
            rintro r w1 ⟨rfl, rfl⟩
            rw [HN.out]
            go_wp2_with fail
            refine HCO.out.mono ?_
            rintro r w1 ⟨rfl, rfl⟩
            rw [HO.out]
            go_wp2_with fail
            go_ret
            exact ⟨ret_int HW.out.symm, hbx⟩
          · have ha' : a < 4 := by omega
            cases em with
            | false =>
              exact absurd HEM.out (by simp [emptyL])
            | true =>
              have HW : Hid (wrongL es ⟨4, t, a, v, s⟩ = 0) := by
                have e1 := HN.out; have e2 := HO.out; have e3 := HOA.out; have e4 := HEM.out; have e5 := HCH.out
                show _ = _
                unfold wrongL
                simp only [e1, e2, e3, e4, e5]
                first | (simp [isKind, *]; done) | (simp [isKind, *]; omega)
              go_enter Tryz.func50, Tryz.ntmps50
              go_wp2_with fail
              refine HCC.out.mono ?_
              rintro r w1 ⟨rfl, rfl⟩
              rw [HN.out]
              go_wp2_with fail
              refine HCO.out.mono ?_
              rintro r w1 ⟨rfl, rfl⟩
              rw [HO.out]
              go_wp2_with fail
              refine (refEmpty_s ⟨4, t, a, v, s⟩ _ HK.out).mono ?_
              rintro r w2 ⟨rfl, hb2, hc2⟩
              rw [HEM.out]
              have y0 : w2.cell? ⟨w.heap.size, 0, none⟩ = some (.int .u8 4) := by rw [hc2 _ _ (by simp)]; simp [go_sem]
              have y1 : w2.cell? ⟨w.heap.size, 1, none⟩ = some (.int .u8 t) := by rw [hc2 _ _ (by simp)]; simp [go_sem]
              have hbz := hbx.trans (hb2.mono (by simp))
              have HCK := hidIt (refChild _ es t _ (HS1.out.below hb2) hm)
              clear hc2
              go_wp2_with fail
              refine HCK.out.mono ?_
              rintro r w3 ⟨rfl, rfl⟩
              rw [HCH.out]
              go_wp2_with fail
              go_ret
              exact ⟨ret_int HW.out.symm, hbz⟩
      · cases o with
        | false =>
          have HW : Hid (wrongL es ⟨5, t, a, v, s⟩ = 4) := by
            have e1 := HN.out; have e2 := HO.out; have e3 := HOA.out; have e4 := HEM.out; have e5 := HCH.out
            show _ = _
            unfold wrongL
            simp only [e1, e2, e3, e4, e5]
            first | (simp [isKind, *]; done) | (simp [isKind, *]; omega)
          go_enter Tryz.func50, Tryz.ntmps50
          go_wp2_with fail
          refine HCC.out.mono ?_
          rintro r w1 ⟨rfl, rfl⟩
          rw [HN.out]
          go_wp2_with fail
          refine HCO.out.mono ?_
          rintro r w1 ⟨rfl, rfl⟩
          rw [HO.out]
          go_wp2_with fail
          go_ret
          exact ⟨ret_int HW.out.symm, hbx⟩
        | true =>
          cases em with
          | false =>
            have HW : Hid (wrongL es ⟨5, t, a, v, s⟩ = 7) := by
              have e1 := HN.out; have e2 := HO.out; have e3 := HOA.out; have e4 := HEM.out; have e5 := HCH.out
              show _ = _
              unfold wrongL
              simp only [e1, e2, e3, e4, e5]
              first | (simp [isKind, *]; done) | (simp [isKind, *]; omega)
            go_enter Tryz.func50, Tryz.ntmps50
            go_wp2_with fail
            refine HCC.out.mono ?_
            rintro r w1 ⟨rfl, rfl⟩
            rw [HN.out]
            go_wp2_with fail
            refine HCO.out.mono ?_
            rintro r w1 ⟨rfl, rfl⟩
            rw [HO.out]
            go_wp2_with fail
            refine (refEmpty_s ⟨5, t, a, v, s⟩ _ HK.out).mono ?_
            rintro r w2 ⟨rfl, hb2, hc2⟩
            rw [HEM.out]
            have y0 : w2.cell? ⟨w.heap.size, 0, none⟩ = some (.int .u8 5) := by rw [hc2 _ _ (by simp)]; simp [go_sem]
            have y1 : w2.cell? ⟨w.heap.size, 1, none⟩ = some (.int .u8 t) := by rw [hc2 _ _ (by simp)]; simp [go_sem]
            have hbz := hbx.trans (hb2.mono (by simp))
            have HCK := hidIt (refChild _ es t _ (HS1.out.below hb2) hm)
            clear hc2
            go_wp2_with fail
            go_ret
            exact ⟨ret_int HW.out.symm, hbz⟩
          | true =>
            cases ch with
            | true =>
              have HW : Hid (wrongL es ⟨5, t, a, v, s⟩ = 8) := by
                have e1 := HN.out; have e2 := HO.out; have e3 := HOA.out; have e4 := HEM.out; have e5 := HCH.out
                show _ = _
                unfold wrongL
                simp only [e1, e2, e3, e4, e5]
                first | (simp [isKind, *]; done) | (simp [isKind, *]; omega)
              go_enter Tryz.func50, Tryz.ntmps50
              go_wp2_with fail
              refine HCC.out.mono ?_
              rintro r w1 ⟨rfl, rfl⟩
              rw [HN.out]
              go_wp2_with fail
              refine HCO.out.mono ?_
              rintro r w1 ⟨rfl, rfl⟩
              rw [HO.out]
              go_wp2_with fail
              refine (refEmpty_s ⟨5, t, a, v, s⟩ _ HK.out).mono ?_
              rintro r w2 ⟨rfl, hb2, hc2⟩
              rw [HEM.out]
              have y0 : w2.cell? ⟨w.heap.size, 0, none⟩ = some (.int .u8 5) := by rw [hc2 _ _ (by simp)]; simp [go_sem]
              have y1 : w2.cell? ⟨w.heap.size, 1, none⟩ = some (.int .u8 t) := by rw [hc2 _ _ (by simp)]; simp [go_sem]
              have hbz := hbx.trans (hb2.mono (by simp))
              have HCK := hidIt (refChild _ es t _ (HS1.out.below hb2) hm)
              clear hc2
              go_wp2_with fail
              refine HCK.out.mono ?_
              rintro r w3 ⟨rfl, rfl⟩
              rw [HCH.out]
              go_wp2_with fail
              go_ret
              exact ⟨ret_int HW.out.symm, hbz⟩
            | false =>
              have HW : Hid (wrongL es ⟨5, t, a, v, s⟩ = 0) := by
                have e1 := HN.out; have e2 := HO.out; have e3 := HOA.out; have e4 := HEM.out; have e5 := HCH.out
                show _ = _
                unfold wrongL
                simp only [e1, e2, e3, e4, e5]
                first | (simp [isKind, *]; done) | (simp [isKind, *]; omega)
              go_enter Tryz.func50, Tryz.ntmps50
              go_wp2_with fail
              refine HCC.out.mono ?_
              rintro r w1 ⟨rfl, rfl⟩
              rw [HN.out]
              go_wp2_with fail
              refine HCO.out.mono ?_
              rintro r w1 ⟨rfl, rfl⟩
              rw [HO.out]
              go_wp2_with fail
              refine (refEmpty_s ⟨5, t, a, v, s⟩ _ HK.out).mono ?_
              rintro r w2 ⟨rfl, hb2, hc2⟩
              rw [HEM.out]
              have y0 : w2.cell? ⟨w.heap.size, 0, none⟩ = some (.int .u8 5) := by rw [hc2 _ _ (by simp)]; simp [go_sem]
              have y1 : w2.cell? ⟨w.heap.size, 1, none⟩ = some (.int .u8 t) := by rw [hc2 _ _ (by simp)]; simp [go_sem]
              have hbz := hbx.trans (hb2.mono (by simp))
              have HCK := hidIt (refChild _ es t _ (HS1.out.below hb2) hm)
              clear hc2
              go_wp2_with fail
              refine HCK.out.mono ?_
              rintro r w3 ⟨rfl, rfl⟩
              rw [HCH.out]
              go_wp2_with fail
              go_ret
              exact ⟨ret_int HW.out.symm, hbz⟩
      · cases o with
        | false =>
          have HW : Hid (wrongL es ⟨6, t, a, v, s⟩ = 4) := by
            have e1 := HN.out; have e2 := HO.out; have e3 := HOA.out; have e4 := HEM.out; have e5 := HCH.out
            show _ = _
            unfold wrongL
            simp only [e1, e2, e3, e4, e5]
            first | (simp [isKind, *]; done) | (simp [isKind, *]; omega)
          go_enter Tryz.func50, Tryz.ntmps50
          go_wp2_with fail
          refine HCC.out.mono ?_
          rintro r w1 ⟨rfl, rfl⟩
          rw [HN.out]
          go_wp2_with fail
          refine HCO.out.mono ?_
          rintro r w1 ⟨rfl, rfl⟩
          rw [HO.out]
          go_wp2_with fail
          go_ret
          exact ⟨ret_int HW.out.symm, hbx⟩
        | true =>
          cases em with
          | false =>
            have HW : Hid (wrongL es ⟨6, t, a, v, s⟩ = 7) := by
              have e1 := HN.out; have e2 := HO.out; have e3 := HOA.out; have e4 := HEM.out; have e5 := HCH.out
              show _ = _
              unfold wrongL
              simp only [e1, e2, e3, e4, e5]
              first | (simp [isKind, *]; done) | (simp [isKind, *]; omega)
            go_enter Tryz.func50, Tryz.ntmps50
            go_wp2_with fail
            refine HCC.out.mono ?_
            rintro r w1 ⟨rfl, rfl⟩
            rw [HN.out]
            go_wp2_with fail
            refine HCO.out.mono ?_
            rintro r w1 ⟨rfl, rfl⟩
            rw [HO.out]
            go_wp2_with fail
            refine (refEmpty_s ⟨6, t, a, v, s⟩ _ HK.out).mono ?_
            rintro r w2 ⟨rfl, hb2, hc2⟩
            rw [HEM.out]
            have y0 : w2.cell? ⟨w.heap.size, 0, none⟩ = some (.int .u8 6) := by rw [hc2 _ _ (by simp)]; simp [go_sem]
            have y1 : w2.cell? ⟨w.heap.size, 1, none⟩ = some (.int .u8 t) := by rw [hc2 _ _ (by simp)]; simp [go_sem]
            have hbz := hbx.trans (hb2.mono (by simp))
            have HCK := hidIt (refChild _ es t _ (HS1.out.below hb2) hm)
            clear hc2
            go_wp2_with fail
            go_ret
            exact ⟨ret_int HW.out.symm, hbz⟩
          | true =>
            have HW : Hid (wrongL es ⟨6, t, a, v, s⟩ = 0) := by
              have e1 := HN.out; have e2 := HO.out; have e3 := HOA.out; have e4 := HEM.out; have e5 := HCH.out
              show _ = _
              unfold wrongL
              simp only [e1, e2, e3, e4, e5]
              first | (simp [isKind, *]; done) | (simp [isKind, *]; omega)
            go_enter Tryz.func50, Tryz.ntmps50
            go_wp2_with fail
            refine HCC.out.mono ?_
            rintro r w1 ⟨rfl, rfl⟩
            rw [HN.out]
            go_wp2_with fail
            refine HCO.out.mono ?_
            rintro r w1 ⟨rfl, rfl⟩
            rw [HO.out]
            go_wp2_with fail
            refine (refEmpty_s ⟨6, t, a, v, s⟩ _ HK.out).mono ?_
            rintro r w2 ⟨rfl, hb2, hc2⟩
            rw [HEM.out]
            have y0 : w2.cell? ⟨w.heap.size, 0, none⟩ = some (.int .u8 6) := by rw [hc2 _ _ (by simp)]; simp [go_sem]
            have y1 : w2.cell? ⟨w.heap.size, 1, none⟩ = some (.int .u8 t) := by rw [hc2 _ _ (by simp)]; simp [go_sem]
            have hbz := hbx.trans (hb2.mono (by simp))
            have HCK := hidIt (refChild _ es t _ (HS1.out.below hb2) hm)
            clear hc2
            go_wp2_with fail
            refine HCK.out.mono ?_
            rintro r w3 ⟨rfl, rfl⟩
            rw [HCH.out]
            go_wp2_with fail
            go_ret
            exact ⟨ret_int HW.out.symm, hbz⟩

theorem checkG_stop (es : List Ev) (k : Nat) (hk : k < es.length) (h : wrongL (es.take k) es[k] ≠ 0) : checkG (es.take k) (es.drop k) = (wrongL (es.take k) es[k], (k : Int)) := by
  rw [List.drop_eq_getElem_cons hk, checkG, if_neg h, List.length_take, Nat.min_eq_left (by omega)]
theorem checkG_on (es : List Ev) (k : Nat) (hk : k < es.length) (h : wrongL (es.take k) es[k] = 0) : checkG (es.take k) (es.drop k) = checkG (es.take (k + 1)) (es.drop (k + 1)) := by
  rw [List.drop_eq_getElem_cons hk, checkG, if_pos h, List.take_succ_eq_append_getElem hk]

theorem SlEv.head {w : World} {a : Option Addr} {c c' : Nat} {es : List Ev} (h : SlEv w (.slice a es.length c) es) (k : Nat) (hk : k ≤ es.length) : SlEv w (.slice a k c') (es.take k) := by
  have hl : (es.take k).length = k := by rw [List.length_take]; omega
  rcases h with ⟨rfl, _⟩ | ⟨b, off, c1, h1, h2, h3⟩
  · obtain rfl : k = 0 := by simpa using hk
    exact Or.inl ⟨by simp, a, c', rfl⟩
  · simp only [Value.slice.injEq] at h1
    obtain ⟨rfl, _, _⟩ := h1
    refine Or.inr ⟨b, off, c', by rw [hl], h2, fun i hi => ?_⟩
    have := h3 i (by rw [hl] at hi; omega)
    rw [List.getElem_take]
    exact this

def CheckPost (w : World) (es : List Ev) (r : Ending) (w' : World) : Prop :=
  r = .returned (.tuple #[.int .i64 (checkG [] es).1, .int .i64 (checkG [] es).2]) ∧ Below w.heap.size w w'

end Go.Proofs.YtfdalbmopaemgabGreatDoor
