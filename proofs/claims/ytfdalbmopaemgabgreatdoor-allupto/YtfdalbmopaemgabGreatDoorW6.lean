import Derived.Test.YtfdalbmopaemgabGreatDoorW5
namespace Go.Proofs.YtfdalbmopaemgabGreatDoor
open Go.RowKit

/-! ### A line read -/
/-- The reader stands in its block, two behind where the line's reading began. -/
structure St (w0 W : World) (s : ByteArray) (p : Nat) (bad : Bool) : Prop where
  rd : Rd W (w0.heap.size + 1 + 1) s p bad
  le : p ≤ s.size
  below : Below w0.heap.size w0 W
  res : EvAt W w0.heap.size 0 ⟨0, 0, 0, 0, 0⟩

theorem EvAt.other {W : World} {b o : Nat} {e : Ev} (h : EvAt W b o e) (a : Addr) (v : Value) (ha : a.block ≠ b) : EvAt (W.setCell a v) b o e := by
  have hne : ∀ i, a ≠ ⟨b, i, none⟩ := fun i e => ha (by rw [e])
  exact ⟨by rw [World.cell?_setCell_other _ _ _ _ (hne _)]; exact h.c0, by rw [World.cell?_setCell_other _ _ _ _ (hne _)]; exact h.c1, by rw [World.cell?_setCell_other _ _ _ _ (hne _)]; exact h.c2,
    by rw [World.cell?_setCell_other _ _ _ _ (hne _)]; exact h.c3, by rw [World.cell?_setCell_other _ _ _ _ (hne _)]; exact h.c4⟩

theorem St.set {w0 W : World} {s : ByteArray} {p : Nat} {bad : Bool} (h : St w0 W s p bad) (j : Nat) (v : Value) : St w0 (W.setCell ⟨w0.heap.size + 1, j, none⟩ v) s p bad := by
  have hne : ∀ i, (⟨w0.heap.size + 1, j, none⟩ : Addr) ≠ ⟨w0.heap.size + 1 + 1, i, none⟩ := fun i e => by simp at e
  exact ⟨⟨by rw [World.cell?_setCell_other _ _ _ _ (hne _)]; exact h.rd.c0, by rw [World.cell?_setCell_other _ _ _ _ (hne _)]; exact h.rd.c1, by rw [World.cell?_setCell_other _ _ _ _ (hne _)]; exact h.rd.c2,
    by rw [World.frozen?_setCell]; exact h.rd.f1, by rw [World.frozen?_setCell]; exact h.rd.f2⟩, h.le, h.below.setCell (p := ⟨w0.heap.size + 1, j, none⟩) (Nat.le_succ _) _, h.res.other _ _ (by simp)⟩

theorem rnum_w (w0 : World) (s : ByteArray) (p : Nat) (bad : Bool) (low high : Int) (W : World) (h : St w0 W s p bad) (hs : s.size ≤ 9223372036854775000) (hl : low ≤ 0) (hh : 0 ≤ high) (hl' : -2147483648 ≤ low) (hh' : high ≤ 2147483647) :
    Calls Tryz.prog 108 #[.pointer (some ⟨w0.heap.size + 1 + 1, 0, none⟩), .int .i64 low, .int .i64 high] W fun r w' => ∃ (n : Int) (q : Nat) (bad' : Bool), r = .returned (.int .i64 n) ∧ low ≤ n ∧ n ≤ high ∧ St w0 w' s q bad' ∧
      (∀ b o, b < w0.heap.size + 1 + 1 → w'.cell? ⟨b, o, none⟩ = W.cell? ⟨b, o, none⟩) ∧ (∀ b o, b < w0.heap.size + 1 + 1 → w'.frozen? ⟨b, o, none⟩ = W.frozen? ⟨b, o, none⟩) ∧ Hid (NumSpec low high (s.data.toList.drop p) p q n bad bad') := by
  refine (rnum_any (w0.heap.size + 1 + 1) s p bad low high W h.rd hs h.le hl hh hl' hh').mono ?_
  rintro r w' ⟨n, q, bad', rfl, h1, h2, h3, h4, h5, h6⟩
  exact ⟨n, q, bad', rfl, h1, h2, ⟨h4, h3, h.below.trans (h5.mono (by omega)), h.res.below (by omega) h5⟩, bcells h5, bfroz h5, h6⟩

def ev0 : Ev := ⟨0, 0, 0, 0, 0⟩
def lineEv (l : List UInt8) : Ev := (parseLineL l).getD ev0
def lineOk (l : List UInt8) : Bool := (parseLineL l).isSome

set_option maxHeartbeats 1000000 in
theorem parseLine_empty (w : World) :
    Calls Tryz.prog 73 #[.string ⟨#[]⟩] w fun r w' => r = .returned (.tuple #[evV ev0, .bool false]) ∧ Below w.heap.size w w' := by
  go_enter Tryz.func73, Tryz.ntmps73
  go_wp2
  exact bodyPost_ret (v := .tuple #[evV ev0, .bool false]) (by simp [results, Tryz.results73, go_sem, ev0]) rfl ⟨rfl, (Below.refl _ _).alloc (Nat.le_refl _) _⟩

theorem St.start (w : World) (o2 : Obj) (T U : TypeId) (s : ByteArray) (h : 0 < s.size) : St w (((w.alloc (.cells #[.int .u8 0, .int .u8 0, .int .u8 0, .int .i32 0, .int .i32 0] U)).alloc o2).alloc (.cells #[.string s, .int .i64 1, .bool false] T)) s 1 false := by
  refine ⟨⟨?_, ?_, ?_, ?_, ?_⟩, h, (((Below.refl _ _).alloc (Nat.le_refl _) _).alloc (by simp) _).alloc (by simp; omega) _, ⟨?_, ?_, ?_, ?_, ?_⟩⟩
  all_goals simp [go_sem]

def OptSpec (b : Bool) (low high : Int) (l : List UInt8) (p q : Nat) (n : Int) (bad bad' : Bool) : Prop :=
  (bad' = false → bad = false ∧ optR b low high l = some (n, q - p) ∧ p ≤ q) ∧ (bad' = true → bad = true ∨ optR b low high l = none)

theorem OptSpec.yes {b : Bool} {low high : Int} {l : List UInt8} {p q : Nat} {n : Int} {bad bad' : Bool} (hb : b = true) (h : NumSpec low high l p q n bad bad') : OptSpec b low high l p q n bad bad' := by
  unfold OptSpec optR
  rw [hb]
  exact h
theorem OptSpec.no {b : Bool} {low high : Int} {l : List UInt8} {p : Nat} {bad : Bool} (hb : b = false) : OptSpec b low high l p p 0 bad bad := by
  unfold OptSpec optR
  rw [hb]
  exact ⟨fun h => ⟨h, by simp, Nat.le_refl _⟩, fun h => Or.inl h⟩

theorem line_steps {s : ByteArray} {c : UInt8} {k nt na nv ns : Int} {qt qa qv qs : Nat} {bt ba bv bs : Bool} (h0 : 0 < s.size) (hc : s[0] = c) (hk : kindOfL c = k) (hk0 : ¬ k = 0)
    (HT : NumSpec 0 255 (s.data.toList.drop 1) 1 qt nt false bt) (HA : OptSpec (nArg k) 0 255 (s.data.toList.drop qt) qt qa na bt ba)
    (HV : OptSpec (nVal k) (-2147483648) 2147483647 (s.data.toList.drop qa) qa qv nv ba bv) (HS : OptSpec (nSeen k) (-2147483648) 2147483647 (s.data.toList.drop qv) qv qs ns bv bs) :
    (bs = false → qs = s.size → parseLineL s.data.toList = some ⟨k, nt, na, nv, ns⟩) ∧ (bs = true ∨ qs ≠ s.size → parseLineL s.data.toList = none) := by
  have hsz : s.data.toList.length = s.size := by simp
  have hl : s.data.toList = c :: s.data.toList.drop 1 := by
    have := List.drop_eq_getElem_cons (l := s.data.toList) (i := 0) (by simpa using h0)
    rw [List.drop_zero] at this
    rw [← hc]
    exact this
  have hp : parseLineL s.data.toList = restR k (s.data.toList.drop 1) := by
    conv => lhs; rw [hl]
    simp only [parseLineL, hk]
    rw [if_neg hk0]
  have hlen : (s.data.toList.drop 1).length = s.size - 1 := by rw [List.length_drop, hsz]
  rw [hp]
  unfold restR
  cases hbt : bt with
  | true =>
    have e1 : numR 0 255 (s.data.toList.drop 1) = none := by
      rcases HT.2 hbt with h | h
      · cases h
      · exact h
    have hbs : bs = true := by
      cases h : bs with
      | true => rfl
      | false =>
        have h1 := (HS.1 h).1
        have h2 := (HV.1 h1).1
        have h3 := (HA.1 h2).1
        rw [hbt] at h3
        cases h3
    rw [e1, hbs]
    exact ⟨fun h => (by cases h), fun _ => rfl⟩
  | false =>
    obtain ⟨_, e1, l1⟩ := HT.1 hbt
    rw [e1]
    simp only [Option.bind_some, List.drop_drop]
    rw [show 1 + (qt - 1) = qt by omega]
    cases hba : ba with
    | true =>
      have e2 : optR (nArg k) 0 255 (s.data.toList.drop qt) = none := by
        rcases HA.2 hba with h | h
        · rw [hbt] at h; cases h
        · exact h
      have hbs : bs = true := by
        cases h : bs with
        | true => rfl
        | false =>
          have h1 := (HS.1 h).1
          have h2 := (HV.1 h1).1
          rw [hba] at h2
          cases h2
      rw [e2, hbs]
      exact ⟨fun h => (by cases h), fun _ => rfl⟩
    | false =>
      obtain ⟨_, e2, l2⟩ := HA.1 hba
      rw [e2]
      simp only [Option.bind_some]
      rw [show 1 + (qt - 1 + (qa - qt)) = qa by omega]
      cases hbv : bv with
      | true =>
        have e3 : optR (nVal k) (-2147483648) 2147483647 (s.data.toList.drop qa) = none := by
          rcases HV.2 hbv with h | h
          · rw [hba] at h; cases h
          · exact h
        have hbs : bs = true := by
          cases h : bs with
          | true => rfl
          | false =>
            have h1 := (HS.1 h).1
            rw [hbv] at h1
            cases h1
        rw [e3, hbs]
        exact ⟨fun h => (by cases h), fun _ => rfl⟩
      | false =>
        obtain ⟨_, e3, l3⟩ := HV.1 hbv
        rw [e3]
        simp only [Option.bind_some]
        rw [show 1 + (qt - 1 + (qa - qt) + (qv - qa)) = qv by omega]
        cases hbs : bs with
        | true =>
          have e4 : optR (nSeen k) (-2147483648) 2147483647 (s.data.toList.drop qv) = none := by
            rcases HS.2 hbs with h | h
            · rw [hbv] at h; cases h
            · exact h
          rw [e4]
          exact ⟨fun h => (by cases h), fun _ => rfl⟩
        | false =>
          obtain ⟨_, e4, l4⟩ := HS.1 hbs
          rw [e4]
          simp only [Option.bind_some, hlen]
          refine ⟨fun _ h => ?_, fun h => ?_⟩
          · rw [if_pos (by omega)]
          · rw [if_neg]
            rcases h with h | h
            · cases h
            · omega

theorem size_toList (s : ByteArray) : s.toList.length = s.size := by rw [ByteArray.toList_eq]; simp

theorem fin_below {w W : World} (h : Below w.heap.size w W) (j : Nat) (v a b c d e : Value) : Below w.heap.size w ((((((W.setCell ⟨w.heap.size + 1, j, none⟩ v).setCell ⟨w.heap.size, 0, none⟩ a).setCell ⟨w.heap.size, 1, none⟩ b).setCell ⟨w.heap.size, 2, none⟩ c).setCell ⟨w.heap.size, 3, none⟩ d).setCell ⟨w.heap.size, 4, none⟩ e) :=
  (((((h.setCell (p := ⟨w.heap.size + 1, j, none⟩) (Nat.le_succ _) v).setCell (p := ⟨w.heap.size, 0, none⟩) (Nat.le_refl _) a).setCell (p := ⟨w.heap.size, 1, none⟩) (Nat.le_refl _) b).setCell (p := ⟨w.heap.size, 2, none⟩) (Nat.le_refl _) c).setCell (p := ⟨w.heap.size, 3, none⟩) (Nat.le_refl _) d).setCell (p := ⟨w.heap.size, 4, none⟩) (Nat.le_refl _) e

theorem ne_of_bne {q n : Nat} (h : ((q : Int) != (n : Int)) = true) : q ≠ n := by
  simp at h
  omega
theorem eq_of_bne {q n : Nat} (h : ((q : Int) != (n : Int)) = false) : q = n := by
  simp at h
  omega

set_option maxHeartbeats 2000000 in
theorem parseLine_B (s : ByteArray) (w : World) (hs : s.size ≤ 9223372036854775000) (h0 : 0 < s.size) (c : UInt8) (k : Int) (HC : Hid (s[0] = c)) (HK : Hid (kindOfL c = k)) (hc : s[0] = c) (hk : kindOfL c = k) (hk0 : ¬ k = 0) (hk1 : (k == 0) = false) (hA : nArg k = true) (hV : nVal k = false) (hS : nSeen k = false) (hne : s.toList.isEmpty = false) (_h0' : (0 : Int) < (s.size : Int)) :
    Calls Tryz.prog 73 #[.string s] w fun r w' => r = .returned (.tuple #[evV (lineEv s.data.toList), .bool (lineOk s.data.toList)]) ∧ Below w.heap.size w w' := by
  go_enter Tryz.func73, Tryz.ntmps73
  go_wp2_with (go_at_call 107; refine (kindOf_any _ _).mono ?_; rintro r w' ⟨rfl, rfl⟩)
  refine (rnum_w w s 1 false 0 255 _ (St.start w _ _ _ s h0) hs (by decide) (by decide) (by decide) (by decide)).mono ?_
  rintro r wt ⟨nt, qt, bt, rfl, ht0, ht1, hst, hcet, hfrt, Ht⟩
  have c1 := hst.rd.c1
  have c2 := hst.rd.c2
  go_wp2_with (first | (go_at_call 105; refine (namesArg_any _ _).mono ?_; rintro r w' ⟨rfl, rfl⟩) | (go_at_call 106; refine (namesValue_any _ _).mono ?_; rintro r w' ⟨rfl, rfl⟩) | (go_at_call 80; refine (namesSeen_any _ _).mono ?_; rintro r w' ⟨rfl, rfl⟩))
  refine (rnum_w w s _ _ 0 255 _ (St.set hst _ _) hs (by decide) (by decide) (by decide) (by decide)).mono ?_
  clear c1 c2
  rintro r wa ⟨na, qa, ba, rfl, ha0, ha1, hsta, hcea, hfra, Ha⟩
  clear hst
  have hst := hsta
  clear hsta
  have c1 := hst.rd.c1
  have c2 := hst.rd.c2
  go_wp2_with (first | (go_at_call 105; refine (namesArg_any _ _).mono ?_; rintro r w' ⟨rfl, rfl⟩) | (go_at_call 106; refine (namesValue_any _ _).mono ?_; rintro r w' ⟨rfl, rfl⟩) | (go_at_call 80; refine (namesSeen_any _ _).mono ?_; rintro r w' ⟨rfl, rfl⟩))
  all_goals have L := line_steps h0 HC.out HK.out hk0 Ht.out (OptSpec.yes hA Ha.out) (OptSpec.no hV) (OptSpec.no hS)
  all_goals unfold lineEv lineOk
  all_goals obtain ⟨u0, u1, u2, u3, u4⟩ := hst.res
  all_goals have hbl := hst.below
  · have hx : ba = true := by assumption
    rw [L.2 (Or.inl hx)]
    exact bodyPost_ret (v := .tuple #[evV ev0, .bool false]) (by simp [results, Tryz.results73, go_sem, ev0, u0, u1, u2, u3, u4]) rfl ⟨rfl, fin_below hbl _ _ _ _ _ _ _⟩
  · have hx : ((qa : Int) != (s.size : Int)) = true := by assumption
    rw [L.2 (Or.inr (ne_of_bne hx))]
    exact bodyPost_ret (v := .tuple #[evV ev0, .bool false]) (by simp [results, Tryz.results73, go_sem, ev0, u0, u1, u2, u3, u4]) rfl ⟨rfl, fin_below hbl _ _ _ _ _ _ _⟩
  · have hx : ((qa : Int) != (s.size : Int)) = false := by assumption
    have hy : ¬ ba = true := by assumption
    rw [L.1 (by simpa using hy) (eq_of_bne hx)]
    exact bodyPost_ret (v := .tuple #[evV _, .bool true]) (by simp [results, Tryz.results73, go_sem, u0, u1, u2, u3, u4]) rfl ⟨rfl, fin_below hbl _ _ _ _ _ _ _⟩

set_option maxHeartbeats 2000000 in
theorem parseLine_R (s : ByteArray) (w : World) (hs : s.size ≤ 9223372036854775000) (h0 : 0 < s.size) (c : UInt8) (k : Int) (HC : Hid (s[0] = c)) (HK : Hid (kindOfL c = k)) (hc : s[0] = c) (hk : kindOfL c = k) (hk0 : ¬ k = 0) (hk1 : (k == 0) = false) (hA : nArg k = true) (hV : nVal k = false) (hS : nSeen k = true) (hne : s.toList.isEmpty = false) (_h0' : (0 : Int) < (s.size : Int)) :
    Calls Tryz.prog 73 #[.string s] w fun r w' => r = .returned (.tuple #[evV (lineEv s.data.toList), .bool (lineOk s.data.toList)]) ∧ Below w.heap.size w w' := by
  go_enter Tryz.func73, Tryz.ntmps73
  go_wp2_with (go_at_call 107; refine (kindOf_any _ _).mono ?_; rintro r w' ⟨rfl, rfl⟩)
  refine (rnum_w w s 1 false 0 255 _ (St.start w _ _ _ s h0) hs (by decide) (by decide) (by decide) (by decide)).mono ?_
  rintro r wt ⟨nt, qt, bt, rfl, ht0, ht1, hst, hcet, hfrt, Ht⟩
  have c1 := hst.rd.c1
  have c2 := hst.rd.c2
  go_wp2_with (first | (go_at_call 105; refine (namesArg_any _ _).mono ?_; rintro r w' ⟨rfl, rfl⟩) | (go_at_call 106; refine (namesValue_any _ _).mono ?_; rintro r w' ⟨rfl, rfl⟩) | (go_at_call 80; refine (namesSeen_any _ _).mono ?_; rintro r w' ⟨rfl, rfl⟩))
  refine (rnum_w w s _ _ 0 255 _ (St.set hst _ _) hs (by decide) (by decide) (by decide) (by decide)).mono ?_
  clear c1 c2
  rintro r wa ⟨na, qa, ba, rfl, ha0, ha1, hsta, hcea, hfra, Ha⟩
  clear hst
  have hst := hsta
  clear hsta
  have c1 := hst.rd.c1
  have c2 := hst.rd.c2
  go_wp2_with (first | (go_at_call 105; refine (namesArg_any _ _).mono ?_; rintro r w' ⟨rfl, rfl⟩) | (go_at_call 106; refine (namesValue_any _ _).mono ?_; rintro r w' ⟨rfl, rfl⟩) | (go_at_call 80; refine (namesSeen_any _ _).mono ?_; rintro r w' ⟨rfl, rfl⟩))
  refine (rnum_w w s _ _ (-2147483648) 2147483647 _ (St.set hst _ _) hs (by decide) (by decide) (by decide) (by decide)).mono ?_
  clear c1 c2
  rintro r ws ⟨ns, qs, bs, rfl, hs0, hs1, hsts, hces, hfrs, Hs⟩
  clear hst
  have hst := hsts
  clear hsts
  have c1 := hst.rd.c1
  have c2 := hst.rd.c2
  go_wp2_with (first | (go_at_call 105; refine (namesArg_any _ _).mono ?_; rintro r w' ⟨rfl, rfl⟩) | (go_at_call 106; refine (namesValue_any _ _).mono ?_; rintro r w' ⟨rfl, rfl⟩) | (go_at_call 80; refine (namesSeen_any _ _).mono ?_; rintro r w' ⟨rfl, rfl⟩))
  all_goals have L := line_steps h0 HC.out HK.out hk0 Ht.out (OptSpec.yes hA Ha.out) (OptSpec.no hV) (OptSpec.yes hS Hs.out)
  all_goals unfold lineEv lineOk
  all_goals obtain ⟨u0, u1, u2, u3, u4⟩ := hst.res
  all_goals have hbl := hst.below
  · have hx : bs = true := by assumption
    rw [L.2 (Or.inl hx)]
    exact bodyPost_ret (v := .tuple #[evV ev0, .bool false]) (by simp [results, Tryz.results73, go_sem, ev0, u0, u1, u2, u3, u4]) rfl ⟨rfl, fin_below hbl _ _ _ _ _ _ _⟩
  · have hx : ((qs : Int) != (s.size : Int)) = true := by assumption
    rw [L.2 (Or.inr (ne_of_bne hx))]
    exact bodyPost_ret (v := .tuple #[evV ev0, .bool false]) (by simp [results, Tryz.results73, go_sem, ev0, u0, u1, u2, u3, u4]) rfl ⟨rfl, fin_below hbl _ _ _ _ _ _ _⟩
  · have hx : ((qs : Int) != (s.size : Int)) = false := by assumption
    have hy : ¬ bs = true := by assumption
    rw [L.1 (by simpa using hy) (eq_of_bne hx)]
    exact bodyPost_ret (v := .tuple #[evV _, .bool true]) (by simp [results, Tryz.results73, go_sem, u0, u1, u2, u3, u4]) rfl ⟨rfl, fin_below hbl _ _ _ _ _ _ _⟩

set_option maxHeartbeats 2000000 in
theorem parseLine_W (s : ByteArray) (w : World) (hs : s.size ≤ 9223372036854775000) (h0 : 0 < s.size) (c : UInt8) (k : Int) (HC : Hid (s[0] = c)) (HK : Hid (kindOfL c = k)) (hc : s[0] = c) (hk : kindOfL c = k) (hk0 : ¬ k = 0) (hk1 : (k == 0) = false) (hA : nArg k = true) (hV : nVal k = true) (hS : nSeen k = false) (hne : s.toList.isEmpty = false) (_h0' : (0 : Int) < (s.size : Int)) :
    Calls Tryz.prog 73 #[.string s] w fun r w' => r = .returned (.tuple #[evV (lineEv s.data.toList), .bool (lineOk s.data.toList)]) ∧ Below w.heap.size w w' := by
  go_enter Tryz.func73, Tryz.ntmps73
  go_wp2_with (go_at_call 107; refine (kindOf_any _ _).mono ?_; rintro r w' ⟨rfl, rfl⟩)
  refine (rnum_w w s 1 false 0 255 _ (St.start w _ _ _ s h0) hs (by decide) (by decide) (by decide) (by decide)).mono ?_
  rintro r wt ⟨nt, qt, bt, rfl, ht0, ht1, hst, hcet, hfrt, Ht⟩
  have c1 := hst.rd.c1
  have c2 := hst.rd.c2
  go_wp2_with (first | (go_at_call 105; refine (namesArg_any _ _).mono ?_; rintro r w' ⟨rfl, rfl⟩) | (go_at_call 106; refine (namesValue_any _ _).mono ?_; rintro r w' ⟨rfl, rfl⟩) | (go_at_call 80; refine (namesSeen_any _ _).mono ?_; rintro r w' ⟨rfl, rfl⟩))
  refine (rnum_w w s _ _ 0 255 _ (St.set hst _ _) hs (by decide) (by decide) (by decide) (by decide)).mono ?_
  clear c1 c2
  rintro r wa ⟨na, qa, ba, rfl, ha0, ha1, hsta, hcea, hfra, Ha⟩
  clear hst
  have hst := hsta
  clear hsta
  have c1 := hst.rd.c1
  have c2 := hst.rd.c2
  go_wp2_with (first | (go_at_call 105; refine (namesArg_any _ _).mono ?_; rintro r w' ⟨rfl, rfl⟩) | (go_at_call 106; refine (namesValue_any _ _).mono ?_; rintro r w' ⟨rfl, rfl⟩) | (go_at_call 80; refine (namesSeen_any _ _).mono ?_; rintro r w' ⟨rfl, rfl⟩))
  refine (rnum_w w s _ _ (-2147483648) 2147483647 _ (St.set hst _ _) hs (by decide) (by decide) (by decide) (by decide)).mono ?_
  clear c1 c2
  rintro r wv ⟨nv, qv, bv, rfl, hv0, hv1, hstv, hcev, hfrv, Hv⟩
  clear hst
  have hst := hstv
  clear hstv
  have c1 := hst.rd.c1
  have c2 := hst.rd.c2
  go_wp2_with (first | (go_at_call 105; refine (namesArg_any _ _).mono ?_; rintro r w' ⟨rfl, rfl⟩) | (go_at_call 106; refine (namesValue_any _ _).mono ?_; rintro r w' ⟨rfl, rfl⟩) | (go_at_call 80; refine (namesSeen_any _ _).mono ?_; rintro r w' ⟨rfl, rfl⟩))
  all_goals have L := line_steps h0 HC.out HK.out hk0 Ht.out (OptSpec.yes hA Ha.out) (OptSpec.yes hV Hv.out) (OptSpec.no hS)
  all_goals unfold lineEv lineOk
  all_goals obtain ⟨u0, u1, u2, u3, u4⟩ := hst.res
  all_goals have hbl := hst.below
  · have hx : bv = true := by assumption
    rw [L.2 (Or.inl hx)]
    exact bodyPost_ret (v := .tuple #[evV ev0, .bool false]) (by simp [results, Tryz.results73, go_sem, ev0, u0, u1, u2, u3, u4]) rfl ⟨rfl, fin_below hbl _ _ _ _ _ _ _⟩
  · have hx : ((qv : Int) != (s.size : Int)) = true := by assumption
    rw [L.2 (Or.inr (ne_of_bne hx))]
    exact bodyPost_ret (v := .tuple #[evV ev0, .bool false]) (by simp [results, Tryz.results73, go_sem, ev0, u0, u1, u2, u3, u4]) rfl ⟨rfl, fin_below hbl _ _ _ _ _ _ _⟩
  · have hx : ((qv : Int) != (s.size : Int)) = false := by assumption
    have hy : ¬ bv = true := by assumption
    rw [L.1 (by simpa using hy) (eq_of_bne hx)]
    exact bodyPost_ret (v := .tuple #[evV _, .bool true]) (by simp [results, Tryz.results73, go_sem, u0, u1, u2, u3, u4]) rfl ⟨rfl, fin_below hbl _ _ _ _ _ _ _⟩

set_option maxHeartbeats 2000000 in
theorem parseLine_A (s : ByteArray) (w : World) (hs : s.size ≤ 9223372036854775000) (h0 : 0 < s.size) (c : UInt8) (k : Int) (HC : Hid (s[0] = c)) (HK : Hid (kindOfL c = k)) (hc : s[0] = c) (hk : kindOfL c = k) (hk0 : ¬ k = 0) (hk1 : (k == 0) = false) (hA : nArg k = true) (hV : nVal k = true) (hS : nSeen k = true) (hne : s.toList.isEmpty = false) (_h0' : (0 : Int) < (s.size : Int)) :
    Calls Tryz.prog 73 #[.string s] w fun r w' => r = .returned (.tuple #[evV (lineEv s.data.toList), .bool (lineOk s.data.toList)]) ∧ Below w.heap.size w w' := by
  go_enter Tryz.func73, Tryz.ntmps73
  go_wp2_with (go_at_call 107; refine (kindOf_any _ _).mono ?_; rintro r w' ⟨rfl, rfl⟩)
  refine (rnum_w w s 1 false 0 255 _ (St.start w _ _ _ s h0) hs (by decide) (by decide) (by decide) (by decide)).mono ?_
  rintro r wt ⟨nt, qt, bt, rfl, ht0, ht1, hst, hcet, hfrt, Ht⟩
  have c1 := hst.rd.c1
  have c2 := hst.rd.c2
  go_wp2_with (first | (go_at_call 105; refine (namesArg_any _ _).mono ?_; rintro r w' ⟨rfl, rfl⟩) | (go_at_call 106; refine (namesValue_any _ _).mono ?_; rintro r w' ⟨rfl, rfl⟩) | (go_at_call 80; refine (namesSeen_any _ _).mono ?_; rintro r w' ⟨rfl, rfl⟩))
  refine (rnum_w w s _ _ 0 255 _ (St.set hst _ _) hs (by decide) (by decide) (by decide) (by decide)).mono ?_
  clear c1 c2
  rintro r wa ⟨na, qa, ba, rfl, ha0, ha1, hsta, hcea, hfra, Ha⟩
  clear hst
  have hst := hsta
  clear hsta
  have c1 := hst.rd.c1
  have c2 := hst.rd.c2
  go_wp2_with (first | (go_at_call 105; refine (namesArg_any _ _).mono ?_; rintro r w' ⟨rfl, rfl⟩) | (go_at_call 106; refine (namesValue_any _ _).mono ?_; rintro r w' ⟨rfl, rfl⟩) | (go_at_call 80; refine (namesSeen_any _ _).mono ?_; rintro r w' ⟨rfl, rfl⟩))
  refine (rnum_w w s _ _ (-2147483648) 2147483647 _ (St.set hst _ _) hs (by decide) (by decide) (by decide) (by decide)).mono ?_
  clear c1 c2
  rintro r wv ⟨nv, qv, bv, rfl, hv0, hv1, hstv, hcev, hfrv, Hv⟩
  clear hst
  have hst := hstv
  clear hstv
  have c1 := hst.rd.c1
  have c2 := hst.rd.c2
  go_wp2_with (first | (go_at_call 105; refine (namesArg_any _ _).mono ?_; rintro r w' ⟨rfl, rfl⟩) | (go_at_call 106; refine (namesValue_any _ _).mono ?_; rintro r w' ⟨rfl, rfl⟩) | (go_at_call 80; refine (namesSeen_any _ _).mono ?_; rintro r w' ⟨rfl, rfl⟩))
  refine (rnum_w w s _ _ (-2147483648) 2147483647 _ (St.set hst _ _) hs (by decide) (by decide) (by decide) (by decide)).mono ?_
  clear c1 c2
  rintro r ws ⟨ns, qs, bs, rfl, hs0, hs1, hsts, hces, hfrs, Hs⟩
  clear hst
  have hst := hsts
  clear hsts
  have c1 := hst.rd.c1
  have c2 := hst.rd.c2
  go_wp2_with (first | (go_at_call 105; refine (namesArg_any _ _).mono ?_; rintro r w' ⟨rfl, rfl⟩) | (go_at_call 106; refine (namesValue_any _ _).mono ?_; rintro r w' ⟨rfl, rfl⟩) | (go_at_call 80; refine (namesSeen_any _ _).mono ?_; rintro r w' ⟨rfl, rfl⟩))
  all_goals have L := line_steps h0 HC.out HK.out hk0 Ht.out (OptSpec.yes hA Ha.out) (OptSpec.yes hV Hv.out) (OptSpec.yes hS Hs.out)
  all_goals unfold lineEv lineOk
  all_goals obtain ⟨u0, u1, u2, u3, u4⟩ := hst.res
  all_goals have hbl := hst.below
  · have hx : bs = true := by assumption
    rw [L.2 (Or.inl hx)]
    exact bodyPost_ret (v := .tuple #[evV ev0, .bool false]) (by simp [results, Tryz.results73, go_sem, ev0, u0, u1, u2, u3, u4]) rfl ⟨rfl, fin_below hbl _ _ _ _ _ _ _⟩
  · have hx : ((qs : Int) != (s.size : Int)) = true := by assumption
    rw [L.2 (Or.inr (ne_of_bne hx))]
    exact bodyPost_ret (v := .tuple #[evV ev0, .bool false]) (by simp [results, Tryz.results73, go_sem, ev0, u0, u1, u2, u3, u4]) rfl ⟨rfl, fin_below hbl _ _ _ _ _ _ _⟩
  · have hx : ((qs : Int) != (s.size : Int)) = false := by assumption
    have hy : ¬ bs = true := by assumption
    rw [L.1 (by simpa using hy) (eq_of_bne hx)]
    exact bodyPost_ret (v := .tuple #[evV _, .bool true]) (by simp [results, Tryz.results73, go_sem, u0, u1, u2, u3, u4]) rfl ⟨rfl, fin_below hbl _ _ _ _ _ _ _⟩

set_option maxHeartbeats 2000000 in
theorem parseLine_C (s : ByteArray) (w : World) (hs : s.size ≤ 9223372036854775000) (h0 : 0 < s.size) (c : UInt8) (k : Int) (HC : Hid (s[0] = c)) (HK : Hid (kindOfL c = k)) (hc : s[0] = c) (hk : kindOfL c = k) (hk0 : ¬ k = 0) (hk1 : (k == 0) = false) (hA : nArg k = false) (hV : nVal k = false) (hS : nSeen k = false) (hne : s.toList.isEmpty = false) (_h0' : (0 : Int) < (s.size : Int)) :
    Calls Tryz.prog 73 #[.string s] w fun r w' => r = .returned (.tuple #[evV (lineEv s.data.toList), .bool (lineOk s.data.toList)]) ∧ Below w.heap.size w w' := by
  go_enter Tryz.func73, Tryz.ntmps73
  go_wp2_with (go_at_call 107; refine (kindOf_any _ _).mono ?_; rintro r w' ⟨rfl, rfl⟩)
  refine (rnum_w w s 1 false 0 255 _ (St.start w _ _ _ s h0) hs (by decide) (by decide) (by decide) (by decide)).mono ?_
  rintro r wt ⟨nt, qt, bt, rfl, ht0, ht1, hst, hcet, hfrt, Ht⟩
  have c1 := hst.rd.c1
  have c2 := hst.rd.c2
  go_wp2_with (first | (go_at_call 105; refine (namesArg_any _ _).mono ?_; rintro r w' ⟨rfl, rfl⟩) | (go_at_call 106; refine (namesValue_any _ _).mono ?_; rintro r w' ⟨rfl, rfl⟩) | (go_at_call 80; refine (namesSeen_any _ _).mono ?_; rintro r w' ⟨rfl, rfl⟩))
  all_goals have L := line_steps h0 HC.out HK.out hk0 Ht.out (OptSpec.no hA) (OptSpec.no hV) (OptSpec.no hS)
  all_goals unfold lineEv lineOk
  all_goals obtain ⟨u0, u1, u2, u3, u4⟩ := hst.res
  all_goals have hbl := hst.below
  · have hx : bt = true := by assumption
    rw [L.2 (Or.inl hx)]
    exact bodyPost_ret (v := .tuple #[evV ev0, .bool false]) (by simp [results, Tryz.results73, go_sem, ev0, u0, u1, u2, u3, u4]) rfl ⟨rfl, fin_below hbl _ _ _ _ _ _ _⟩
  · have hx : ((qt : Int) != (s.size : Int)) = true := by assumption
    rw [L.2 (Or.inr (ne_of_bne hx))]
    exact bodyPost_ret (v := .tuple #[evV ev0, .bool false]) (by simp [results, Tryz.results73, go_sem, ev0, u0, u1, u2, u3, u4]) rfl ⟨rfl, fin_below hbl _ _ _ _ _ _ _⟩
  · have hx : ((qt : Int) != (s.size : Int)) = false := by assumption
    have hy : ¬ bt = true := by assumption
    rw [L.1 (by simpa using hy) (eq_of_bne hx)]
    exact bodyPost_ret (v := .tuple #[evV _, .bool true]) (by simp [results, Tryz.results73, go_sem, u0, u1, u2, u3, u4]) rfl ⟨rfl, fin_below hbl _ _ _ _ _ _ _⟩

set_option maxHeartbeats 1000000 in
theorem parseLine_any (s : ByteArray) (w : World) (hs : s.size ≤ 9223372036854775000) (h0 : 0 < s.size) :
    Calls Tryz.prog 73 #[.string s] w fun r w' => r = .returned (.tuple #[evV (lineEv s.data.toList), .bool (lineOk s.data.toList)]) ∧ Below w.heap.size w w' := by
  have hne : s.toList.isEmpty = false := by
    cases h : s.toList with
    | nil => have := size_toList s; rw [h] at this; simp at this; omega
    | cons _ _ => rfl
  have h0' : (0 : Int) < (s.size : Int) := by omega
  obtain ⟨c, hc⟩ : ∃ c, s[0] = c := ⟨_, rfl⟩
  obtain ⟨k, hk⟩ : ∃ k, kindOfL c = k := ⟨_, rfl⟩
  have HC : Hid (s[0] = c) := hc
  have HK : Hid (kindOfL c = k) := hk
  by_cases hk0 : k = 0
  · have hk1 : (k == 0) = true := by simp [hk0]
    have hp : parseLineL s.data.toList = none := by
      have := List.drop_eq_getElem_cons (l := s.data.toList) (i := 0) (by simpa using h0)
      rw [List.drop_zero] at this
      have hc' : s.data.toList[0]'(by simpa using h0) = c := hc
      rw [this, hc']
      simp only [parseLineL]
      rw [if_pos (by rw [hk]; exact hk0)]
    have HP : Hid (parseLineL s.data.toList = none) := hp
    clear hp hk0
    go_enter Tryz.func73, Tryz.ntmps73
    go_wp2_with (go_at_call 107; refine (kindOf_any _ _).mono ?_; rintro r w' ⟨rfl, rfl⟩)
    unfold lineEv lineOk
    rw [HP.out]
    exact bodyPost_ret (v := .tuple #[evV ev0, .bool false]) (by simp [results, Tryz.results73, go_sem, ev0]) rfl ⟨rfl, ((Below.refl _ _).alloc (Nat.le_refl _) _).alloc (by simp) _⟩
  · have hk1 : (k == 0) = false := by simp [hk0]
    have hkk : k = 1 ∨ k = 2 ∨ k = 3 ∨ k = 4 ∨ k = 5 ∨ k = 6 := by
      have := (letterL_kindOf c (by rw [hk]; exact hk0)).2
      rw [hk] at this
      unfold isKind at this
      simp at this
      omega
    have hfl : (nArg k = true ∧ nVal k = false ∧ nSeen k = false) ∨ (nArg k = true ∧ nVal k = false ∧ nSeen k = true) ∨ (nArg k = true ∧ nVal k = true ∧ nSeen k = false) ∨ (nArg k = true ∧ nVal k = true ∧ nSeen k = true) ∨ (nArg k = false ∧ nVal k = false ∧ nSeen k = false) := by
      clear hk1 hk0
      clear HK
      clear hk
      rcases hkk with rfl | rfl | rfl | rfl | rfl | rfl <;> decide
    rcases hfl with ⟨hA, hV, hS⟩ | ⟨hA, hV, hS⟩ | ⟨hA, hV, hS⟩ | ⟨hA, hV, hS⟩ | ⟨hA, hV, hS⟩
    · exact parseLine_B s w hs h0 c k HC HK hc hk hk0 hk1 hA hV hS hne h0'
    · exact parseLine_R s w hs h0 c k HC HK hc hk hk0 hk1 hA hV hS hne h0'
    · exact parseLine_W s w hs h0 c k HC HK hc hk hk0 hk1 hA hV hS hne h0'
    · exact parseLine_A s w hs h0 c k HC HK hc hk hk0 hk1 hA hV hS hne h0'
    · exact parseLine_C s w hs h0 c k HC HK hc hk hk0 hk1 hA hV hS hne h0'

end Go.Proofs.YtfdalbmopaemgabGreatDoor
