import Derived.Test.YtfdalbmopaemgaaW5
namespace Go.Proofs.Ytfdalbmopaemgaa
open Go.RowKit

/-! ### A line read -/
/-- The reader stands in its block, two behind where the line's reading began. -/
structure St (w0 W : World) (s : ByteArray) (p : Nat) (bad : Bool) : Prop where
  rd : Rd W (w0.heap.size + 1 + 1) s p bad
  le : p ≤ s.size
  below : Below w0.heap.size w0 W
  res : EvAt W w0.heap.size 0 ⟨0, 0, 0, 0, 0⟩

theorem EvAt.other {W : World} {b o : Nat} {e : Ev} (h : EvAt W b o e) (a : Addr) (v : Value) (ha : a.block ≠ b) : EvAt (W.setCell a v) b o e := by
  have hne : ∀ i, a ≠ ⟨b, i, none⟩ := fun i e => ha (by rw [e])
  exact ⟨by rw [World.cell?_setCell_other _ _ _ _ (hne _)]; exact h.c0, by rw [World.cell?_setCell_other _ _ _ _ (hne _)]; exact h.c1, by rw [World.cell?_setCell_other _ _ _ _ (hne _)]; exact h.c2,
    by rw [World.cell?_setCell_other _ _ _ _ (hne _)]; exact h.c3, by rw [World.cell?_setCell_other _ _ _ _ (hne _)]; exact h.c4⟩

theorem St.set {w0 W : World} {s : ByteArray} {p : Nat} {bad : Bool} (h : St w0 W s p bad) (j : Nat) (v : Value) : St w0 (W.setCell ⟨w0.heap.size + 1, j, none⟩ v) s p bad := by
  have hne : ∀ i, (⟨w0.heap.size + 1, j, none⟩ : Addr) ≠ ⟨w0.heap.size + 1 + 1, i, none⟩ := fun i e => by simp at e
  exact ⟨⟨by rw [World.cell?_setCell_other _ _ _ _ (hne _)]; exact h.rd.c0, by rw [World.cell?_setCell_other _ _ _ _ (hne _)]; exact h.rd.c1, by rw [World.cell?_setCell_other _ _ _ _ (hne _)]; exact h.rd.c2,
    by rw [World.frozen?_setCell]; exact h.rd.f1, by rw [World.frozen?_setCell]; exact h.rd.f2⟩, h.le, h.below.setCell (p := ⟨w0.heap.size + 1, j, none⟩) (Nat.le_succ _) _, h.res.other _ _ (by simp)⟩

def ev0 : Ev := ⟨0, 0, 0, 0, 0⟩
def lineEv (l : List UInt8) : Ev := (parseLineL l).getD ev0
def lineOk (l : List UInt8) : Bool := (parseLineL l).isSome

theorem St.start (w : World) (o2 : Obj) (T U : TypeId) (s : ByteArray) (h : 0 < s.size) : St w (((w.alloc (.cells #[.int .u8 0, .int .u8 0, .int .u8 0, .int .i32 0, .int .i32 0] U)).alloc o2).alloc (.cells #[.string s, .int .i64 1, .bool false] T)) s 1 false := by
  refine ⟨⟨?_, ?_, ?_, ?_, ?_⟩, h, (((Below.refl _ _).alloc (Nat.le_refl _) _).alloc (by simp) _).alloc (by simp; omega) _, ⟨?_, ?_, ?_, ?_, ?_⟩⟩
  all_goals simp [go_sem]

def OptSpec (b : Bool) (low high : Int) (l : List UInt8) (p q : Nat) (n : Int) (bad bad' : Bool) : Prop :=
  (bad' = false → bad = false ∧ optR b low high l = some (n, q - p) ∧ p ≤ q) ∧ (bad' = true → bad = true ∨ optR b low high l = none)

theorem OptSpec.yes {b : Bool} {low high : Int} {l : List UInt8} {p q : Nat} {n : Int} {bad bad' : Bool} (hb : b = true) (h : NumSpec low high l p q n bad bad') : OptSpec b low high l p q n bad bad' := by
  unfold OptSpec optR
  rw [hb]
  exact h
theorem OptSpec.no {b : Bool} {low high : Int} {l : List UInt8} {p : Nat} {bad : Bool} (hb : b = false) : OptSpec b low high l p p 0 bad bad := by
  unfold OptSpec optR
  rw [hb]
  exact ⟨fun h => ⟨h, by simp, Nat.le_refl _⟩, fun h => Or.inl h⟩

theorem line_steps {s : ByteArray} {c : UInt8} {k nt na nv ns : Int} {qt qa qv qs : Nat} {bt ba bv bs : Bool} (h0 : 0 < s.size) (hc : s[0] = c) (hk : kindOfL c = k) (hk0 : ¬ k = 0)
    (HT : NumSpec 0 255 (s.data.toList.drop 1) 1 qt nt false bt) (HA : OptSpec (nArg k) 0 255 (s.data.toList.drop qt) qt qa na bt ba)
    (HV : OptSpec (nVal k) (-2147483648) 2147483647 (s.data.toList.drop qa) qa qv nv ba bv) (HS : OptSpec (nSeen k) (-2147483648) 2147483647 (s.data.toList.drop qv) qv qs ns bv bs) :
    (bs = false → qs = s.size → parseLineL s.data.toList = some ⟨k, nt, na, nv, ns⟩) ∧ (bs = true ∨ qs ≠ s.size → parseLineL s.data.toList = none) := by
  have hsz : s.data.toList.length = s.size := by simp
  have hl : s.data.toList = c :: s.data.toList.drop 1 := by
    have := List.drop_eq_getElem_cons (l := s.data.toList) (i := 0) (by simpa using h0)
    rw [List.drop_zero] at this
    rw [← hc]
    exact this
  have hp : parseLineL s.data.toList = restR k (s.data.toList.drop 1) := by
    conv => lhs; rw [hl]
    simp only [parseLineL, hk]
    rw [if_neg hk0]
  have hlen : (s.data.toList.drop 1).length = s.size - 1 := by rw [List.length_drop, hsz]
  rw [hp]
  unfold restR
  cases hbt : bt with
  | true =>
    have e1 : numR 0 255 (s.data.toList.drop 1) = none := by
      rcases HT.2 hbt with h | h
      · cases h
      · exact h
    have hbs : bs = true := by
      cases h : bs with
      | true => rfl
      | false =>
        have h1 := (HS.1 h).1
        have h2 := (HV.1 h1).1
        have h3 := (HA.1 h2).1
        rw [hbt] at h3
        cases h3
    rw [e1, hbs]
    exact ⟨fun h => (by cases h), fun _ => rfl⟩
  | false =>
    obtain ⟨_, e1, l1⟩ := HT.1 hbt
    rw [e1]
    simp only [Option.bind_some, List.drop_drop]
    rw [show 1 + (qt - 1) = qt by omega]
    cases hba : ba with
    | true =>
      have e2 : optR (nArg k) 0 255 (s.data.toList.drop qt) = none := by
        rcases HA.2 hba with h | h
        · rw [hbt] at h; cases h
        · exact h
      have hbs : bs = true := by
        cases h : bs with
        | true => rfl
        | false =>
          have h1 := (HS.1 h).1
          have h2 := (HV.1 h1).1
          rw [hba] at h2
          cases h2
      rw [e2, hbs]
      exact ⟨fun h => (by cases h), fun _ => rfl⟩
    | false =>
      obtain ⟨_, e2, l2⟩ := HA.1 hba
      rw [e2]
      simp only [Option.bind_some]
      rw [show 1 + (qt - 1 + (qa - qt)) = qa by omega]
      cases hbv : bv with
      | true =>
        have e3 : optR (nVal k) (-2147483648) 2147483647 (s.data.toList.drop qa) = none := by
          rcases HV.2 hbv with h | h
          · rw [hba] at h; cases h
          · exact h
        have hbs : bs = true := by
          cases h : bs with
          | true => rfl
          | false =>
            have h1 := (HS.1 h).1
            rw [hbv] at h1
            cases h1
        rw [e3, hbs]
        exact ⟨fun h => (by cases h), fun _ => rfl⟩
      | false =>
        obtain ⟨_, e3, l3⟩ := HV.1 hbv
        rw [e3]
        simp only [Option.bind_some]
        rw [show 1 + (qt - 1 + (qa - qt) + (qv - qa)) = qv by omega]
        cases hbs : bs with
        | true =>
          have e4 : optR (nSeen k) (-2147483648) 2147483647 (s.data.toList.drop qv) = none := by
            rcases HS.2 hbs with h | h
            · rw [hbv] at h; cases h
            · exact h
          rw [e4]
          exact ⟨fun h => (by cases h), fun _ => rfl⟩
        | false =>
          obtain ⟨_, e4, l4⟩ := HS.1 hbs
          rw [e4]
          simp only [Option.bind_some, hlen]
          refine ⟨fun _ h => ?_, fun h => ?_⟩
          · rw [if_pos (by omega)]
          · rw [if_neg]
            rcases h with h | h
            · cases h
            · omega

theorem size_toList (s : ByteArray) : s.toList.length = s.size := by rw [ByteArray.toList_eq]; simp

theorem fin_below {w W : World} (h : Below w.heap.size w W) (j : Nat) (v a b c d e : Value) : Below w.heap.size w ((((((W.setCell ⟨w.heap.size + 1, j, none⟩ v).setCell ⟨w.heap.size, 0, none⟩ a).setCell ⟨w.heap.size, 1, none⟩ b).setCell ⟨w.heap.size, 2, none⟩ c).setCell ⟨w.heap.size, 3, none⟩ d).setCell ⟨w.heap.size, 4, none⟩ e) :=
  (((((h.setCell (p := ⟨w.heap.size + 1, j, none⟩) (Nat.le_succ _) v).setCell (p := ⟨w.heap.size, 0, none⟩) (Nat.le_refl _) a).setCell (p := ⟨w.heap.size, 1, none⟩) (Nat.le_refl _) b).setCell (p := ⟨w.heap.size, 2, none⟩) (Nat.le_refl _) c).setCell (p := ⟨w.heap.size, 3, none⟩) (Nat.le_refl _) d).setCell (p := ⟨w.heap.size, 4, none⟩) (Nat.le_refl _) e

theorem ne_of_bne {q n : Nat} (h : ((q : Int) != (n : Int)) = true) : q ≠ n := by
  simp at h
  omega
theorem eq_of_bne {q n : Nat} (h : ((q : Int) != (n : Int)) = false) : q = n := by
  simp at h
  omega

end Go.Proofs.Ytfdalbmopaemgaa
