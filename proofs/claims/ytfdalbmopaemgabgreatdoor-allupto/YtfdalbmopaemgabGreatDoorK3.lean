import Derived.Test.YtfdalbmopaemgabGreatDoorK2
namespace Go.Proofs.YtfdalbmopaemgabGreatDoor
open Go.RowKit

/-! ### The transactions in memory -/
structure TrAt (w : World) (b : Nat) (T : Tr) : Prop where
  n : w.cell? ⟨b, 0, none⟩ = some (.int .u8 (T.n : Int))
  par : ∀ i, i ≤ 15 → w.cell? ⟨b, 1 + i, none⟩ = some (.int .u8 (T.par i))
  op : ∀ i, i ≤ 15 → w.cell? ⟨b, 17 + i, none⟩ = some (.bool (T.op i))
  fz : ∀ o, w.frozen? ⟨b, o, none⟩ = false
  lt : b < w.heap.size

theorem TrAt.of_heap {w w' : World} {b : Nat} {T : Tr} (h : TrAt w b T) (hh : w'.heap[b]? = w.heap[b]?) (hz : w.heap.size ≤ w'.heap.size) : TrAt w' b T :=
  ⟨by rw [World.cell?_of_block (a := ⟨b, _, none⟩) hh]; exact h.n, fun i hi => by rw [World.cell?_of_block (a := ⟨b, _, none⟩) hh]; exact h.par i hi, fun i hi => by rw [World.cell?_of_block (a := ⟨b, _, none⟩) hh]; exact h.op i hi,
   fun o => by rw [World.frozen?_of_block (a := ⟨b, _, none⟩) hh]; exact h.fz o, Nat.lt_of_lt_of_le h.lt hz⟩

theorem TrAt.below {w w' : World} {b : Nat} {T : Tr} (h : TrAt w b T) (hb : Below w.heap.size w w') : TrAt w' b T := h.of_heap (hb.block b h.lt) hb.size

theorem TrAt.setOp {w : World} {b : Nat} {T : Tr} (h : TrAt w b T) (i : Nat) (hi : i ≤ 15) (v : Bool) : TrAt (w.setCell ⟨b, 17 + i, none⟩ (.bool v)) b ⟨T.n, T.par, upd T.op i v⟩ := by
  have ho : ∀ j, j ≠ 17 + i → (w.setCell ⟨b, 17 + i, none⟩ (.bool v)).cell? ⟨b, j, none⟩ = w.cell? ⟨b, j, none⟩ := fun j hj => World.cell?_setCell_other _ _ _ _ (by intro e; injection e with _ e2 _; exact hj e2.symm)
  refine ⟨by rw [ho _ (by omega)]; exact h.n, fun j hj => by rw [ho _ (by omega)]; exact h.par j hj, fun j hj => ?_, fun o => by rw [World.frozen?_setCell]; exact h.fz o, by simpa using h.lt⟩
  show _ = some (Value.bool (upd T.op i v j))
  unfold upd
  by_cases e : j = i
  · subst e
    rw [if_pos rfl]
    exact World.cell?_setCell_same _ _ _ (h.op j hj)
  · rw [if_neg e, ho _ (by omega)]
    exact h.op j hj

theorem TrAt.setPar {w : World} {b : Nat} {T : Tr} (h : TrAt w b T) (i : Nat) (hi : i ≤ 15) (v : Int) : TrAt (w.setCell ⟨b, 1 + i, none⟩ (.int .u8 v)) b ⟨T.n, upd T.par i v, T.op⟩ := by
  have ho : ∀ j, j ≠ 1 + i → (w.setCell ⟨b, 1 + i, none⟩ (.int .u8 v)).cell? ⟨b, j, none⟩ = w.cell? ⟨b, j, none⟩ := fun j hj => World.cell?_setCell_other _ _ _ _ (by intro e; injection e with _ e2 _; exact hj e2.symm)
  refine ⟨by rw [ho _ (by omega)]; exact h.n, fun j hj => ?_, fun j hj => by rw [ho _ (by omega)]; exact h.op j hj, fun o => by rw [World.frozen?_setCell]; exact h.fz o, by simpa using h.lt⟩
  show _ = some (Value.int .u8 (upd T.par i v j))
  unfold upd
  by_cases e : j = i
  · subst e
    rw [if_pos rfl]
    exact World.cell?_setCell_same _ _ _ (h.par j hj)
  · rw [if_neg e, ho _ (by omega)]
    exact h.par j hj

theorem TrAt.setN {w : World} {b : Nat} {T : Tr} (h : TrAt w b T) (v : Nat) (x : Int) (hx : x = (v : Int)) : TrAt (w.setCell ⟨b, 0, none⟩ (.int .u8 x)) b ⟨v, T.par, T.op⟩ := by
  subst hx
  have ho : ∀ j, j ≠ 0 → (w.setCell ⟨b, 0, none⟩ (.int .u8 (v : Int))).cell? ⟨b, j, none⟩ = w.cell? ⟨b, j, none⟩ := fun j hj => World.cell?_setCell_other _ _ _ _ (by intro e; injection e with _ e2 _; exact hj e2.symm)
  exact ⟨World.cell?_setCell_same _ _ _ h.n, fun j hj => by rw [ho _ (by omega)]; exact h.par j hj, fun j hj => by rw [ho _ (by omega)]; exact h.op j hj, fun o => by rw [World.frozen?_setCell]; exact h.fz o, by simpa using h.lt⟩

theorem TrAt.drew {w : World} {b : Nat} {T : Tr} (h : TrAt w b T) : TrAt w.drew b T := ⟨h.n, h.par, h.op, h.fz, h.lt⟩
theorem TrAt.drewN {w : World} {b : Nat} {T : Tr} (h : TrAt w b T) (n : Nat) : TrAt (w.drewN n) b T := ⟨h.n, h.par, h.op, h.fz, h.lt⟩

def isO (o : Nat → Bool) (m : Nat) : Bool := decide (m ≤ 15) && o m

set_option maxHeartbeats 1000000 in
theorem isOpen_any (b m : Nat) (T : Tr) (w : World) (h : TrAt w b T) (hm : m ≤ 255) :
    Calls Tryz.prog 96 #[.pointer (some ⟨b, 0, none⟩), .int .u8 (m : Int)] w fun r w' => r = .returned (.bool (isO T.op m)) ∧ w' = w := by
  by_cases h15 : m ≤ 15
  · have g := h.op m h15
    have h15' : (m : Int) ≤ 15 := by omega
    have h16 : (m : Int) < 16 := by omega
    have HV : Hid (isO T.op m = T.op m) := by show _ = _; unfold isO; rw [decide_eq_true h15, Bool.true_and]
    clear h
    go_enter Tryz.func96, Tryz.ntmps96
    go_wp2_with fail
    go_ret
    exact ⟨ret_bool HV.out.symm, rfl⟩
  · have h15' : ¬ (m : Int) ≤ 15 := by omega
    have HV : Hid (isO T.op m = false) := by show _ = _; unfold isO; rw [decide_eq_false h15, Bool.false_and]
    go_enter Tryz.func96, Tryz.ntmps96
    go_wp2_with fail
    go_ret
    exact ⟨ret_bool HV.out.symm, rfl⟩

set_option maxHeartbeats 1000000 in
theorem begun_any (b : Nat) (T : Tr) (w : World) (h : TrAt w b T) :
    Calls Tryz.prog 87 #[.pointer (some ⟨b, 0, none⟩)] w fun r w' => r = .returned (.int .u8 (T.n : Int)) ∧ w' = w := by
  have g := h.n
  clear h
  go_enter Tryz.func87, Tryz.ntmps87
  go_wp2_with fail
  go_ret
  exact ⟨rfl, rfl⟩

theorem mayO_nat (o : Nat → Bool) (m : Nat) : mayO o (m : Int) = ((m : Int) == 0 || isO o m) := by
  unfold mayO isO
  rw [Int.toNat_natCast]
  congr 2
  simp
  omega

set_option maxHeartbeats 1000000 in
theorem may_any (b m : Nat) (T : Tr) (w : World) (h : TrAt w b T) (hm : m ≤ 255) :
    Calls Tryz.prog 86 #[.pointer (some ⟨b, 0, none⟩), .int .u8 (m : Int)] w fun r w' => r = .returned (.bool (mayO T.op (m : Int))) ∧ w' = w := by
  have HC := hidIt (isOpen_any b m T w h hm)
  have HV := hidIt (mayO_nat T.op m)
  clear h
  cases h0 : ((m : Int) == 0) with
  | true =>
    go_enter Tryz.func86, Tryz.ntmps86
    go_wp2_with fail
    go_ret
    exact ⟨ret_bool (by rw [HV.out, h0]; rfl), rfl⟩
  | false =>
    go_enter Tryz.func86, Tryz.ntmps86
    go_wp2_with fail
    refine HC.out.mono ?_
    rintro r w1 ⟨rfl, rfl⟩
    go_wp2_with fail
    go_ret
    exact ⟨ret_bool (by rw [HV.out, h0]; rfl), rfl⟩

def childT (T : Tr) (t : Int) : Bool := (List.range 15).any fun i => T.op (i + 1) && T.par (i + 1) == t

set_option maxRecDepth 100000 in
set_option maxHeartbeats 1000000 in
theorem child_any (b : Nat) (t : Int) (T : Tr) (w : World) (h : TrAt w b T) :
    Calls Tryz.prog 97 #[.pointer (some ⟨b, 0, none⟩), .int .u8 t] w fun r w' => r = .returned (.bool (childT T t)) ∧ w' = w := by
  have HT := hidIt h
  clear h
  go_enter Tryz.func97, Tryz.ntmps97
  go_wp2_with fail
  go_loop [5] (fun i => ∃ k : Nat, k ≤ 15 ∧ i = .int .i64 ((k + 1 : Nat) : Int) ∧ Hid (∀ (i : Nat), i < k → (T.op (i + 1) && T.par (i + 1) == t) = false)) (fun i => 16 - (intOf i).toNat)
  case atStart => exact ⟨0, by omega, rfl, fun i h => by omega⟩
  case round =>
    obtain ⟨k, hk, rfl, HX⟩ := hrel
    by_cases hlt : k < 15
    · have hlt' : ((k + 1 : Nat) : Int) ≤ 15 := by omega
      have hlt2 : ((k + 1 : Nat) : Int) < 16 := by omega
      have hk0 : (0 : Int) ≤ ((k + 1 : Nat) : Int) := by omega
      have g1 := HT.out.op (k + 1) (by omega)
      have g2 := HT.out.par (k + 1) (by omega)
      obtain ⟨o, ho⟩ : ∃ o, T.op (k + 1) = o := ⟨_, rfl⟩
      obtain ⟨p, hp⟩ : ∃ p, T.par (k + 1) = p := ⟨_, rfl⟩
      have HO := hidIt ho
      have HP := hidIt hp
      rw [ho] at g1
      rw [hp] at g2
      clear ho hp
      cases o with
      | false =>
        go_wp2_with fail
        go_round
        case rel =>
          refine ⟨k + 1, by omega, by go_num, fun i h => ?_⟩
          by_cases e : i = k
          · subst e; rw [HO.out]; rfl
          · exact HX.out i (by omega)
        case measure => simp [intOf]; omega
      | true =>
        cases h3 : (p == t) with
        | false =>
          go_wp2_with fail
          go_round
          case rel =>
            refine ⟨k + 1, by omega, by go_num, fun i h => ?_⟩
            by_cases e : i = k
            · subst e; rw [HO.out, HP.out, h3]; rfl
            · exact HX.out i (by omega)
          case measure => simp [intOf]; omega
        | true =>
          have HN : Hid (childT T t = true) := by
            show _ = _
            unfold childT
            rw [List.any_eq_true]
            exact ⟨k, by simpa using hlt, by rw [HO.out, HP.out, h3]; rfl⟩
          go_wp2_with fail
          go_ret
          exact ⟨ret_bool HN.out.symm, rfl⟩
    · have hge : ¬ ((k + 1 : Nat) : Int) ≤ 15 := by omega
      have HN : Hid (childT T t = false) := by
        show _ = _
        unfold childT
        rw [List.any_eq_false]
        intro i hi
        rw [HX.out i (by simp at hi; omega)]
        decide
      go_wp2_with fail
      go_ret
      exact ⟨ret_bool HN.out.symm, rfl⟩

end Go.Proofs.YtfdalbmopaemgabGreatDoor
