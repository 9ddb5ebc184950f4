import Derived.Test.YtfdalbmopaemgaaGreatDoorG6
namespace Go.Proofs.YtfdalbmopaemgaaGreatDoor
open Go.RowKit

/-! ### The document's own playing -/
structure AgAt (w : World) (b : Nat) (hv : Value) (V : Nat → Int) (r : Int) : Prop where
  h : w.cell? ⟨b, 0, none⟩ = some hv
  cell : ∀ i, i < 4 → w.cell? ⟨b, 1 + i, none⟩ = some (.int .i32 (V i))
  wrong : w.cell? ⟨b, 5, none⟩ = some (.int .i64 r)
  fz : ∀ o, w.frozen? ⟨b, o, none⟩ = false
  lt : b < w.heap.size

theorem AgAt.of_heap {w w' : World} {b : Nat} {hv : Value} {V : Nat → Int} {r : Int} (h : AgAt w b hv V r) (hh : w'.heap[b]? = w.heap[b]?) (hz : w.heap.size ≤ w'.heap.size) : AgAt w' b hv V r :=
  ⟨by rw [World.cell?_of_block (a := ⟨b, _, none⟩) hh]; exact h.h, fun i hi => by rw [World.cell?_of_block (a := ⟨b, _, none⟩) hh]; exact h.cell i hi, by rw [World.cell?_of_block (a := ⟨b, _, none⟩) hh]; exact h.wrong,
   fun o => by rw [World.frozen?_of_block (a := ⟨b, _, none⟩) hh]; exact h.fz o, Nat.lt_of_lt_of_le h.lt hz⟩

theorem AgAt.below {w w' : World} {b : Nat} {hv : Value} {V : Nat → Int} {r : Int} (h : AgAt w b hv V r) (hb : Below w.heap.size w w') : AgAt w' b hv V r := h.of_heap (hb.block b h.lt) hb.size
theorem AgAt.drew {w : World} {b : Nat} {hv : Value} {V : Nat → Int} {r : Int} (h : AgAt w b hv V r) : AgAt w.drew b hv V r := ⟨h.h, h.cell, h.wrong, h.fz, h.lt⟩
theorem AgAt.drewN {w : World} {b : Nat} {hv : Value} {V : Nat → Int} {r : Int} (h : AgAt w b hv V r) (n : Nat) : AgAt (w.drewN n) b hv V r := ⟨h.h, h.cell, h.wrong, h.fz, h.lt⟩

theorem AgAt.set {w : World} {b : Nat} {hv : Value} {V : Nat → Int} {r : Int} (h : AgAt w b hv V r) (i : Nat) (hi : i < 4) (v : Int) : AgAt (w.setCell ⟨b, 1 + i, none⟩ (.int .i32 v)) b hv (upd V i v) r := by
  have ho : ∀ j, j ≠ 1 + i → (w.setCell ⟨b, 1 + i, none⟩ (.int .i32 v)).cell? ⟨b, j, none⟩ = w.cell? ⟨b, j, none⟩ := fun j hj => World.cell?_setCell_other _ _ _ _ (by intro e; injection e with _ e2 _; exact hj e2.symm)
  refine ⟨by rw [ho _ (by omega)]; exact h.h, fun j hj => ?_, by rw [ho _ (by omega)]; exact h.wrong, fun o => by rw [World.frozen?_setCell]; exact h.fz o, by simpa using h.lt⟩
  unfold upd
  by_cases e : j = i
  · subst e
    rw [if_pos rfl]
    exact World.cell?_setCell_same _ _ _ (h.cell j hj)
  · rw [if_neg e, ho _ (by omega)]
    exact h.cell j hj

theorem AgAt.setWrong {w : World} {b : Nat} {hv : Value} {V : Nat → Int} {r : Int} (h : AgAt w b hv V r) (r' : Int) : AgAt (w.setCell ⟨b, 5, none⟩ (.int .i64 r')) b hv V r' := by
  have ho : ∀ j, j ≠ 5 → (w.setCell ⟨b, 5, none⟩ (.int .i64 r')).cell? ⟨b, j, none⟩ = w.cell? ⟨b, j, none⟩ := fun j hj => World.cell?_setCell_other _ _ _ _ (by intro e; injection e with _ e2 _; exact hj e2.symm)
  exact ⟨by rw [ho _ (by omega)]; exact h.h, fun j hj => by rw [ho _ (by omega)]; exact h.cell j hj, World.cell?_setCell_same _ _ _ h.wrong, fun o => by rw [World.frozen?_setCell]; exact h.fz o, by simpa using h.lt⟩

def AgPost (w : World) (b : Nat) (hv : Value) (x : Int × (Nat → Int)) (r : Ending) (w' : World) : Prop := r = .returned (.tuple #[]) ∧ AgAt w' b hv x.2 x.1 ∧ ExB w w' b

theorem upd_same {α : Type} (f : Nat → α) (i : Nat) (v : α) (h : f i = v) : upd f i v = f := by
  funext j
  unfold upd
  by_cases e : j = i
  · rw [if_pos e, e, h]
  · rw [if_neg e]

theorem play_one {es : List Ev} {V : Nat → Int} {p : Nat} {e : Ev} (he : es[p]? = some e) : playL es V [p] = if nSeen e.k = true ∧ V e.a.toNat ≠ e.s then ((p : Int), V) else (-1, upd V e.a.toNat (becL e)) := by
  rw [playL, he]
  simp only [playL]

set_option maxRecDepth 100000 in
set_option maxHeartbeats 4000000 in
theorem access_any (bb off c b : Nat) (es : List Ev) (i : Nat) (V : Nat → Int) (w : World) (hs : SlEv w (.slice (some ⟨bb, off, none⟩) es.length c) es) (hi : i < es.length) (hok : es[i].Ok) (hobj : onObj es[i].k = true) (ha4 : es[i].a < 4) (hag : AgAt w b (.slice (some ⟨bb, off, none⟩) es.length c) V (-1)) :
    Calls Tryz.prog 87 #[.pointer (some ⟨b, 0, none⟩), .int .i64 (i : Int)] w (AgPost w b (.slice (some ⟨bb, off, none⟩) es.length c) (playL es V [i])) := by
  have hi' : (i : Int) < (es.length : Int) := by omega
  have hi0 : (0 : Int) ≤ (i : Int) := by omega
  obtain ⟨bb', off', hbb, hbw, g0, g1, g2, g3, g4⟩ := hs.at_ i hi
  simp only [Option.some.injEq, Addr.mk.injEq] at hbb
  obtain ⟨rfl, rfl, _⟩ := hbb
  have HP1 := hidIt (play_one (V := V) (List.getElem?_eq_getElem hi))
  obtain ⟨kk, tt, aa, vv, ss, hev, hk0', hk1', ht', ha'⟩ := ev_nat es[i] hok
  rw [hev] at g0 g1 g2 g3 g4 hobj ha4 HP1
  simp only [Int.toNat_natCast] at hobj ha4 HP1
  have hr := onObj_iff.1 hobj
  have ha4' : aa < 4 := by omega
  have hcell := hag.cell aa ha4'
  have hh := hag.h
  have hwr := hag.wrong
  have hfz := hag.fz
  have hlt := hag.lt
  have hbe : Below w.heap.size w (w.alloc (.cells #[.int .u8 kk, .int .u8 (tt : Int), .int .u8 (aa : Int), .int .i32 vv, .int .i32 ss] 41)) := (Below.refl _ _).alloc (Nat.le_refl _) _
  have HAE := hidIt (hag.below hbe)
  have HEE := hidIt ((ExB.refl w b).more hbe (Nat.le_of_lt hlt))
  clear hs hok hev hag hobj hbe ha'
  have hkk : kk = 2 ∨ kk = 3 ∨ kk = 4 := by omega
  clear hr hk0' hk1'
  rcases hkk with rfl | rfl | rfl
  · cases hse : (V aa == ss) with
    | true =>
      have hsn : (V aa != ss) = false := by simp [bne, hse]
      have HN : Hid (playL es V [i] = (-1, V)) := by show _ = _; rw [HP1.out, if_neg (fun q => q.2 (by simpa using hse)), upd_same]; simp [becL]; simpa using hse
      clear hse
      go_enter Tryz.func87, Tryz.ntmps87
      go_wp2_with fail
      go_quiet (fail)
      go_wp2_with fail
      go_end0
      exact ⟨rfl, by rw [HN.out]; exact HAE.out.drewN _, HEE.out.drewN _⟩
    | false =>
      have hsn : (V aa != ss) = true := by simp [bne, hse]
      have HN : Hid (playL es V [i] = ((i : Int), V)) := by show _ = _; rw [HP1.out, if_pos ⟨rfl, by simpa using hse⟩]
      clear hse
      go_enter Tryz.func87, Tryz.ntmps87
      go_wp2_with fail
      go_quiet (fail)
      go_wp2_with fail
      go_end0
      exact ⟨rfl, by rw [HN.out]; exact (HAE.out.drewN _).setWrong _, (HEE.out.drewN _).set _ _⟩
  · have HN : Hid (playL es V [i] = (-1, upd V aa vv)) := by show _ = _; rw [HP1.out, if_neg (fun q => absurd q.1 (by decide))]; simp [becL]
    go_enter Tryz.func87, Tryz.ntmps87
    go_wp2_with fail
    go_quiet (fail)
    go_wp2_with fail
    go_region
    go_wp2_with fail
    go_end0
    exact ⟨rfl, by rw [HN.out]; exact (HAE.out.drewN _).drew.set aa ha4' _, (HEE.out.drewN _).drew.set _ _⟩
  · cases hse : (V aa == ss) with
    | true =>
      have hsn : (V aa != ss) = false := by simp [bne, hse]
      have HN : Hid (playL es V [i] = (-1, upd V aa (wrap32 (ss + vv)))) := by show _ = _; rw [HP1.out, if_neg (fun q => q.2 (by simpa using hse))]; simp [becL]
      clear hse
      go_enter Tryz.func87, Tryz.ntmps87
      go_wp2_with fail
      go_quiet (fail)
      go_wp2_with fail
      go_region
      go_wp2_with fail
      go_end0
      exact ⟨rfl, by rw [HN.out]; exact (HAE.out.drewN _).drew.set aa ha4' _, (HEE.out.drewN _).drew.set _ _⟩
    | false =>
      have hsn : (V aa != ss) = true := by simp [bne, hse]
      have HN : Hid (playL es V [i] = ((i : Int), V)) := by show _ = _; rw [HP1.out, if_pos ⟨rfl, by simpa using hse⟩]
      clear hse
      go_enter Tryz.func87, Tryz.ntmps87
      go_wp2_with fail
      go_quiet (fail)
      go_wp2_with fail
      go_end0
      exact ⟨rfl, by rw [HN.out]; exact (HAE.out.drewN _).setWrong _, (HEE.out.drewN _).set _ _⟩

end Go.Proofs.YtfdalbmopaemgaaGreatDoor
