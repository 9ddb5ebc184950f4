import Derived.Test.YtfdalbmopaemgabGreatDoorL1
namespace Go.Proofs.YtfdalbmopaemgabGreatDoor
open Go.RowKit

theorem addp (b off j : Nat) : (⟨b, off, none⟩ : Addr).add j = ⟨b, off + j, none⟩ := by unfold Addr.add; split <;> simp_all

theorem evs_cells {w : World} {b off : Nat} {es : List Ev} (h : EvsAt w b off es) : ∀ j v, (evCells es)[j]? = some v → w.cell? ((⟨b, off, none⟩ : Addr).add j) = some v := by
  intro j v hj
  have hlen := (List.getElem?_eq_some_iff.1 hj).1
  rw [evCells_length] at hlen
  have hi : j / 5 < es.length := by omega
  have hdm : j = j / 5 * 5 + j % 5 := by omega
  have hf : j % 5 < 5 := Nat.mod_lt _ (by decide)
  rw [hdm, evCells_at es (j / 5) hi (j % 5) hf] at hj
  rw [addp]
  have he := h (j / 5) hi
  have hc : j % 5 = 0 ∨ j % 5 = 1 ∨ j % 5 = 2 ∨ j % 5 = 3 ∨ j % 5 = 4 := by omega
  have hoff : off + j = off + j / 5 * 5 + j % 5 := by omega
  rw [hoff]
  rcases hc with hc | hc | hc | hc | hc <;> rw [hc] at hj ⊢ <;> simp [evC] at hj <;> subst hj
  · exact he.c0
  · exact he.c1
  · exact he.c2
  · exact he.c3
  · exact he.c4

theorem evCells_one (es : List Ev) : ∀ u ∈ evCells es, u.oneCell' = true := by
  induction es with
  | nil => intro u hu; cases hu
  | cons e l ih =>
    intro u hu
    simp only [evCells, List.mem_append] at hu
    rcases hu with hu | hu
    · exact evC_one e u hu
    · exact ih u hu

theorem Tryz.sizeEv : (Tryz.prog.info? 45).map (·.size) = some 5 := by kernel_rfl

theorem wpList_copy_evs {w : World} {ops : Array Oper} {rest : List Oper} {o : Oper} {a : Act} {Q : Exit → Act → World → Prop} (hgd : o.guard = none) (d s : Operand)
    (ho : o.op = .call { callee := .builtin .copy, args := #[d, s], argTypes := #[31, 31] }) (g cap : Nat) (v : Value) (es : List Ev)
    (hd : a.eval d = .slice (some ⟨g, 0, none⟩) cap cap) (hs : a.eval s = v) (hsl : SlEv w v es) (hrow : Row w g cap []) (hle : es.length ≤ cap)
    (h : ∀ w', Row w' g cap es → w.grownBy w' (some g) → wpList Tryz.prog ops Q rest (a.put o.dst (goInt es.length)) w') : wpList Tryz.prog ops Q (o :: rest) a w := by
  refine wpList_plain hgd fun K hK => ?_
  rcases hsl with ⟨rfl, ad, c, rfl⟩ | ⟨b, off, c, rfl, _, hev⟩
  · have hrun := run_copy_nonek (P := Tryz.prog) w 31 31 o.type 45 (some ⟨g, 0, none⟩) ad cap cap c Tryz.underlying31 Tryz.sizeEv
    unfold Oper.wp
    simp [execOp, ho, resolve, invoke, builtin, hd, hs, hrun, Result.andThen]
    exact hK _ _ (h w hrow (World.grownBy.refl w _))
  · obtain ⟨cur, h1, h2, h3, h4, h5⟩ := hrow
    have hlen := evCells_length es
    have hrun := run_copy_rowk (P := Tryz.prog) w 31 31 o.type 45 g 0 cap cap ⟨b, off, none⟩ es.length c cur 45 (evCells es) 5 es.length Tryz.underlying31 Tryz.sizeEv h1 (Nat.min_eq_left hle) hlen (evs_cells hev) (by rw [hlen, h2]; omega) (evCells_one es)
    unfold Oper.wp
    simp [execOp, ho, resolve, invoke, builtin, hd, hs, hrun, Result.andThen]
    refine hK _ _ (h _ ⟨_, setRow_heap w g cur _ _ _ h1, ?_, hle, h4, ?_⟩ ⟨rfl, rfl, rfl, by simp [World.setRow], fun k _ hk => setRow_other w g k _ (fun e => hk (by rw [e]))⟩)
    · simp [hlen, h2]
      omega
    · rw [← hlen]
      exact List.take_left

theorem Row.grown {w w' : World} {g cap : Nat} {L : List Ev} {row : Option Nat} (h : Row w g cap L) (hg : w.grownBy w' row) (hne : some g ≠ row) : Row w' g cap L := h.of_heap (hg.block g h.lt hne)

theorem below_grownBy {w w' : World} {B g : Nat} (h : w.grownBy w' (some g)) (hg : B ≤ g) (hB : B ≤ w.heap.size) : Below B w w' :=
  ⟨h.os, h.tape, h.output, h.size, fun k hk => h.block k (Nat.lt_of_lt_of_le hk hB) (by intro e; cases e; omega)⟩

/-! ### handed -/
def HandPost (w : World) (es : List Ev) (r : Ending) (w' : World) : Prop :=
  ∃ g, r = .returned (.slice (some ⟨g, 0, none⟩) (es.length + 8) (es.length + 8)) ∧ w.heap.size ≤ g ∧ Row w' g (es.length + 8) (es ++ List.replicate 8 byEv) ∧ Below w.heap.size w w'

set_option maxRecDepth 100000 in
set_option maxHeartbeats 1000000 in
theorem handed_any (v : Value) (es : List Ev) (w : World) (hs : SlEv w v es) (hm : es.length ≤ 1048576) :
    Calls Tryz.prog 18 #[v] w (HandPost w es) := by
  obtain ⟨a0, c0, hv⟩ : ∃ a0 c0, v = .slice a0 es.length c0 := by
    rcases hs with ⟨rfl, a, c, rfl⟩ | ⟨b, off, c, rfl, _, _⟩
    · exact ⟨a, c, rfl⟩
    · exact ⟨_, c, rfl⟩
  subst hv
  have HS := hidIt hs
  clear hs
  obtain ⟨i0, hi, hz0, hz1, hz2⟩ := info_parts Tryz.infoEv
  have HI := hidIt hi
  have HZ0 := hidIt hz0
  have HZ1 := hidIt hz1
  have HZ2 := hidIt hz2
  clear hi hz0 hz1 hz2
  have hl0 : (0 : Int) ≤ (es.length : Int) := by omega
  go_enter Tryz.func18, Tryz.ntmps18
  go_wp2_with (at_make; refine wpList_make_full _ rfl _ _ 31 rfl w.heap.size 45 i0 (.agg #[.int .u8 0, .int .u8 0, .int .u8 0, .int .i32 0, .int .i32 0]) 5 Tryz.underlying31 HI.out HZ0.out HZ1.out .i64 .i64 _ _ (es.length + 8) rfl rfl ?c1 ?c2 ?c3 ?c4 (Nat.le_refl _) ?_)
  case c1 => simp
  case c2 => simp
  case c3 => rw [HZ2.out]; omega
  case c4 => unfold maxLen; omega
  intro w1 hown hgrow
  have hrow1 : Row w1 w.heap.size (es.length + 8) [] := by
    rcases hown.2 with ⟨h, _⟩ | ⟨g, cap, cur, h, _, h2, h3, h4, h5, h6⟩
    · cases h
    · simp only [Value.slice.injEq, Option.some.injEq, Addr.mk.injEq, true_and, and_true] at h
      obtain ⟨rfl, rfl⟩ := h
      exact ⟨cur, h2, h5, by simp, h4, by simp [evCells]⟩
  have hb1 : Below w.heap.size w w1 := ⟨hgrow.os, hgrow.tape, hgrow.output, hgrow.size, fun k hk => hgrow.block k hk (by intro e; cases e)⟩
  have HS1 := hidIt (HS.out.below hb1)
  clear hown hgrow
  go_wp2_with (refine wpList_copy_evs rfl _ _ rfl w.heap.size (es.length + 8) _ es rfl rfl HS1.out hrow1 (by omega) ?_)
  intro w2 hrow2 hgrow2
  have hb2 : Below w.heap.size w w2 := hb1.trans (below_grownBy hgrow2 (Nat.le_refl _) hb1.size)
  clear hgrow2 hrow1 HS1
  go_wp2_with fail
  go_loopw [4] (fun i wr => ∃ k : Nat, k ≤ 8 ∧ i = .int .i64 k ∧ Row wr w.heap.size (es.length + 8) (es ++ List.replicate k byEv) ∧ Below w.heap.size w wr) (fun i _ => 8 - (intOf i).toNat)
  case atStart => exact ⟨0, by omega, rfl, by simpa using hrow2, hb2⟩
  case round =>
    obtain ⟨k, hk, rfl, hrow, hnx⟩ := hrel
    by_cases hlt : k < 8
    · have hlt' : (k : Int) < 8 := by omega
      have hk0 : (0 : Int) ≤ (k : Int) := by omega
      have hlen : (es ++ List.replicate k byEv).length = es.length + k := by simp
      have hg := hrow.lt
      go_wp2_with (go_at_call 44; refine (beyond_any _).mono ?_; rintro r w3 ⟨rfl, hb3⟩; have hrow3 := hrow.below hb3 hg; obtain ⟨⟨x0, t0⟩, f0⟩ := hrow3.there ((es.length + k) * 5) (by omega); obtain ⟨⟨x1, t1⟩, f1⟩ := hrow3.there ((es.length + k) * 5 + 1) (by omega); obtain ⟨⟨x2, t2⟩, f2⟩ := hrow3.there ((es.length + k) * 5 + 2) (by omega); obtain ⟨⟨x3, t3⟩, f3⟩ := hrow3.there ((es.length + k) * 5 + 3) (by omega); obtain ⟨⟨x4, t4⟩, f4⟩ := hrow3.there ((es.length + k) * 5 + 4) (by omega))
      have hrow4 := hrow3.store (by rw [hlen]; omega) byEv
      rw [hlen, List.append_assoc, ← List.replicate_succ'] at hrow4
      have hb4 := store5_below (hnx.trans (hb3.mono hnx.size)) w.heap.size ((es.length + k) * 5) byEv (Nat.le_refl _)
      go_roundw
      case rel => exact ⟨k + 1, by omega, by go_num, hrow4, hb4⟩
      case measure => simp [intOf]; omega
    · have hge : ¬ (k : Int) < 8 := by omega
      have hke : k = 8 := by omega
      subst hke
      go_wp2_with fail
      go_ret
      exact ⟨w.heap.size, rfl, Nat.le_refl _, hrow, hnx⟩

/-! ### still -/
theorem Row.slEv {w : World} {g cap c : Nat} {L : List Ev} (h : Row w g cap L) : SlEv w (.slice (some ⟨g, 0, none⟩) L.length c) L := Or.inr ⟨g, 0, c, rfl, h.lt, h.evs⟩

set_option maxRecDepth 100000 in
set_option maxHeartbeats 1000000 in
theorem still_any (v : Value) (es : List Ev) (g : Nat) (w : World) (hs : SlEv w v es) (hm : es.length ≤ 1048576) (hrow : Row w g (es.length + 8) (es ++ List.replicate 8 byEv)) :
    Calls Tryz.prog 21 #[.slice (some ⟨g, 0, none⟩) (es.length + 8) (es.length + 8), v] w fun r w' => r = .returned (.bool true) ∧ Below w.heap.size w w' := by
  obtain ⟨a0, c0, hv⟩ : ∃ a0 c0, v = .slice a0 es.length c0 := by
    rcases hs with ⟨rfl, a, c, rfl⟩ | ⟨b, off, c, rfl, _, _⟩
    · exact ⟨a, c, rfl⟩
    · exact ⟨_, c, rfl⟩
  subst hv
  have HS := hidIt hs
  have HS2 := hidIt ((Row.prefix hrow).slEv (c := es.length + 8))
  have hev := hrow.evs
  have HEV := hidIt hev
  have hlt := hrow.lt
  clear hs hev
  have hl0 : (0 : Int) ≤ (es.length : Int) := by omega
  have hl1 : (es.length : Int) ≤ ((es.length + 8 : Nat) : Int) := by omega
  go_enter Tryz.func21, Tryz.ntmps21
  go_wp2_with fail
  refine (same_all _ _ es _ HS2.out HS.out (by omega)).mono ?_
  rintro r w1 ⟨rfl, n1, rfl⟩
  go_wp2_with fail
  refine (beyond_any _).mono ?_
  rintro r w2 ⟨rfl, hb2⟩
  have hb2' : Below w.heap.size w w2 := by
    have := below_drewN (Below.refl w.heap.size w) n1
    exact this.trans hb2
  go_wp2_with fail
  go_loopw [6, 8] (fun s i wr => ∃ k : Nat, es.length ≤ k ∧ k ≤ es.length + 8 ∧ i = .int .i64 k ∧ s = .bool true ∧ ∃ n, wr = (w2.alloc (.cells #[.int .u8 byEv.k, .int .u8 byEv.t, .int .u8 byEv.a, .int .i32 byEv.v, .int .i32 byEv.s] 45)).drewN n) (fun _ i _ => es.length + 8 - (intOf i).toNat)
  case atStart => exact ⟨es.length, Nat.le_refl _, by omega, rfl, rfl, 0, rfl⟩
  case round =>
    obtain ⟨k, hk1, hk2, rfl, rfl, n, rfl⟩ := hrel
    by_cases hlk : k < es.length + 8
    · have hlk' : (k : Int) < (es.length : Int) + 8 := by omega
      have hk0 : (0 : Int) ≤ (k : Int) := by omega
      have he : (es ++ List.replicate 8 byEv)[k]'(by simp; omega) = byEv := by
        rw [List.getElem_append_right hk1, List.getElem_replicate]
      have h5 := HEV.out k (by simp; omega)
      rw [he] at h5
      obtain ⟨x0, x1, x2, x3, x4⟩ := h5.below hlt (hb2'.alloc hb2'.size (.cells #[.int .u8 byEv.k, .int .u8 byEv.t, .int .u8 byEv.a, .int .i32 byEv.v, .int .i32 byEv.s] 45))
      simp only [Nat.zero_add] at x0 x1 x2 x3 x4
      go_wp2_with fail
      go_quiet (fail)
      go_wp2_with fail
      go_roundw
      case rel => exact ⟨k + 1, by omega, by omega, by go_num, rfl, _, rfl⟩
      case measure => simp [intOf]; omega
    · have hge : ¬ (k : Int) < (es.length : Int) + 8 := by omega
      go_wp2_with fail
      go_ret
      refine ⟨ret_bool (by simp), ?_⟩
      exact below_drewN (hb2'.alloc hb2'.size _) n

end Go.Proofs.YtfdalbmopaemgabGreatDoor
