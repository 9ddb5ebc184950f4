import Derived.Test.YtfdalbmopaemgabGreatDoorL3
namespace Go.Proofs.YtfdalbmopaemgabGreatDoor
open Go.RowKit

theorem Tryz.infoHold : (Tryz.prog.info? 43).map (fun i => (i.zero, i.size, i.bytes)) = some (some (.agg #[.slice none 0 0, .int .i32 0]), 2, 32) := by kernel_rfl

theorem app_cell {w w' : World} {B wb : Nat} {hv hv' : Value} {hs : List (Value × Int)} (h : Inv w B wb hv hs) (ha : AppPost w w' hv hv') : w'.cell? ⟨wb, 1, none⟩ = some hv ∧ w'.frozen? ⟨wb, 1, none⟩ = false := by
  have hwb' : w'.heap[wb]? = w.heap[wb]? := by
    rcases ha with ⟨g, e1, _, hg⟩ | ⟨g, _, _, hg⟩
    · exact hg.block wb h.wb_lt (fun e => h.far (by rw [e1, e]))
    · exact hg.block wb h.wb_lt (by intro e; cases e)
  exact ⟨by rw [World.cell?_of_block (a := ⟨wb, 1, none⟩) hwb']; exact h.cell, by rw [World.frozen?_of_block (a := ⟨wb, 1, none⟩) hwb']; exact h.froz⟩

theorem below_app {w0 w w' : World} {B : Nat} {v v' : Value} (hb : Below B w0 w) (ha : AppPost w w' v v') (hv : ∀ g, v.ownBlock = some g → B ≤ g) (hB : B ≤ w.heap.size) : Below B w0 w' := by
  rcases ha with ⟨g, e1, _, hg⟩ | ⟨g, _, _, hg⟩
  · exact hb.trans (below_grownBy hg (hv g e1) hB)
  · exact hb.trans ⟨hg.os, hg.tape, hg.output, hg.size, fun k hk => hg.block k (Nat.lt_of_lt_of_le hk hB) (by intro e; cases e)⟩

theorem Inv.form {w : World} {B wb : Nat} {hv : Value} {hs : List (Value × Int)} (h : Inv w B wb hv hs) : ∃ a c, hv = .slice a hs.length c := by
  rcases h.row.2 with ⟨rfl, h0⟩ | ⟨g, cap, cur, rfl, _⟩
  · exact ⟨none, 0, by rw [h0]⟩
  · exact ⟨_, cap, rfl⟩

theorem hold_new (w1 : World) (T : TypeId) (lv : Value) (m : Int) : ∀ j u, ([lv, .int .i32 m] : List Value)[j]? = some u → (w1.alloc (.cells #[lv, .int .i32 m] T)).cell? ((⟨w1.heap.size, 0, none⟩ : Addr).add j) = some u := by
  intro j u hj
  rw [addp]
  have hlt : j < 2 := by
    have := (List.getElem?_eq_some_iff.1 hj).1
    simpa using this
  have hc : j = 0 ∨ j = 1 := by omega
  rcases hc with rfl | rfl <;> simp at hj <;> subst hj <;> simp [go_sem]

theorem evC_new1 (w1 : World) (T : TypeId) (ev : Ev) : ∀ j u, (evC ev)[j]? = some u → (w1.alloc (.cells #[.int .u8 ev.k, .int .u8 ev.t, .int .u8 ev.a, .int .i32 ev.v, .int .i32 ev.s] T)).cell? ((⟨w1.heap.size, 0, none⟩ : Addr).add j) = some u := by
  intro j u hj
  rw [addp]
  have hlt : j < 5 := by
    have := (List.getElem?_eq_some_iff.1 hj).1
    simpa [evC] using this
  have hc : j = 0 ∨ j = 1 ∨ j = 2 ∨ j = 3 ∨ j = 4 := by omega
  rcases hc with rfl | rfl | rfl | rfl | rfl <;> simp [evC] at hj <;> subst hj <;> simp [go_sem]

theorem own_one_cell {w : World} {B : Nat} {v : Value} {es : List Ev} (h : Own w B v es) : v.oneCell' = true := by
  obtain ⟨a, c, rfl⟩ := h.form
  rfl

theorem hold_cells_one (lv : Value) (m : Int) (h : lv.oneCell' = true) : ∀ u ∈ ([lv, .int .i32 m] : List Value), u.oneCell' = true := by
  intro u hu
  simp at hu
  rcases hu with rfl | rfl
  · exact h
  · rfl

theorem ownsRow_form {w : World} {b : Nat} {e : TypeId} {size : Nat} {v : Value} {n : Nat} {xs : List Value} (h : w.ownsRow b e size v n xs) : ∃ a c, v = .slice a n c := by
  rcases h.2 with ⟨rfl, h0⟩ | ⟨g, cap, cur, rfl, _⟩
  · exact ⟨none, 0, by rw [h0]⟩
  · exact ⟨_, cap, rfl⟩

def KeepPost (w : World) (B wb : Nat) (H : Nat) (r : Ending) (w' : World) : Prop :=
  r = .returned (.tuple #[]) ∧ ∃ hv' hs', Inv w' B wb hv' hs' ∧ hs'.length = H + 4 ∧ Below B w w'

def Loop2 (w : World) (B wb mb : Nat) (H n : Nat) (mark : Int) (j : Nat) (l : Value) (wr : World) : Prop :=
  ∃ hv hs, Inv wr B wb hv hs ∧ LInv wr B wb mb hv hs l (n + j) mark ∧ hs.length = H + 1 + j ∧ Below B w wr ∧ B ≤ wr.heap.size

set_option maxRecDepth 100000 in
set_option maxHeartbeats 2000000 in
theorem keep_row (B wb : Nat) (hv : Value) (hs : List (Value × Int)) (g cap : Nat) (es : List Ev) (w : World) (h : Inv w B wb hv hs) (hrow : Row w g cap es) (hBg : B ≤ g) (hgw : g ≠ wb) (hgv : hv.ownBlock ≠ some g)
    (hgx : ∀ x ∈ hs, x.1.ownBlock ≠ some g) (hn : es.length ≤ 2097152) (hH : hs.length ≤ 10000000) :
    Calls Tryz.prog 22 #[.pointer (some ⟨wb, 0, none⟩), .slice (some ⟨g, 0, none⟩) es.length cap] w (KeepPost w B wb hs.length) := by
  obtain ⟨ha, hc, hvf⟩ := h.form
  have c1 := h.cell
  rw [hvf] at c1
  have HV := hidIt hvf
  have HI := hidIt h
  have HR := hidIt hrow
  obtain ⟨mark, hmark⟩ : ∃ m : Int, (hs.length : Int) + 1 = m := ⟨_, rfl⟩
  have hm0 : 0 ≤ mark := by omega
  have hm1 : mark ≤ 1073741824 := by omega
  have HM := hidIt hmark
  have hBw : B ≤ w.heap.size := Nat.le_trans h.base (Nat.le_of_lt h.wb_lt)
  have HBW := hidIt hBw
  have hcapn := hidIt (show es.length ≤ cap from by obtain ⟨cur, _, _, h3, _⟩ := hrow; exact h3)
  clear hvf h hrow
  go_enter Tryz.func22, Tryz.ntmps22
  go_wp2_with fail
  clear hmark
  refine (marked_any mark _ hm0 hm1).mono ?_
  rintro r w1 ⟨rfl, hb1⟩
  clear c1
  have hmem : EvAt (w1.alloc (.cells #[.int .u8 (mkEv mark).k, .int .u8 (mkEv mark).t, .int .u8 (mkEv mark).a, .int .i32 (mkEv mark).v, .int .i32 (mkEv mark).s] 45)) w1.heap.size 0 (mkEv mark) := ⟨by simp [go_sem], by simp [go_sem], by simp [go_sem], by simp [go_sem], by simp [go_sem]⟩
  have hb1' : Below w.heap.size w (w1.alloc (.cells #[.int .u8 (mkEv mark).k, .int .u8 (mkEv mark).t, .int .u8 (mkEv mark).a, .int .i32 (mkEv mark).v, .int .i32 (mkEv mark).s] 45)) := hb1.alloc hb1.size _
  have hglt := HR.out.lt
  have hgm : g ≠ w1.heap.size := by have := hb1.size; omega
  go_wp2_with fail
  go_loopw [6] (fun i wr => ∃ k : Nat, k ≤ es.length ∧ i = .int .i64 k ∧ Row wr g cap (List.replicate k (mkEv mark)) ∧ Inv wr B wb hv hs ∧ EvAt wr w1.heap.size 0 (mkEv mark) ∧ w1.heap.size < wr.heap.size ∧ Below B w wr) (fun i _ => es.length - (intOf i).toNat)
  case atStart => exact ⟨0, by omega, rfl, Row.prefix (L := []) (M := es) (HR.out.below hb1' hglt), HI.out.below hb1', hmem, by simp, hb1'.mono HBW.out⟩
  case round =>
    obtain ⟨k, hk, rfl, hrow, hinv, hme, hmlt, hnx⟩ := hrel
    by_cases hlt : k < es.length
    · have hlt' : (k : Int) < (es.length : Int) := by omega
      have hk0 : (0 : Int) ≤ (k : Int) := by omega
      have hcap := hcapn.out
      obtain ⟨m0, m1, m2, m3, m4⟩ := hme
      simp only [Nat.zero_add] at m1 m2 m3 m4
      obtain ⟨⟨x0, t0⟩, f0⟩ := hrow.there (k * 5) (by omega)
      obtain ⟨⟨x1, t1⟩, f1⟩ := hrow.there (k * 5 + 1) (by omega)
      obtain ⟨⟨x2, t2⟩, f2⟩ := hrow.there (k * 5 + 2) (by omega)
      obtain ⟨⟨x3, t3⟩, f3⟩ := hrow.there (k * 5 + 3) (by omega)
      obtain ⟨⟨x4, t4⟩, f4⟩ := hrow.there (k * 5 + 4) (by omega)
      have hrow4 := hrow.store (by simp; omega) (mkEv mark)
      rw [List.length_replicate, ← List.replicate_succ'] at hrow4
      have hb4 := store5_below hnx g (k * 5) (mkEv mark) hBg
      have hoth : ∀ j, j ≠ g → (store5 wr g (k * 5) (mkEv mark)).heap[j]? = wr.heap[j]? := fun j hj => store5_other wr g (k * 5) (mkEv mark) j hj
      have hinv4 : Inv (store5 wr g (k * 5) (mkEv mark)) B wb hv hs := hinv.stay (by rw [store5_size]; exact Nat.le_refl _) (hoth wb (Ne.symm hgw)) (fun j hj => hoth j (fun e => hgv (by rw [hj, e]))) (fun x hx j hj => hoth j (fun e => hgx x hx (by rw [hj, e])))
      have hme4 : EvAt (store5 wr g (k * 5) (mkEv mark)) w1.heap.size 0 (mkEv mark) := EvAt.of_heap ⟨m0, m1, m2, m3, m4⟩ (hoth w1.heap.size (Ne.symm hgm))
      have hsz4 : w1.heap.size < (store5 wr g (k * 5) (mkEv mark)).heap.size := by rw [store5_size]; exact hmlt
      have HALL := hidIt (And.intro hrow4 (And.intro hinv4 (And.intro hme4 (And.intro hsz4 hb4))))
      clear hrow4 hinv4 hme4 hsz4 hb4 hoth
      go_wp2_with fail
      go_roundw
      case rel => exact ⟨k + 1, by omega, by go_num, HALL.out.1, HALL.out.2.1, HALL.out.2.2.1, HALL.out.2.2.2.1, HALL.out.2.2.2.2⟩
      case measure => simp [intOf]; omega
    · have hge : ¬ (k : Int) < (es.length : Int) := by omega
      have hke : k = es.length := by omega
      subst hke
      obtain ⟨i1, hi, hz0, hz1, hz2⟩ := info_parts Tryz.infoHold
      have HI1 := hidIt hi
      have HY0 := hidIt hz0
      have HY1 := hidIt hz1
      have HY2 := hidIt hz2
      clear hi hz0 hz1 hz2
      have hown0 := hrow.own B hBg
      rw [List.length_replicate] at hown0
      have hl : LInv wr B wb w1.heap.size hv hs (.slice (some ⟨g, 0, none⟩) es.length cap) es.length mark :=
        ⟨hown0, fun e => hgw (by simpa [Value.ownBlock] using e), fun e => hgm (by simpa [Value.ownBlock] using e), fun k hk e => hgv (by rw [e, ← hk]; rfl),
         fun e => by have := (HI.out.hv_lt _ e).2; have := hb1.size; omega, fun e => by have := HI.out.wb_lt; have := hb1.size; omega, hmlt, hme,
         fun x hx k hk hk' => absurd (by rw [hk, ← hk']; rfl) (hgx x hx)⟩
      have c1 := hinv.cell
      rw [HV.out] at c1
      have hBr : B ≤ wr.heap.size := Nat.le_trans hinv.base (Nat.le_of_lt hinv.wb_lt)
      have HIN := hidIt hinv
      have HL := hidIt hl
      clear hinv hl hown0 hrow hme
      go_wp2_with (at_builtin; refine wpList_append_two _ rfl _ _ 28 rfl B 43 i1 (.agg #[.slice none 0 0, .int .i32 0]) 2 32 Tryz.underlying28 HI1.out HY0.out HY1.out HY2.out rfl (by decide) hv hs.length (holdCells hs) HV.out.symm (HIN.out.below ((Below.refl _ _).alloc (Nat.le_refl _) _)).row ⟨wr.heap.size, 0, none⟩ 1 1 [.slice (some ⟨g, 0, none⟩) es.length cap, .int .i32 mark] rfl rfl (hold_new wr _ _ _) ?c1 (by decide) ?c3 ?c4 ?c5 ?_)
      case c1 => exact ⟨rfl, rfl⟩
      case c3 => unfold maxLen; omega
      case c4 => omega
      case c5 => first | omega | (simp; omega)
      intro hv' w2 hown2 happ2
      obtain ⟨a', c', rfl⟩ := ownsRow_form hown2
      have hI2 := HIN.out.below ((Below.refl wr.heap.size wr).alloc (Nat.le_refl _) (.cells #[.slice (some ⟨g, 0, none⟩) es.length cap, .int .i32 mark] 43))
      have hL2 := HL.out.below ((Below.refl wr.heap.size wr).alloc (Nat.le_refl _) (.cells #[.slice (some ⟨g, 0, none⟩) es.length cap, .int .i32 mark] 43))
      obtain ⟨k1, k2⟩ := app_cell hI2 happ2
      have hb2 := below_app (hnx.alloc hBr (.cells #[.slice (some ⟨g, 0, none⟩) es.length cap, .int .i32 mark] 43)) happ2 (fun j hj => (HIN.out.hv_lt j hj).1) (by simp; omega)
      obtain ⟨s1, s2⟩ := step_holds hI2 hL2 hm0 hm1 (by omega) hown2 happ2
      have HSS : Hid (Loop2 w B wb w1.heap.size hs.length es.length mark 0 (.slice (some ⟨g, 0, none⟩) es.length cap) (w2.setCell ⟨wb, 1, none⟩ (.slice a' (hs.length + 1) c'))) :=
        ⟨_, _, s1, s2, by simp, hb2.setCell (p := ⟨wb, 1, none⟩) HIN.out.base _, Nat.le_trans s1.base (Nat.le_of_lt s1.wb_lt)⟩
      clear hI2 hL2 hb2 s1 s2 hown2 happ2 c1
      go_wp2_with fail
      go_loopw [1, 7] (fun l i wr => ∃ j : Nat, j ≤ 3 ∧ i = .int .i64 j ∧ Loop2 w B wb w1.heap.size hs.length es.length mark j l wr) (fun _ i _ => 3 - (intOf i).toNat)
      case atStart => exact ⟨0, by omega, rfl, HSS.out⟩
      case round =>
        clear HSS k1 k2
        obtain ⟨j, hj, rfl, hvj, hsj, hij, hlj, hlen, hbj, hBj⟩ := hrel
        have HLEN := hidIt hlen
        have hlenb : hsj.length ≤ 10000004 := by omega
        clear hlen
        by_cases hlt3 : j < 3
        · have hlt3' : (j : Int) < 3 := by omega
          obtain ⟨i0, hi, hz0, hz1, hz2⟩ := info_parts Tryz.infoEv
          have HI0 := hidIt hi
          have HX0 := hidIt hz0
          have HX1 := hidIt hz1
          have HX2 := hidIt hz2
          clear hi hz0 hz1 hz2
          obtain ⟨m0, m1, m2, m3, m4⟩ := hlj.mcell
          simp only [Nat.zero_add] at m1 m2 m3 m4
          have HIJ := hidIt hij
          have HLJ := hidIt hlj
          clear hij hlj
          go_wp2_with (at_builtin; refine wpList_append_two _ rfl _ _ 31 rfl B 45 i0 (.agg #[.int .u8 0, .int .u8 0, .int .u8 0, .int .i32 0, .int .i32 0]) 5 12 Tryz.underlying31 HI0.out HX0.out HX1.out HX2.out rfl (by decide) _ _ _ rfl (HLJ.out.below ((Below.refl _ _).alloc (Nat.le_refl _) _)).own _ 1 1 (evC (mkEv mark)) rfl rfl (evC_new1 _ _ _) ?d1 (by decide) ?d3 ?d4 ?d5 ?_)
          case d1 => exact evC_one _
          case d3 => unfold maxLen; simp; omega
          case d4 => simp; omega
          case d5 => simp; omega
          intro lv' w3 hown3 happ3
          have hI3 := HIJ.out.below ((Below.refl wr.heap.size wr).alloc (Nat.le_refl _) (.cells #[.int .u8 (mkEv mark).k, .int .u8 (mkEv mark).t, .int .u8 (mkEv mark).a, .int .i32 (mkEv mark).v, .int .i32 (mkEv mark).s] 45))
          have hL3 := HLJ.out.below ((Below.refl wr.heap.size wr).alloc (Nat.le_refl _) (.cells #[.int .u8 (mkEv mark).k, .int .u8 (mkEv mark).t, .int .u8 (mkEv mark).a, .int .i32 (mkEv mark).v, .int .i32 (mkEv mark).s] 45))
          have howne : Own w3 B lv' (List.replicate (es.length + j + 1) (mkEv mark)) := by
            unfold Own
            rw [List.replicate_succ', evCells_append, List.length_append, List.length_replicate]
            simpa [evCells] using hown3
          have hb3 := below_app (hbj.alloc hBj (.cells #[.int .u8 (mkEv mark).k, .int .u8 (mkEv mark).t, .int .u8 (mkEv mark).a, .int .i32 (mkEv mark).v, .int .i32 (mkEv mark).s] 45)) happ3 (fun g hg => (World.ownsRow.lt HLJ.out.own g hg).1) (by simp; omega)
          obtain ⟨q1, q2⟩ := step_list hI3 hL3 (by omega) howne happ3
          obtain ⟨la, lc, rfl⟩ := ownsRow_form hown3
          obtain ⟨hja, hjc, rfl⟩ := q1.form
          have c3 := q1.cell
          have hB3 : B ≤ w3.heap.size := Nat.le_trans q1.base (Nat.le_of_lt q1.wb_lt)
          have HQ1 := hidIt q1
          have HQ2 := hidIt q2
          clear hI3 hL3 howne hown3 happ3 q1 q2 m0 m1 m2 m3 m4
          go_wp2_with (at_builtin; refine wpList_append_two _ rfl _ _ 28 rfl B 43 i1 (.agg #[.slice none 0 0, .int .i32 0]) 2 32 Tryz.underlying28 HI1.out HY0.out HY1.out HY2.out rfl (by decide) _ _ _ rfl (HQ1.out.below ((Below.refl _ _).alloc (Nat.le_refl _) _)).row _ 1 1 [.slice la (es.length + j + 1) lc, .int .i32 mark] rfl rfl (hold_new w3 _ _ _) ?e1 (by decide) ?e3 ?e4 ?e5 ?_)
          case e1 => exact hold_cells_one (.slice la (es.length + j + 1) lc) mark rfl
          case e3 => unfold maxLen; omega
          case e4 => omega
          case e5 => first | omega | (simp; omega)
          intro hv4 w4 hown4 happ4
          obtain ⟨a4, c4, rfl⟩ := ownsRow_form hown4
          have hI4 := HQ1.out.below ((Below.refl w3.heap.size w3).alloc (Nat.le_refl _) (.cells #[.slice la (es.length + j + 1) lc, .int .i32 mark] 43))
          have hL4 := HQ2.out.below ((Below.refl w3.heap.size w3).alloc (Nat.le_refl _) (.cells #[.slice la (es.length + j + 1) lc, .int .i32 mark] 43))
          obtain ⟨k1, k2⟩ := app_cell hI4 happ4
          have hb4 := below_app (hb3.alloc hB3 (.cells #[.slice la (es.length + j + 1) lc, .int .i32 mark] 43)) happ4 (fun g hg => (HQ1.out.hv_lt g hg).1) (by simp; omega)
          obtain ⟨s1, s2⟩ := step_holds hI4 hL4 hm0 hm1 (by omega) hown4 happ4
          have HSS : Hid (Loop2 w B wb w1.heap.size hs.length es.length mark (j + 1) (.slice la (es.length + j + 1) lc) (w4.setCell ⟨wb, 1, none⟩ (.slice a4 (hsj.length + 1) c4))) :=
            ⟨_, _, s1, s2, by rw [List.length_append, HLEN.out]; rfl, hb4.setCell (p := ⟨wb, 1, none⟩) HQ1.out.base _, Nat.le_trans s1.base (Nat.le_of_lt s1.wb_lt)⟩
          clear hI4 hL4 hb4 s1 s2 hown4 happ4 c3
          go_wp2_with fail
          go_roundw
          case rel => exact ⟨j + 1, by omega, by go_num, HSS.out⟩
          case measure => simp [intOf]; omega
        · have hge3 : ¬ (j : Int) < 3 := by omega
          have hj3 : j = 3 := by omega
          subst hj3
          go_wp2_with fail
          go_end0
          exact ⟨rfl, hvj, hsj, hij, by rw [HLEN.out], hbj⟩

/-! ### looks -/
theorem hold_at {w : World} {B wb : Nat} {hv : Value} {hs : List (Value × Int)} (h : Inv w B wb hv hs) (i : Nat) (hi : i < hs.length) : ∃ gh c, hv = .slice (some ⟨gh, 0, none⟩) hs.length c ∧ gh < w.heap.size ∧ w.cell? ⟨gh, i * 2, none⟩ = some hs[i].1 ∧ w.cell? ⟨gh, i * 2 + 1, none⟩ = some (.int .i32 hs[i].2) := by
  rcases h.row.2 with ⟨_, h0⟩ | ⟨g, cap, cur, hv', h1, h2, _⟩
  · omega
  · have hc := World.ownsRow.cells h.row (g := g) (by rw [hv']; rfl)
    obtain ⟨a1, a2⟩ := holdCells_at hs i hi
    refine ⟨g, cap, hv', (Array.getElem?_eq_some_iff.1 h2).1, ?_, ?_⟩
    · have := hc _ _ a1
      rw [addp] at this
      simpa using this
    · have := hc _ _ a2
      rw [addp] at this
      simpa using this

set_option maxRecDepth 100000 in
set_option maxHeartbeats 2000000 in
theorem looks_any (B wb : Nat) (hv : Value) (hs : List (Value × Int)) (w : World) (h : Inv w B wb hv hs) (hH : hs.length ≤ 10000010) :
    Calls Tryz.prog 8 #[.pointer (some ⟨wb, 0, none⟩)] w fun r w' => r = .returned (.bool true) ∧ Below w.heap.size w w' := by
  have HI := hidIt h
  obtain ⟨ha, hc, hvf⟩ := h.form
  have c1 := h.cell
  rw [hvf] at c1
  have hwb := h.wb_lt
  have HV := hidIt hvf
  clear hvf h
  go_enter Tryz.func8, Tryz.ntmps8
  go_wp2_with fail
  go_loopw [3] (fun i wr => ∃ k : Nat, k ≤ hs.length ∧ i = .int .i64 k ∧ Below w.heap.size w wr) (fun i _ => hs.length - (intOf i).toNat)
  case atStart => exact ⟨0, by omega, rfl, Below.refl _ _⟩
  case round =>
    obtain ⟨k, hk, rfl, hnx⟩ := hrel
    have c2 : wr.cell? ⟨wb, 1, none⟩ = some (.slice ha hs.length hc) := by rw [bcells hnx wb 1 hwb]; exact c1
    by_cases hlt : k < hs.length
    · have hlt' : (k : Int) < (hs.length : Int) := by omega
      have hk0 : (0 : Int) ≤ (k : Int) := by omega
      obtain ⟨gh, c', hv', hgl, x1, x2⟩ := hold_at HI.out k hlt
      have hxo := HI.out.each hs[k] (List.getElem_mem _)
      rw [HV.out] at hv'
      simp only [Value.slice.injEq, true_and] at hv'
      obtain ⟨rfl, rfl⟩ := hv'
      obtain ⟨⟨lv, mk⟩, hx⟩ : ∃ x, hs[k] = x := ⟨_, rfl⟩
      rw [hx] at x1 x2 hxo
      obtain ⟨n, hnb, hmark⟩ := hxo.marks
      have hm0 := hxo.m0
      have hm1 := hxo.m1
      simp only at x1 x2 hmark hm0 hm1
      rw [← bcells hnx gh _ hgl] at x1 x2
      have hmark2 := hmark.below hnx
      obtain ⟨la, lc, hlf⟩ : ∃ la lc, lv = .slice la n lc := by
        rcases hmark with ⟨h0, a, c, h1⟩ | ⟨b, off, c, h1, _, _⟩
        · have : n = 0 := by simpa using congrArg List.length h0
          subst this
          exact ⟨a, c, h1⟩
        · exact ⟨_, c, by simpa using h1⟩
      subst hlf
      have HMK := hidIt hmark2
      clear hmark hmark2 hxo hx c1
      go_wp2_with fail
      refine (marked_any mk _ hm0 hm1).mono ?_
      rintro r w2 ⟨rfl, hb2⟩
      have hbx : Below wr.heap.size wr (w2.alloc (.cells #[.int .u8 (mkEv mk).k, .int .u8 (mkEv mk).t, .int .u8 (mkEv mk).a, .int .i32 (mkEv mk).v, .int .i32 (mkEv mk).s] 45)) := (((Below.refl wr.heap.size wr).alloc (Nat.le_refl _) _).trans (hb2.mono (by simp))).alloc (by have := hb2.size; simp at this; omega) _
      have hbW : Below w.heap.size w (w2.alloc (.cells #[.int .u8 (mkEv mk).k, .int .u8 (mkEv mk).t, .int .u8 (mkEv mk).a, .int .i32 (mkEv mk).v, .int .i32 (mkEv mk).s] 45)) := hnx.trans (hbx.mono hnx.size)
      have y0 : (w2.alloc (.cells #[.int .u8 (mkEv mk).k, .int .u8 (mkEv mk).t, .int .u8 (mkEv mk).a, .int .i32 (mkEv mk).v, .int .i32 (mkEv mk).s] 45)).cell? ⟨wr.heap.size, 0, none⟩ = some (.slice la n lc) := by
        have hlt2 : wr.heap.size < w2.heap.size := by have := hb2.size; simp at this; omega
        rw [bcells ((Below.refl w2.heap.size w2).alloc (Nat.le_refl _) (.cells #[.int .u8 (mkEv mk).k, .int .u8 (mkEv mk).t, .int .u8 (mkEv mk).a, .int .i32 (mkEv mk).v, .int .i32 (mkEv mk).s] 45)) _ _ hlt2, bcells hb2 _ _ (by simp)]
        simp [go_sem]
      have m0 : (w2.alloc (.cells #[.int .u8 (mkEv mk).k, .int .u8 (mkEv mk).t, .int .u8 (mkEv mk).a, .int .i32 (mkEv mk).v, .int .i32 (mkEv mk).s] 45)).cell? ⟨w2.heap.size, 0, none⟩ = some (.int .u8 (mkEv mk).k) := by simp [go_sem]
      have m1 : (w2.alloc (.cells #[.int .u8 (mkEv mk).k, .int .u8 (mkEv mk).t, .int .u8 (mkEv mk).a, .int .i32 (mkEv mk).v, .int .i32 (mkEv mk).s] 45)).cell? ⟨w2.heap.size, 1, none⟩ = some (.int .u8 (mkEv mk).t) := by simp [go_sem]
      have m2 : (w2.alloc (.cells #[.int .u8 (mkEv mk).k, .int .u8 (mkEv mk).t, .int .u8 (mkEv mk).a, .int .i32 (mkEv mk).v, .int .i32 (mkEv mk).s] 45)).cell? ⟨w2.heap.size, 2, none⟩ = some (.int .u8 (mkEv mk).a) := by simp [go_sem]
      have m3 : (w2.alloc (.cells #[.int .u8 (mkEv mk).k, .int .u8 (mkEv mk).t, .int .u8 (mkEv mk).a, .int .i32 (mkEv mk).v, .int .i32 (mkEv mk).s] 45)).cell? ⟨w2.heap.size, 3, none⟩ = some (.int .i32 (mkEv mk).v) := by simp [go_sem]
      have m4 : (w2.alloc (.cells #[.int .u8 (mkEv mk).k, .int .u8 (mkEv mk).t, .int .u8 (mkEv mk).a, .int .i32 (mkEv mk).v, .int .i32 (mkEv mk).s] 45)).cell? ⟨w2.heap.size, 4, none⟩ = some (.int .i32 (mkEv mk).s) := by simp [go_sem]
      have HMK2 := hidIt (HMK.out.below hbx)
      clear HMK x1 x2 c2
      go_wp2_with fail
      go_loopw [6] (fun i wq => ∃ q : Nat, q ≤ n ∧ i = .int .i64 q ∧ ∃ d, wq = (w2.alloc (.cells #[.int .u8 (mkEv mk).k, .int .u8 (mkEv mk).t, .int .u8 (mkEv mk).a, .int .i32 (mkEv mk).v, .int .i32 (mkEv mk).s] 45)).drewN d) (fun i _ => n - (intOf i).toNat)
      case atStart => exact ⟨0, by omega, rfl, 0, rfl⟩
      case round =>
        obtain ⟨q, hq, rfl, d, rfl⟩ := hrel
        by_cases hlq : q < n
        · have hlq' : (q : Int) < (n : Int) := by omega
          have hq0 : (0 : Int) ≤ (q : Int) := by omega
          obtain ⟨b, off, rfl, z0, z1, z2, z3, z4⟩ : ∃ b off, la = some ⟨b, off, none⟩ ∧ EvAt (w2.alloc (.cells #[.int .u8 (mkEv mk).k, .int .u8 (mkEv mk).t, .int .u8 (mkEv mk).a, .int .i32 (mkEv mk).v, .int .i32 (mkEv mk).s] 45)) b (off + q * 5) (mkEv mk) := by
            rcases HMK2.out with ⟨h0, _⟩ | ⟨b, off, c, h1, _, h3⟩
            · have : n = 0 := by simpa using congrArg List.length h0
              omega
            · simp only [Value.slice.injEq] at h1
              have := h3 q (by simpa using hlq)
              exact ⟨b, off, h1.1, by simpa using this⟩
          go_wp2_with fail
          go_quiet (fail)
          go_wp2_with fail
          go_roundw
          case rel => exact ⟨q + 1, by omega, by go_num, _, rfl⟩
          case measure => simp [intOf]; omega
        · have hgq : ¬ (q : Int) < (n : Int) := by omega
          go_wp2_with fail
          go_roundw
          case rel => exact ⟨k + 1, by omega, by go_num, below_drewN hbW d⟩
          case measure => simp [intOf]; omega
    · have hge : ¬ (k : Int) < (hs.length : Int) := by omega
      go_wp2_with fail
      go_ret
      exact ⟨rfl, hnx⟩

end Go.Proofs.YtfdalbmopaemgabGreatDoor
