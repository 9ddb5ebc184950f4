import Derived.Test.YtfdalbmopaemgabGreatDoorL4
import Derived.Test.YtfdalbmopaemgabGreatDoorW1
import Derived.Test.YtfdalbmopaemgabGreatDoorZR13
namespace Go.Proofs.YtfdalbmopaemgabGreatDoor
open Go.RowKit

/-! ### keep of a row, and what it leaves alone -/
def Fr (w wr : World) (g wb : Nat) (hv : Value) : Prop := ∀ k, k < w.heap.size → k ≠ g → k ≠ wb → hv.ownBlock ≠ some k → wr.heap[k]? = w.heap[k]?

theorem app_size {w w' : World} {v v' : Value} (h : AppPost w w' v v') : w.heap.size ≤ w'.heap.size := by
  rcases h with ⟨g, _, _, hg⟩ | ⟨g, _, _, hg⟩ <;> exact hg.size

theorem app_own {w w' : World} {v v' : Value} (h : AppPost w w' v v') (k : Nat) (hk : v'.ownBlock = some k) : v.ownBlock = some k ∨ w.heap.size ≤ k := by
  rcases h with ⟨g, e1, e2, _⟩ | ⟨g, e2, e3, _⟩
  · rw [e2] at hk; cases hk; exact Or.inl e1
  · rw [e2] at hk; cases hk; exact Or.inr e3

theorem Fr.store5 {w wr : World} {g wb : Nat} {hv : Value} (h : Fr w wr g wb hv) (o : Nat) (e : Ev) : Fr w (store5 wr g o e) g wb hv := fun k h1 h2 h3 h4 => by rw [store5_other wr g o e k h2]; exact h k h1 h2 h3 h4
theorem Fr.set {w wr : World} {g wb : Nat} {hv : Value} (h : Fr w wr g wb hv) (o : Nat) (v : Value) : Fr w (wr.setCell ⟨wb, o, none⟩ v) g wb hv := fun k h1 h2 h3 h4 => by rw [Below.heap_setCell _ ⟨wb, o, none⟩ _ _ h3]; exact h k h1 h2 h3 h4
theorem Fr.alloc {w wr : World} {g wb : Nat} {hv : Value} (h : Fr w wr g wb hv) (hs : w.heap.size ≤ wr.heap.size) (o : Obj) : Fr w (wr.alloc o) g wb hv := fun k h1 h2 h3 h4 => by
  rw [((Below.refl wr.heap.size wr).alloc (Nat.le_refl _) o).block k (by omega)]; exact h k h1 h2 h3 h4
theorem Fr.app {w wr w' : World} {g wb : Nat} {hv v v' : Value} (h : Fr w wr g wb hv) (ha : AppPost wr w' v v') (hv' : ∀ k, v.ownBlock = some k → k = g ∨ hv.ownBlock = some k ∨ w.heap.size ≤ k) (hs : w.heap.size ≤ wr.heap.size) : Fr w w' g wb hv := by
  intro k h1 h2 h3 h4
  have : w'.heap[k]? = wr.heap[k]? := by
    rcases ha with ⟨g', e1, _, hg⟩ | ⟨g', _, _, hg⟩
    · refine hg.block k (by omega) (fun e => ?_)
      have e' : v.ownBlock = some k := by rw [e1, e]
      rcases hv' k e' with q | q | q
      · exact h2 q
      · exact h4 q
      · omega
    · exact hg.block k (by omega) (by intro e; cases e)
  rw [this]
  exact h k h1 h2 h3 h4

def KeepPostF (w : World) (B wb g : Nat) (hv : Value) (H : Nat) (r : Ending) (w' : World) : Prop :=
  r = .returned (.tuple #[]) ∧ ∃ hv' hs', Inv w' B wb hv' hs' ∧ hs'.length = H + 4 ∧ Below B w w' ∧ Fr w w' g wb hv

def Loop2F (w : World) (B wb mb g : Nat) (hv0 : Value) (H n : Nat) (mark : Int) (j : Nat) (l : Value) (wr : World) : Prop :=
  ∃ hv hs, Inv wr B wb hv hs ∧ LInv wr B wb mb hv hs l (n + j) mark ∧ hs.length = H + 1 + j ∧ Below B w wr ∧ B ≤ wr.heap.size ∧ Fr w wr g wb hv0 ∧ (∀ k, l.ownBlock = some k → k = g ∨ w.heap.size ≤ k) ∧ (∀ k, hv.ownBlock = some k → hv0.ownBlock = some k ∨ w.heap.size ≤ k) ∧ w.heap.size ≤ wr.heap.size

set_option maxRecDepth 100000 in
set_option maxHeartbeats 2000000 in
theorem keep_rowF (B wb : Nat) (hv : Value) (hs : List (Value × Int)) (g cap : Nat) (es : List Ev) (w : World) (h : Inv w B wb hv hs) (hrow : Row w g cap es) (hBg : B ≤ g) (hgw : g ≠ wb) (hgv : hv.ownBlock ≠ some g)
    (hgx : ∀ x ∈ hs, x.1.ownBlock ≠ some g) (hn : es.length ≤ 2097152) (hH : hs.length ≤ 10000000) :
    Calls Tryz.prog 22 #[.pointer (some ⟨wb, 0, none⟩), .slice (some ⟨g, 0, none⟩) es.length cap] w (KeepPostF w B wb g hv hs.length) := by
  obtain ⟨ha, hc, hvf⟩ := h.form
  have c1 := h.cell
  rw [hvf] at c1
  have HV := hidIt hvf
  have HI := hidIt h
  have HR := hidIt hrow
  obtain ⟨mark, hmark⟩ : ∃ m : Int, (hs.length : Int) + 1 = m := ⟨_, rfl⟩
  have hm0 : 0 ≤ mark := by omega
  have hm1 : mark ≤ 1073741824 := by omega
  have HM := hidIt hmark
  have hBw : B ≤ w.heap.size := Nat.le_trans h.base (Nat.le_of_lt h.wb_lt)
  have HBW := hidIt hBw
  have hcapn := hidIt (show es.length ≤ cap from by obtain ⟨cur, _, _, h3, _⟩ := hrow; exact h3)
  clear hvf h hrow
  go_enter Tryz.func22, Tryz.ntmps22
  go_wp2_with fail
  clear hmark
  refine (marked_any mark _ hm0 hm1).mono ?_
  rintro r w1 ⟨rfl, hb1⟩
  clear c1
  have hmem : EvAt (w1.alloc (.cells #[.int .u8 (mkEv mark).k, .int .u8 (mkEv mark).t, .int .u8 (mkEv mark).a, .int .i32 (mkEv mark).v, .int .i32 (mkEv mark).s] 45)) w1.heap.size 0 (mkEv mark) := ⟨by simp [go_sem], by simp [go_sem], by simp [go_sem], by simp [go_sem], by simp [go_sem]⟩
  have hb1' : Below w.heap.size w (w1.alloc (.cells #[.int .u8 (mkEv mark).k, .int .u8 (mkEv mark).t, .int .u8 (mkEv mark).a, .int .i32 (mkEv mark).v, .int .i32 (mkEv mark).s] 45)) := hb1.alloc hb1.size _
  have hglt := HR.out.lt
  have hgm : g ≠ w1.heap.size := by have := hb1.size; omega
  go_wp2_with fail
  go_loopw [6] (fun i wr => ∃ k : Nat, k ≤ es.length ∧ i = .int .i64 k ∧ Row wr g cap (List.replicate k (mkEv mark)) ∧ Inv wr B wb hv hs ∧ EvAt wr w1.heap.size 0 (mkEv mark) ∧ w1.heap.size < wr.heap.size ∧ Below B w wr ∧ Fr w wr g wb hv) (fun i _ => es.length - (intOf i).toNat)
  case atStart => exact ⟨0, by omega, rfl, Row.prefix (L := []) (M := es) (HR.out.below hb1' hglt), HI.out.below hb1', hmem, by simp, hb1'.mono HBW.out, fun k hk _ _ _ => hb1'.block k hk⟩
  case round =>
    obtain ⟨k, hk, rfl, hrow, hinv, hme, hmlt, hnx, hfr⟩ := hrel
    by_cases hlt : k < es.length
    · have hlt' : (k : Int) < (es.length : Int) := by omega
      have hk0 : (0 : Int) ≤ (k : Int) := by omega
      have hcap := hcapn.out
      obtain ⟨m0, m1, m2, m3, m4⟩ := hme
      simp only [Nat.zero_add] at m1 m2 m3 m4
      obtain ⟨⟨x0, t0⟩, f0⟩ := hrow.there (k * 5) (by omega)
      obtain ⟨⟨x1, t1⟩, f1⟩ := hrow.there (k * 5 + 1) (by omega)
      obtain ⟨⟨x2, t2⟩, f2⟩ := hrow.there (k * 5 + 2) (by omega)
      obtain ⟨⟨x3, t3⟩, f3⟩ := hrow.there (k * 5 + 3) (by omega)
      obtain ⟨⟨x4, t4⟩, f4⟩ := hrow.there (k * 5 + 4) (by omega)
      have hrow4 := hrow.store (by simp; omega) (mkEv mark)
      rw [List.length_replicate, ← List.replicate_succ'] at hrow4
      have hb4 := store5_below hnx g (k * 5) (mkEv mark) hBg
      have hoth : ∀ j, j ≠ g → (store5 wr g (k * 5) (mkEv mark)).heap[j]? = wr.heap[j]? := fun j hj => store5_other wr g (k * 5) (mkEv mark) j hj
      have hinv4 : Inv (store5 wr g (k * 5) (mkEv mark)) B wb hv hs := hinv.stay (by rw [store5_size]; exact Nat.le_refl _) (hoth wb (Ne.symm hgw)) (fun j hj => hoth j (fun e => hgv (by rw [hj, e]))) (fun x hx j hj => hoth j (fun e => hgx x hx (by rw [hj, e])))
      have hme4 : EvAt (store5 wr g (k * 5) (mkEv mark)) w1.heap.size 0 (mkEv mark) := EvAt.of_heap ⟨m0, m1, m2, m3, m4⟩ (hoth w1.heap.size (Ne.symm hgm))
      have hsz4 : w1.heap.size < (store5 wr g (k * 5) (mkEv mark)).heap.size := by rw [store5_size]; exact hmlt
      have HALL := hidIt (And.intro hrow4 (And.intro hinv4 (And.intro hme4 (And.intro hsz4 (And.intro hb4 (hfr.store5 (k * 5) (mkEv mark)))))))
      clear hrow4 hinv4 hme4 hsz4 hb4 hoth hfr
      go_wp2_with fail
      go_roundw
      case rel => exact ⟨k + 1, by omega, by go_num, HALL.out.1, HALL.out.2.1, HALL.out.2.2.1, HALL.out.2.2.2.1, HALL.out.2.2.2.2.1, HALL.out.2.2.2.2.2⟩
      case measure => simp [intOf]; omega
    · have hge : ¬ (k : Int) < (es.length : Int) := by omega
      have hke : k = es.length := by omega
      subst hke
      obtain ⟨i1, hi, hz0, hz1, hz2⟩ := info_parts Tryz.infoHold
      have HI1 := hidIt hi
      have HY0 := hidIt hz0
      have HY1 := hidIt hz1
      have HY2 := hidIt hz2
      clear hi hz0 hz1 hz2
      have hown0 := hrow.own B hBg
      rw [List.length_replicate] at hown0
      have hl : LInv wr B wb w1.heap.size hv hs (.slice (some ⟨g, 0, none⟩) es.length cap) es.length mark :=
        ⟨hown0, fun e => hgw (by simpa [Value.ownBlock] using e), fun e => hgm (by simpa [Value.ownBlock] using e), fun k hk e => hgv (by rw [e, ← hk]; rfl),
         fun e => by have := (HI.out.hv_lt _ e).2; have := hb1.size; omega, fun e => by have := HI.out.wb_lt; have := hb1.size; omega, hmlt, hme,
         fun x hx k hk hk' => absurd (by rw [hk, ← hk']; rfl) (hgx x hx)⟩
      have c1 := hinv.cell
      rw [HV.out] at c1
      have hBr : B ≤ wr.heap.size := Nat.le_trans hinv.base (Nat.le_of_lt hinv.wb_lt)
      have HIN := hidIt hinv
      have HL := hidIt hl
      have HFR := hidIt hfr
      clear hinv hl hown0 hrow hme hfr
      go_wp2_with (at_builtin; refine wpList_append_two _ rfl _ _ 28 rfl B 43 i1 (.agg #[.slice none 0 0, .int .i32 0]) 2 32 Tryz.underlying28 HI1.out HY0.out HY1.out HY2.out rfl (by decide) hv hs.length (holdCells hs) HV.out.symm (HIN.out.below ((Below.refl _ _).alloc (Nat.le_refl _) _)).row ⟨wr.heap.size, 0, none⟩ 1 1 [.slice (some ⟨g, 0, none⟩) es.length cap, .int .i32 mark] rfl rfl (hold_new wr _ _ _) ?c1 (by decide) ?c3 ?c4 ?c5 ?_)
      case c1 => exact ⟨rfl, rfl⟩
      case c3 => unfold maxLen; omega
      case c4 => omega
      case c5 => first | omega | (simp; omega)
      intro hv' w2 hown2 happ2
      obtain ⟨a', c', rfl⟩ := ownsRow_form hown2
      have hI2 := HIN.out.below ((Below.refl wr.heap.size wr).alloc (Nat.le_refl _) (.cells #[.slice (some ⟨g, 0, none⟩) es.length cap, .int .i32 mark] 43))
      have hL2 := HL.out.below ((Below.refl wr.heap.size wr).alloc (Nat.le_refl _) (.cells #[.slice (some ⟨g, 0, none⟩) es.length cap, .int .i32 mark] 43))
      obtain ⟨k1, k2⟩ := app_cell hI2 happ2
      have hb2 := below_app (hnx.alloc hBr (.cells #[.slice (some ⟨g, 0, none⟩) es.length cap, .int .i32 mark] 43)) happ2 (fun j hj => (HIN.out.hv_lt j hj).1) (by simp; omega)
      obtain ⟨s1, s2⟩ := step_holds hI2 hL2 hm0 hm1 (by omega) hown2 happ2
      have hw0a : w.heap.size ≤ (wr.alloc (.cells #[.slice (some ⟨g, 0, none⟩) es.length cap, .int .i32 mark] 43)).heap.size := by have := hnx.size; simp; omega
      have hw0b : w.heap.size ≤ (w2.setCell ⟨wb, 1, none⟩ (.slice a' (hs.length + 1) c')).heap.size := by have := app_size happ2; simp at this ⊢; simp at hw0a; omega
      have HSS : Hid (Loop2F w B wb w1.heap.size g hv hs.length es.length mark 0 (.slice (some ⟨g, 0, none⟩) es.length cap) (w2.setCell ⟨wb, 1, none⟩ (.slice a' (hs.length + 1) c'))) :=
        ⟨_, _, s1, s2, by simp, hb2.setCell (p := ⟨wb, 1, none⟩) HIN.out.base _, Nat.le_trans s1.base (Nat.le_of_lt s1.wb_lt), ((HFR.out.alloc hnx.size _).app happ2 (fun k hk => Or.inr (Or.inl hk)) hw0a).set _ _, fun k hk => Or.inl (by simpa [Value.ownBlock] using hk.symm), fun k hk => (app_own happ2 k hk).imp id (fun q => Nat.le_trans hw0a q), hw0b⟩
      clear hI2 hL2 hb2 s1 s2 hown2 happ2 c1
      go_wp2_with fail
      go_loopw [1, 7] (fun l i wr => ∃ j : Nat, j ≤ 3 ∧ i = .int .i64 j ∧ Loop2F w B wb w1.heap.size g hv hs.length es.length mark j l wr) (fun _ i _ => 3 - (intOf i).toNat)
      case atStart => exact ⟨0, by omega, rfl, HSS.out⟩
      case round =>
        clear HSS k1 k2
        obtain ⟨j, hj, rfl, hvj, hsj, hij, hlj, hlen, hbj, hBj, hfj, hlo, hho, hwj⟩ := hrel
        have HFJ := hidIt (And.intro hfj (And.intro hlo (And.intro hho hwj)))
        clear hfj hlo hho hwj
        have HLEN := hidIt hlen
        have hlenb : hsj.length ≤ 10000004 := by omega
        clear hlen
        by_cases hlt3 : j < 3
        · have hlt3' : (j : Int) < 3 := by omega
          obtain ⟨i0, hi, hz0, hz1, hz2⟩ := info_parts Tryz.infoEv
          have HI0 := hidIt hi
          have HX0 := hidIt hz0
          have HX1 := hidIt hz1
          have HX2 := hidIt hz2
          clear hi hz0 hz1 hz2
          obtain ⟨m0, m1, m2, m3, m4⟩ := hlj.mcell
          simp only [Nat.zero_add] at m1 m2 m3 m4
          have HIJ := hidIt hij
          have HLJ := hidIt hlj
          clear hij hlj
          go_wp2_with (at_builtin; refine wpList_append_two _ rfl _ _ 31 rfl B 45 i0 (.agg #[.int .u8 0, .int .u8 0, .int .u8 0, .int .i32 0, .int .i32 0]) 5 12 Tryz.underlying31 HI0.out HX0.out HX1.out HX2.out rfl (by decide) _ _ _ rfl (HLJ.out.below ((Below.refl _ _).alloc (Nat.le_refl _) _)).own _ 1 1 (evC (mkEv mark)) rfl rfl (evC_new1 _ _ _) ?d1 (by decide) ?d3 ?d4 ?d5 ?_)
          case d1 => exact evC_one _
          case d3 => unfold maxLen; simp; omega
          case d4 => simp; omega
          case d5 => simp; omega
          intro lv' w3 hown3 happ3
          have hI3 := HIJ.out.below ((Below.refl wr.heap.size wr).alloc (Nat.le_refl _) (.cells #[.int .u8 (mkEv mark).k, .int .u8 (mkEv mark).t, .int .u8 (mkEv mark).a, .int .i32 (mkEv mark).v, .int .i32 (mkEv mark).s] 45))
          have hL3 := HLJ.out.below ((Below.refl wr.heap.size wr).alloc (Nat.le_refl _) (.cells #[.int .u8 (mkEv mark).k, .int .u8 (mkEv mark).t, .int .u8 (mkEv mark).a, .int .i32 (mkEv mark).v, .int .i32 (mkEv mark).s] 45))
          have howne : Own w3 B lv' (List.replicate (es.length + j + 1) (mkEv mark)) := by
            unfold Own
            rw [List.replicate_succ', evCells_append, List.length_append, List.length_replicate]
            simpa [evCells] using hown3
          have hb3 := below_app (hbj.alloc hBj (.cells #[.int .u8 (mkEv mark).k, .int .u8 (mkEv mark).t, .int .u8 (mkEv mark).a, .int .i32 (mkEv mark).v, .int .i32 (mkEv mark).s] 45)) happ3 (fun g hg => (World.ownsRow.lt HLJ.out.own g hg).1) (by simp; omega)
          obtain ⟨q1, q2⟩ := step_list hI3 hL3 (by omega) howne happ3
          have hw3a : w.heap.size ≤ (wr.alloc (.cells #[.int .u8 (mkEv mark).k, .int .u8 (mkEv mark).t, .int .u8 (mkEv mark).a, .int .i32 (mkEv mark).v, .int .i32 (mkEv mark).s] 45)).heap.size := by have := HFJ.out.2.2.2; simp; omega
          have hw3b : w.heap.size ≤ w3.heap.size := Nat.le_trans hw3a (app_size happ3)
          have HF3 : Hid (Fr w w3 g wb hv) := (HFJ.out.1.alloc HFJ.out.2.2.2 _).app happ3 (fun k hk => (HFJ.out.2.1 k hk).imp id Or.inr) hw3a
          have HL3 : Hid (∀ k, lv'.ownBlock = some k → k = g ∨ w.heap.size ≤ k) := fun k hk => (app_own happ3 k hk).elim (fun q => HFJ.out.2.1 k q) (fun q => Or.inr (Nat.le_trans hw3a q))
          obtain ⟨la, lc, rfl⟩ := ownsRow_form hown3
          obtain ⟨hja, hjc, rfl⟩ := q1.form
          have c3 := q1.cell
          have hB3 : B ≤ w3.heap.size := Nat.le_trans q1.base (Nat.le_of_lt q1.wb_lt)
          have HQ1 := hidIt q1
          have HQ2 := hidIt q2
          clear hI3 hL3 howne hown3 happ3 q1 q2 m0 m1 m2 m3 m4
          go_wp2_with (at_builtin; refine wpList_append_two _ rfl _ _ 28 rfl B 43 i1 (.agg #[.slice none 0 0, .int .i32 0]) 2 32 Tryz.underlying28 HI1.out HY0.out HY1.out HY2.out rfl (by decide) _ _ _ rfl (HQ1.out.below ((Below.refl _ _).alloc (Nat.le_refl _) _)).row _ 1 1 [.slice la (es.length + j + 1) lc, .int .i32 mark] rfl rfl (hold_new w3 _ _ _) ?e1 (by decide) ?e3 ?e4 ?e5 ?_)
          case e1 => exact hold_cells_one (.slice la (es.length + j + 1) lc) mark rfl
          case e3 => unfold maxLen; omega
          case e4 => omega
          case e5 => first | omega | (simp; omega)
          intro hv4 w4 hown4 happ4
          obtain ⟨a4, c4, rfl⟩ := ownsRow_form hown4
          have hI4 := HQ1.out.below ((Below.refl w3.heap.size w3).alloc (Nat.le_refl _) (.cells #[.slice la (es.length + j + 1) lc, .int .i32 mark] 43))
          have hL4 := HQ2.out.below ((Below.refl w3.heap.size w3).alloc (Nat.le_refl _) (.cells #[.slice la (es.length + j + 1) lc, .int .i32 mark] 43))
          obtain ⟨k1, k2⟩ := app_cell hI4 happ4
          have hb4 := below_app (hb3.alloc hB3 (.cells #[.slice la (es.length + j + 1) lc, .int .i32 mark] 43)) happ4 (fun g hg => (HQ1.out.hv_lt g hg).1) (by simp; omega)
          obtain ⟨s1, s2⟩ := step_holds hI4 hL4 hm0 hm1 (by omega) hown4 happ4
          have hw4a : w.heap.size ≤ (w3.alloc (.cells #[.slice la (es.length + j + 1) lc, .int .i32 mark] 43)).heap.size := by simp; omega
          have hw4b : w.heap.size ≤ (w4.setCell ⟨wb, 1, none⟩ (.slice a4 (hsj.length + 1) c4)).heap.size := by have := app_size happ4; simp at this ⊢; simp at hw4a; omega
          have HSS : Hid (Loop2F w B wb w1.heap.size g hv hs.length es.length mark (j + 1) (.slice la (es.length + j + 1) lc) (w4.setCell ⟨wb, 1, none⟩ (.slice a4 (hsj.length + 1) c4))) :=
            ⟨_, _, s1, s2, by rw [List.length_append, HLEN.out]; rfl, hb4.setCell (p := ⟨wb, 1, none⟩) HQ1.out.base _, Nat.le_trans s1.base (Nat.le_of_lt s1.wb_lt), ((HF3.out.alloc hw3b _).app happ4 (fun k hk => Or.inr (HFJ.out.2.2.1 k hk)) hw4a).set _ _, HL3.out, fun k hk => (app_own happ4 k hk).elim (fun q => HFJ.out.2.2.1 k q) (fun q => Or.inr (Nat.le_trans hw4a q)), hw4b⟩
          clear hI4 hL4 hb4 s1 s2 hown4 happ4 c3
          go_wp2_with fail
          go_roundw
          case rel => exact ⟨j + 1, by omega, by go_num, HSS.out⟩
          case measure => simp [intOf]; omega
        · have hge3 : ¬ (j : Int) < 3 := by omega
          have hj3 : j = 3 := by omega
          subst hj3
          go_wp2_with fail
          go_end0
          exact ⟨rfl, hvj, hsj, hij, by rw [HLEN.out], hbj, HFJ.out.1⟩

end Go.Proofs.YtfdalbmopaemgabGreatDoor

namespace Go.Proofs.YtfdalbmopaemgabGreatDoor
open Go.RowKit

/-- Two rows of four values are compared. -/
theorem Tryz.eqVals (w : World) (x0 x1 x2 x3 y0 y1 y2 y3 : Int) : (Op.equalIn 10000 72 (.agg #[.int .i32 x0, .int .i32 x1, .int .i32 x2, .int .i32 x3]) (.agg #[.int .i32 y0, .int .i32 y1, .int .i32 y2, .int .i32 y3])).run Tryz.prog w = .ok (x0 == y0 && (x1 == y1 && (x2 == y2 && x3 == y3))) w := by
  have hu := Tryz.underlying72
  rw [show (10000 : Nat) = 9999 + 1 from rfl, Op.equalIn]
  simp only [Sem.run_bind, run_underlying hu, Result.andThen_ok]
  simp only [Std.Legacy.Range.forIn_eq_forIn_range', Std.Legacy.Range.size]
  simp [List.range', part, go_sem, Tryz.isAgg21, Tryz.sizeOf21]
  by_cases h0 : x0 = y0 <;> by_cases h1 : x1 = y1 <;> by_cases h2 : x2 = y2 <;> by_cases h3 : x3 = y3 <;> simp [*]

end Go.Proofs.YtfdalbmopaemgabGreatDoor

namespace Go.Proofs.YtfdalbmopaemgabGreatDoor
open Go.RowKit

/-- Four values in a block of their own. -/
structure Vals (w : World) (b : Nat) (V : Nat → Int) : Prop where
  c0 : w.cell? ⟨b, 0, none⟩ = some (.int .i32 (V 0))
  c1 : w.cell? ⟨b, 1, none⟩ = some (.int .i32 (V 1))
  c2 : w.cell? ⟨b, 2, none⟩ = some (.int .i32 (V 2))
  c3 : w.cell? ⟨b, 3, none⟩ = some (.int .i32 (V 3))
  lt : b < w.heap.size

theorem vals_new (w : World) (T : TypeId) (V : Nat → Int) : Vals (w.alloc (.cells #[.int .i32 (V 0), .int .i32 (V 1), .int .i32 (V 2), .int .i32 (V 3)] T)) w.heap.size V :=
  ⟨by simp [go_sem], by simp [go_sem], by simp [go_sem], by simp [go_sem], by simp⟩

theorem Vals.of_heap {w w' : World} {b : Nat} {V : Nat → Int} (h : Vals w b V) (hh : w'.heap[b]? = w.heap[b]?) : Vals w' b V :=
  ⟨by rw [World.cell?_of_block (a := ⟨b, _, none⟩) hh]; exact h.c0, by rw [World.cell?_of_block (a := ⟨b, _, none⟩) hh]; exact h.c1, by rw [World.cell?_of_block (a := ⟨b, _, none⟩) hh]; exact h.c2, by rw [World.cell?_of_block (a := ⟨b, _, none⟩) hh]; exact h.c3, by
    have h1 : w'.cell? ⟨b, 0, none⟩ = some (.int .i32 (V 0)) := by rw [World.cell?_of_block (a := ⟨b, _, none⟩) hh]; exact h.c0
    exact World.block_lt_of_cell? w' ⟨b, 0, none⟩ h1⟩

theorem Vals.below {w w' : World} {b : Nat} {V : Nat → Int} (h : Vals w b V) (hb : Below w.heap.size w w') : Vals w' b V := h.of_heap (hb.block b h.lt)

set_option maxRecDepth 100000 in
set_option maxHeartbeats 2000000 in
theorem replayed_any (B wb : Nat) (hv : Value) (hs : List (Value × Int)) (o : OpD) (es : List Ev) (w : World) (h : Inv w B wb hv hs) (hop : OpOk w B o es) (hH : hs.length ≤ 10000000) :
    Calls Tryz.prog 13 #[.pointer (some ⟨wb, 0, none⟩), opV o] w (StepPost w B wb hs.length) := by
  obtain ⟨ok, on, ot, ox, ov, ohv, os⟩ := o
  obtain ⟨ha, hc, hvf⟩ := slice_form hop.sl
  simp only at hvf
  subst hvf
  have HI := hidIt h
  have HOP := hidIt hop
  have hlen := hop.len
  have hcap : es.length ≤ hc := hop.cap _ _ _ rfl
  have hBw : B ≤ w.heap.size := Nat.le_trans h.base (Nat.le_of_lt h.wb_lt)
  have hbx := (Below.refl w.heap.size w).alloc (Nat.le_refl _) (opC ⟨ok, on, ot, ox, ov, .slice ha es.length hc, os⟩)
  clear h hop
  have hl0 : (0 : Int) ≤ (es.length : Int) := by omega
  have hl1 : (es.length : Int) ≤ ((es.length + 8 : Nat) : Int) := by omega
  go_enter Tryz.func13, Tryz.ntmps13
  go_wp2_with fail
  refine (handed_any _ es _ (HOP.out.sl.below hbx) hlen).mono ?_
  rintro r w1 ⟨g, rfl, hg, hrow, hb1⟩
  have hb1' : Below w.heap.size w w1 := hbx.trans (hb1.mono (by simp))
  obtain ⟨z0, z5, z6⟩ := bcell7 hb1 (by simp) rfl
  have hz1 : w.heap.size < w1.heap.size := by have := hb1.size; simp at this; omega
  go_wp2_with fail
  refine (replay_all _ es _ (Row.prefix hrow).slEv HOP.out.ok hlen).mono ?_
  rintro r w2 ⟨rfl, hb2⟩
  obtain ⟨⟨rp, rv, re⟩, hrg⟩ : ∃ x, replayG es = x := ⟨_, rfl⟩
  have HRG := hidIt hrg
  rw [hrg]
  simp only
  clear hrg
  have y5 : w2.cell? ⟨w.heap.size, 5, none⟩ = some (.slice ha es.length hc) := by rw [bcells hb2 _ _ hz1]; exact z5
  have hz2 : w.heap.size < w2.heap.size := Nat.lt_of_lt_of_le hz1 hb2.size
  have hb2' : Below w.heap.size w w2 := hb1'.trans (hb2.mono hb1'.size)
  have hbv : Below w2.heap.size w2 (w2.alloc (.cells #[.int .i32 (rv 0), .int .i32 (rv 1), .int .i32 (rv 2), .int .i32 (rv 3)] 72)) := (Below.refl _ _).alloc (Nat.le_refl _) _
  have hb2v := hb2'.trans (hbv.mono hb2'.size)
  have HA := hidIt (vals_new w2 72 rv)
  clear z0 z5 z6
  go_wp2_with fail
  refine (refReplay ha hc es _ (HOP.out.sl.below hb2v) HOP.out.ok hlen hcap).mono ?_
  rintro r w3 ⟨rfl, hb3⟩
  rw [HRG.out]
  simp only
  have hz2v : w.heap.size < (w2.alloc (.cells #[.int .i32 (rv 0), .int .i32 (rv 1), .int .i32 (rv 2), .int .i32 (rv 3)] 72)).heap.size := by simp; omega
  have x5 : w3.cell? ⟨w.heap.size, 5, none⟩ = some (.slice ha es.length hc) := by rw [bcells hb3 _ _ hz2v, bcells hbv _ _ hz2]; exact y5
  have hb3' : Below w.heap.size w w3 := hb2v.trans (hb3.mono hb2v.size)
  have hbu : Below w3.heap.size w3 (w3.alloc (.cells #[.int .i32 (rv 0), .int .i32 (rv 1), .int .i32 (rv 2), .int .i32 (rv 3)] 72)) := (Below.refl _ _).alloc (Nat.le_refl _) _
  have hb3u := hb3'.trans (hbu.mono hb3'.size)
  have HA3 := hidIt ((HA.out.below hb3).below hbu)
  have HU3 := hidIt (vals_new w3 72 rv)
  have hz3 : w2.heap.size < w3.heap.size := by have := hb3.size; simp at this; omega
  have hz3' : w.heap.size < w3.heap.size := by omega
  have hrow2 := hrow.below hb2 hrow.lt
  have hrow3 := ((hrow2.below hbv hrow2.lt).below hb3 (hrow2.below hbv hrow2.lt).lt)
  have hrow3u : Row (w3.alloc (.cells #[.int .i32 (rv 0), .int .i32 (rv 1), .int .i32 (rv 2), .int .i32 (rv 3)] 72)) g (es.length + 8) (es ++ List.replicate 8 byEv) := hrow3.below hbu hrow3.lt
  have hgl2 : g < w2.heap.size := hrow2.lt
  clear y5
  go_wp2_with fail
  refine (still_any _ es g _ (HOP.out.sl.below hb3u) hlen hrow3u).mono ?_
  rintro r w4 ⟨rfl, hb4⟩
  have hb4' : Below w.heap.size w w4 := hb3u.trans (hb4.mono hb3u.size)
  have hrow4 : Row w4 g (es.length + 8) (es ++ List.replicate 8 byEv) := hrow3u.below hb4 hrow3u.lt
  have hgw : w.heap.size ≤ g := by simp at hg; omega
  have hlen8 : (es ++ List.replicate 8 byEv).length = es.length + 8 := by simp
  have hkeep := keep_rowF B wb hv hs g (es.length + 8) (es ++ List.replicate 8 byEv) w4 (HI.out.below hb4') hrow4 (Nat.le_trans hBw hgw) (by have := HI.out.wb_lt; omega) (fun e => by have := (HI.out.hv_lt g e).2; omega) (fun x hx e => by have := ((HI.out.each x hx).lt g e).2; omega) (by rw [hlen8]; omega) hH
  rw [hlen8] at hkeep
  have HK := hidIt hkeep
  have HA4 := hidIt (HA3.out.below hb4)
  have HU4 := hidIt (HU3.out.below hb4)
  clear x5 hkeep hlen8
  go_wp2_with fail
  refine HK.out.mono ?_
  rintro r w5 ⟨rfl, hv', hs', hi5, hl5, hb5, hf5⟩
  have hfar : ∀ k, w.heap.size < k → k ≠ g → k < w4.heap.size → w5.heap[k]? = w4.heap[k]? := fun k h1 h2 h3 => hf5 k h3 h2 (by have := HI.out.wb_lt; omega) (fun e => by have := (HI.out.hv_lt k e).2; omega)
  have hA5 := HA4.out.of_heap (hfar _ hz2 (by omega) HA4.out.lt)
  have hU5 := HU4.out.of_heap (hfar _ (by omega) (by omega) HU4.out.lt)
  obtain ⟨a0, a1, a2, a3, _⟩ := hA5
  obtain ⟨b0, b1, b2, b3, _⟩ := hU5
  have HR := hidIt (And.intro hi5 (And.intro hl5 hb5))
  clear hi5 hl5 hb5 hf5 hfar
  have heqv := Tryz.eqVals
  go_wp2_with fail
  go_ret
  refine ⟨ret_bool (by simp), hv', hs', HR.out.1, by have := HR.out.2.1; omega, (hb4'.mono hBw).trans HR.out.2.2⟩

set_option maxRecDepth 100000 in
set_option maxHeartbeats 1000000 in
theorem step_replay : StepOk 4 := by
  intro B wb hv hs o es w hk h hop hH ht
  obtain ⟨ha, hc, hvf⟩ := slice_form hop.sl
  obtain ⟨ok, on, ot, ox, ov, ohv, os⟩ := o
  simp only at hk hvf
  subst hk hvf
  have hbx := (Below.refl w.heap.size w).alloc (Nat.le_refl _) (opC ⟨4, on, ot, ox, ov, .slice ha es.length hc, os⟩)
  have hBw : B ≤ w.heap.size := Nat.le_trans h.base (Nat.le_of_lt h.wb_lt)
  have HC := hidIt (replayed_any B wb hv hs ⟨4, on, ot, ox, ov, .slice ha es.length hc, os⟩ es _ (h.below hbx) (hop.stay (hbx.mono hBw)) hH)
  clear h hop
  go_enter Tryz.func7, Tryz.ntmps7
  go_wp2_with fail
  refine HC.out.mono ?_
  rintro r w1 ⟨rfl, hv', hs', h1, h2, h3⟩
  have HR := hidIt (And.intro h1 (And.intro h2 h3))
  clear h1 h2 h3
  go_wp2_with fail
  go_ret
  exact ⟨rfl, hv', hs', HR.out.1, HR.out.2.1, (hbx.mono hBw).trans HR.out.2.2⟩

end Go.Proofs.YtfdalbmopaemgabGreatDoor
