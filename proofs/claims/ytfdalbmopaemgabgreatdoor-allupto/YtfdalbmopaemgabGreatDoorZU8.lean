import Derived.Test.YtfdalbmopaemgabGreatDoorZL10
import Derived.Test.YtfdalbmopaemgabGreatDoorZU6
namespace Go.Proofs.YtfdalbmopaemgabGreatDoor
open Go.RowKit

/-! ### keep of a row, and what it leaves alone -/
def Fr2 (w wr : World) (g wb : Nat) (hv : Value) : Prop := (∀ k, k < w.heap.size → k ≠ g → k ≠ wb → hv.ownBlock ≠ some k → wr.heap[k]? = w.heap[k]?) ∧ wr.cell? ⟨wb, 0, none⟩ = w.cell? ⟨wb, 0, none⟩ ∧ wr.frozen? ⟨wb, 0, none⟩ = w.frozen? ⟨wb, 0, none⟩

theorem Fr2.block {w wr wr' : World} {g wb : Nat} {hv : Value} (h : Fr2 w wr g wb hv) (hb : wr'.heap[wb]? = wr.heap[wb]?) (hk : ∀ k, k < w.heap.size → k ≠ g → k ≠ wb → hv.ownBlock ≠ some k → wr'.heap[k]? = wr.heap[k]?) : Fr2 w wr' g wb hv :=
  ⟨fun k h1 h2 h3 h4 => (hk k h1 h2 h3 h4).trans (h.1 k h1 h2 h3 h4), by rw [World.cell?_of_block (a := ⟨wb, 0, none⟩) hb]; exact h.2.1, by rw [World.frozen?_of_block (a := ⟨wb, 0, none⟩) hb]; exact h.2.2⟩
theorem Fr2.store5 {w wr : World} {g wb : Nat} {hv : Value} (h : Fr2 w wr g wb hv) (hgw : g ≠ wb) (o : Nat) (e : Ev) : Fr2 w (store5 wr g o e) g wb hv := h.block (store5_other wr g o e wb (Ne.symm hgw)) fun k _ h2 _ _ => store5_other wr g o e k h2
theorem Fr2.set {w wr : World} {g wb : Nat} {hv : Value} (h : Fr2 w wr g wb hv) (v : Value) : Fr2 w (wr.setCell ⟨wb, 1, none⟩ v) g wb hv :=
  ⟨fun k h1 h2 h3 h4 => by rw [Below.heap_setCell _ ⟨wb, 1, none⟩ _ _ h3]; exact h.1 k h1 h2 h3 h4, by rw [World.cell?_setCell_other _ _ _ _ (by intro e; injection e with _ e2 _; cases e2)]; exact h.2.1, by rw [World.frozen?_setCell]; exact h.2.2⟩
theorem Fr2.alloc {w wr : World} {g wb : Nat} {hv : Value} (h : Fr2 w wr g wb hv) (hw : wb < w.heap.size) (hs : w.heap.size ≤ wr.heap.size) (o : Obj) : Fr2 w (wr.alloc o) g wb hv :=
  h.block (((Below.refl wr.heap.size wr).alloc (Nat.le_refl _) o).block wb (by omega)) fun k h1 _ _ _ => ((Below.refl wr.heap.size wr).alloc (Nat.le_refl _) o).block k (by omega)
theorem Fr2.app {w wr w' : World} {g wb : Nat} {hv v v' : Value} (h : Fr2 w wr g wb hv) (ha : AppPost wr w' v v') (hw : wb < w.heap.size) (hf : v.ownBlock ≠ some wb) (hv' : ∀ k, v.ownBlock = some k → k = g ∨ hv.ownBlock = some k ∨ w.heap.size ≤ k) (hs : w.heap.size ≤ wr.heap.size) : Fr2 w w' g wb hv := by
  have hblk : ∀ k, k < wr.heap.size → v.ownBlock ≠ some k → w'.heap[k]? = wr.heap[k]? := fun k hk hn => by
    rcases ha with ⟨g', e1, _, hg⟩ | ⟨g', _, _, hg⟩
    · exact hg.block k hk (fun e => hn (by rw [e1, e]))
    · exact hg.block k hk (by intro e; cases e)
  refine h.block (hblk wb (by omega) hf) fun k h1 h2 h3 h4 => hblk k (by omega) (fun e => ?_)
  rcases hv' k e with q | q | q
  · exact h2 q
  · exact h4 q
  · omega

def KeepPostG (w : World) (B wb g : Nat) (hv : Value) (hs : List (Value × Int)) (H : Nat) (r : Ending) (w' : World) : Prop :=
  r = .returned (.tuple #[]) ∧ ∃ hv' hs', Inv w' B wb hv' hs' ∧ hs'.length = H + 4 ∧ Below B w w' ∧ Fr2 w w' g wb hv ∧ (∀ k, hv'.ownBlock = some k → hv.ownBlock = some k ∨ w.heap.size ≤ k) ∧ (∀ x ∈ hs', x ∈ hs ∨ ∀ k, x.1.ownBlock = some k → k = g ∨ w.heap.size ≤ k)

def Loop2G (w : World) (B wb mb g : Nat) (hv0 : Value) (hs0 : List (Value × Int)) (H n : Nat) (mark : Int) (j : Nat) (l : Value) (wr : World) : Prop :=
  ∃ hv hs, Inv wr B wb hv hs ∧ LInv wr B wb mb hv hs l (n + j) mark ∧ hs.length = H + 1 + j ∧ Below B w wr ∧ B ≤ wr.heap.size ∧ Fr2 w wr g wb hv0 ∧ (∀ k, l.ownBlock = some k → k = g ∨ w.heap.size ≤ k) ∧ (∀ k, hv.ownBlock = some k → hv0.ownBlock = some k ∨ w.heap.size ≤ k) ∧ w.heap.size ≤ wr.heap.size ∧ (∀ x ∈ hs, x ∈ hs0 ∨ ∀ k, x.1.ownBlock = some k → k = g ∨ w.heap.size ≤ k)

set_option maxRecDepth 100000 in
set_option maxHeartbeats 2000000 in
theorem keep_rowG (B wb : Nat) (hv : Value) (hs : List (Value × Int)) (g cap : Nat) (es : List Ev) (w : World) (h : Inv w B wb hv hs) (hrow : Row w g cap es) (hBg : B ≤ g) (hgw : g ≠ wb) (hgv : hv.ownBlock ≠ some g)
    (hgx : ∀ x ∈ hs, x.1.ownBlock ≠ some g) (hn : es.length ≤ 2097152) (hH : hs.length ≤ 10000000) :
    Calls Tryz.prog 22 #[.pointer (some ⟨wb, 0, none⟩), .slice (some ⟨g, 0, none⟩) es.length cap] w (KeepPostG w B wb g hv hs hs.length) := by
  obtain ⟨ha, hc, hvf⟩ := h.form
  have c1 := h.cell
  rw [hvf] at c1
  have HV := hidIt hvf
  have HI := hidIt h
  have hwl := h.wb_lt
  have HR := hidIt hrow
  obtain ⟨mark, hmark⟩ : ∃ m : Int, (hs.length : Int) + 1 = m := ⟨_, rfl⟩
  have hm0 : 0 ≤ mark := by omega
  have hm1 : mark ≤ 1073741824 := by omega
  have HM := hidIt hmark
  have hBw : B ≤ w.heap.size := Nat.le_trans h.base (Nat.le_of_lt h.wb_lt)
  have HBW := hidIt hBw
  have hcapn := hidIt (show es.length ≤ cap from by obtain ⟨cur, _, _, h3, _⟩ := hrow; exact h3)
  clear hvf h hrow
  go_enter Tryz.func22, Tryz.ntmps22
  go_wp2_with fail
  clear hmark
  refine (marked_any mark _ hm0 hm1).mono ?_
  rintro r w1 ⟨rfl, hb1⟩
  clear c1
  have hmem : EvAt (w1.alloc (.cells #[.int .u8 (mkEv mark).k, .int .u8 (mkEv mark).t, .int .u8 (mkEv mark).a, .int .i32 (mkEv mark).v, .int .i32 (mkEv mark).s] 45)) w1.heap.size 0 (mkEv mark) := ⟨by simp [go_sem], by simp [go_sem], by simp [go_sem], by simp [go_sem], by simp [go_sem]⟩
  have hb1' : Below w.heap.size w (w1.alloc (.cells #[.int .u8 (mkEv mark).k, .int .u8 (mkEv mark).t, .int .u8 (mkEv mark).a, .int .i32 (mkEv mark).v, .int .i32 (mkEv mark).s] 45)) := hb1.alloc hb1.size _
  have hglt := HR.out.lt
  have hgm : g ≠ w1.heap.size := by have := hb1.size; omega
  go_wp2_with fail
  go_loopw [6] (fun i wr => ∃ k : Nat, k ≤ es.length ∧ i = .int .i64 k ∧ Row wr g cap (List.replicate k (mkEv mark)) ∧ Inv wr B wb hv hs ∧ EvAt wr w1.heap.size 0 (mkEv mark) ∧ w1.heap.size < wr.heap.size ∧ Below B w wr ∧ Fr2 w wr g wb hv) (fun i _ => es.length - (intOf i).toNat)
  case atStart => exact ⟨0, by omega, rfl, Row.prefix (L := []) (M := es) (HR.out.below hb1' hglt), HI.out.below hb1', hmem, by simp, hb1'.mono HBW.out, ⟨fun k hk _ _ _ => hb1'.block k hk, by rw [World.cell?_of_block (a := ⟨wb, 0, none⟩) (hb1'.block wb hwl)], by rw [World.frozen?_of_block (a := ⟨wb, 0, none⟩) (hb1'.block wb hwl)]⟩⟩
  case round =>
    obtain ⟨k, hk, rfl, hrow, hinv, hme, hmlt, hnx, hfr⟩ := hrel
    by_cases hlt : k < es.length
    · have hlt' : (k : Int) < (es.length : Int) := by omega
      have hk0 : (0 : Int) ≤ (k : Int) := by omega
      have hcap := hcapn.out
      obtain ⟨m0, m1, m2, m3, m4⟩ := hme
      simp only [Nat.zero_add] at m1 m2 m3 m4
      obtain ⟨⟨x0, t0⟩, f0⟩ := hrow.there (k * 5) (by omega)
      obtain ⟨⟨x1, t1⟩, f1⟩ := hrow.there (k * 5 + 1) (by omega)
      obtain ⟨⟨x2, t2⟩, f2⟩ := hrow.there (k * 5 + 2) (by omega)
      obtain ⟨⟨x3, t3⟩, f3⟩ := hrow.there (k * 5 + 3) (by omega)
      obtain ⟨⟨x4, t4⟩, f4⟩ := hrow.there (k * 5 + 4) (by omega)
      have hrow4 := hrow.store (by simp; omega) (mkEv mark)
      rw [List.length_replicate, ← List.replicate_succ'] at hrow4
      have hb4 := store5_below hnx g (k * 5) (mkEv mark) hBg
      have hoth : ∀ j, j ≠ g → (store5 wr g (k * 5) (mkEv mark)).heap[j]? = wr.heap[j]? := fun j hj => store5_other wr g (k * 5) (mkEv mark) j hj
      have hinv4 : Inv (store5 wr g (k * 5) (mkEv mark)) B wb hv hs := hinv.stay (by rw [store5_size]; exact Nat.le_refl _) (hoth wb (Ne.symm hgw)) (fun j hj => hoth j (fun e => hgv (by rw [hj, e]))) (fun x hx j hj => hoth j (fun e => hgx x hx (by rw [hj, e])))
      have hme4 : EvAt (store5 wr g (k * 5) (mkEv mark)) w1.heap.size 0 (mkEv mark) := EvAt.of_heap ⟨m0, m1, m2, m3, m4⟩ (hoth w1.heap.size (Ne.symm hgm))
      have hsz4 : w1.heap.size < (store5 wr g (k * 5) (mkEv mark)).heap.size := by rw [store5_size]; exact hmlt
      have HALL := hidIt (And.intro hrow4 (And.intro hinv4 (And.intro hme4 (And.intro hsz4 (And.intro hb4 (hfr.store5 hgw (k * 5) (mkEv mark)))))))
      clear hrow4 hinv4 hme4 hsz4 hb4 hoth hfr
      go_wp2_with fail
      go_roundw
      case rel => exact ⟨k + 1, by omega, by go_num, HALL.out.1, HALL.out.2.1, HALL.out.2.2.1, HALL.out.2.2.2.1, HALL.out.2.2.2.2.1, HALL.out.2.2.2.2.2⟩
      case measure => simp [intOf]; omega
    · have hge : ¬ (k : Int) < (es.length : Int) := by omega
      have hke : k = es.length := by omega
      subst hke
      obtain ⟨i1, hi, hz0, hz1, hz2⟩ := info_parts Tryz.infoHold
      have HI1 := hidIt hi
      have HY0 := hidIt hz0
      have HY1 := hidIt hz1
      have HY2 := hidIt hz2
      clear hi hz0 hz1 hz2
      have hown0 := hrow.own B hBg
      rw [List.length_replicate] at hown0
      have hl : LInv wr B wb w1.heap.size hv hs (.slice (some ⟨g, 0, none⟩) es.length cap) es.length mark :=
        ⟨hown0, fun e => hgw (by simpa [Value.ownBlock] using e), fun e => hgm (by simpa [Value.ownBlock] using e), fun k hk e => hgv (by rw [e, ← hk]; rfl),
         fun e => by have := (HI.out.hv_lt _ e).2; have := hb1.size; omega, fun e => by have := HI.out.wb_lt; have := hb1.size; omega, hmlt, hme,
         fun x hx k hk hk' => absurd (by rw [hk, ← hk']; rfl) (hgx x hx)⟩
      have c1 := hinv.cell
      rw [HV.out] at c1
      have hBr : B ≤ wr.heap.size := Nat.le_trans hinv.base (Nat.le_of_lt hinv.wb_lt)
      have HIN := hidIt hinv
      have HL := hidIt hl
      have HFR := hidIt hfr
      clear hinv hl hown0 hrow hme hfr
      go_wp2_with (at_builtin; refine wpList_append_two _ rfl _ _ 28 rfl B 43 i1 (.agg #[.slice none 0 0, .int .i32 0]) 2 32 Tryz.underlying28 HI1.out HY0.out HY1.out HY2.out rfl (by decide) hv hs.length (holdCells hs) HV.out.symm (HIN.out.below ((Below.refl _ _).alloc (Nat.le_refl _) _)).row ⟨wr.heap.size, 0, none⟩ 1 1 [.slice (some ⟨g, 0, none⟩) es.length cap, .int .i32 mark] rfl rfl (hold_new wr _ _ _) ?c1 (by decide) ?c3 ?c4 ?c5 ?_)
      case c1 => exact ⟨rfl, rfl⟩
      case c3 => unfold maxLen; omega
      case c4 => omega
      case c5 => first | omega | (simp; omega)
      intro hv' w2 hown2 happ2
      obtain ⟨a', c', rfl⟩ := ownsRow_form hown2
      have hI2 := HIN.out.below ((Below.refl wr.heap.size wr).alloc (Nat.le_refl _) (.cells #[.slice (some ⟨g, 0, none⟩) es.length cap, .int .i32 mark] 43))
      have hL2 := HL.out.below ((Below.refl wr.heap.size wr).alloc (Nat.le_refl _) (.cells #[.slice (some ⟨g, 0, none⟩) es.length cap, .int .i32 mark] 43))
      obtain ⟨k1, k2⟩ := app_cell hI2 happ2
      have hb2 := below_app (hnx.alloc hBr (.cells #[.slice (some ⟨g, 0, none⟩) es.length cap, .int .i32 mark] 43)) happ2 (fun j hj => (HIN.out.hv_lt j hj).1) (by simp; omega)
      obtain ⟨s1, s2⟩ := step_holds hI2 hL2 hm0 hm1 (by omega) hown2 happ2
      have hw0a : w.heap.size ≤ (wr.alloc (.cells #[.slice (some ⟨g, 0, none⟩) es.length cap, .int .i32 mark] 43)).heap.size := by have := hnx.size; simp; omega
      have hw0b : w.heap.size ≤ (w2.setCell ⟨wb, 1, none⟩ (.slice a' (hs.length + 1) c')).heap.size := by have := app_size happ2; simp at this ⊢; simp at hw0a; omega
      have HSS : Hid (Loop2G w B wb w1.heap.size g hv hs hs.length es.length mark 0 (.slice (some ⟨g, 0, none⟩) es.length cap) (w2.setCell ⟨wb, 1, none⟩ (.slice a' (hs.length + 1) c'))) :=
        ⟨_, _, s1, s2, by simp, hb2.setCell (p := ⟨wb, 1, none⟩) HIN.out.base _, Nat.le_trans s1.base (Nat.le_of_lt s1.wb_lt), ((HFR.out.alloc hwl hnx.size _).app happ2 hwl HIN.out.far (fun k hk => Or.inr (Or.inl hk)) hw0a).set _, fun k hk => Or.inl (by simpa [Value.ownBlock] using hk.symm), fun k hk => (app_own happ2 k hk).imp id (fun q => Nat.le_trans hw0a q), hw0b, fun x hx => by
          rw [List.mem_append, List.mem_singleton] at hx
          rcases hx with hx | rfl
          · exact Or.inl hx
          · exact Or.inr (fun k hk => Or.inl (by simpa [Value.ownBlock] using hk.symm))⟩
      clear hI2 hL2 hb2 s1 s2 hown2 happ2 c1
      go_wp2_with fail
      go_loopw [1, 7] (fun l i wr => ∃ j : Nat, j ≤ 3 ∧ i = .int .i64 j ∧ Loop2G w B wb w1.heap.size g hv hs hs.length es.length mark j l wr) (fun _ i _ => 3 - (intOf i).toNat)
      case atStart => exact ⟨0, by omega, rfl, HSS.out⟩
      case round =>
        clear HSS k1 k2
        obtain ⟨j, hj, rfl, hvj, hsj, hij, hlj, hlen, hbj, hBj, hfj, hlo, hho, hwj, hxj⟩ := hrel
        have HFJ := hidIt (And.intro hfj (And.intro hlo (And.intro hho hwj)))
        have HXJ := hidIt hxj
        clear hfj hlo hho hwj hxj
        have HLEN := hidIt hlen
        have hlenb : hsj.length ≤ 10000004 := by omega
        clear hlen
        by_cases hlt3 : j < 3
        · have hlt3' : (j : Int) < 3 := by omega
          obtain ⟨i0, hi, hz0, hz1, hz2⟩ := info_parts Tryz.infoEv
          have HI0 := hidIt hi
          have HX0 := hidIt hz0
          have HX1 := hidIt hz1
          have HX2 := hidIt hz2
          clear hi hz0 hz1 hz2
          obtain ⟨m0, m1, m2, m3, m4⟩ := hlj.mcell
          simp only [Nat.zero_add] at m1 m2 m3 m4
          have HIJ := hidIt hij
          have HLJ := hidIt hlj
          clear hij hlj
          go_wp2_with (at_builtin; refine wpList_append_two _ rfl _ _ 31 rfl B 45 i0 (.agg #[.int .u8 0, .int .u8 0, .int .u8 0, .int .i32 0, .int .i32 0]) 5 12 Tryz.underlying31 HI0.out HX0.out HX1.out HX2.out rfl (by decide) _ _ _ rfl (HLJ.out.below ((Below.refl _ _).alloc (Nat.le_refl _) _)).own _ 1 1 (evC (mkEv mark)) rfl rfl (evC_new1 _ _ _) ?d1 (by decide) ?d3 ?d4 ?d5 ?_)
          case d1 => exact evC_one _
          case d3 => unfold maxLen; simp; omega
          case d4 => simp; omega
          case d5 => simp; omega
          intro lv' w3 hown3 happ3
          have hI3 := HIJ.out.below ((Below.refl wr.heap.size wr).alloc (Nat.le_refl _) (.cells #[.int .u8 (mkEv mark).k, .int .u8 (mkEv mark).t, .int .u8 (mkEv mark).a, .int .i32 (mkEv mark).v, .int .i32 (mkEv mark).s] 45))
          have hL3 := HLJ.out.below ((Below.refl wr.heap.size wr).alloc (Nat.le_refl _) (.cells #[.int .u8 (mkEv mark).k, .int .u8 (mkEv mark).t, .int .u8 (mkEv mark).a, .int .i32 (mkEv mark).v, .int .i32 (mkEv mark).s] 45))
          have howne : Own w3 B lv' (List.replicate (es.length + j + 1) (mkEv mark)) := by
            unfold Own
            rw [List.replicate_succ', evCells_append, List.length_append, List.length_replicate]
            simpa [evCells] using hown3
          have hb3 := below_app (hbj.alloc hBj (.cells #[.int .u8 (mkEv mark).k, .int .u8 (mkEv mark).t, .int .u8 (mkEv mark).a, .int .i32 (mkEv mark).v, .int .i32 (mkEv mark).s] 45)) happ3 (fun g hg => (World.ownsRow.lt HLJ.out.own g hg).1) (by simp; omega)
          obtain ⟨q1, q2⟩ := step_list hI3 hL3 (by omega) howne happ3
          have hw3a : w.heap.size ≤ (wr.alloc (.cells #[.int .u8 (mkEv mark).k, .int .u8 (mkEv mark).t, .int .u8 (mkEv mark).a, .int .i32 (mkEv mark).v, .int .i32 (mkEv mark).s] 45)).heap.size := by have := HFJ.out.2.2.2; simp; omega
          have hw3b : w.heap.size ≤ w3.heap.size := Nat.le_trans hw3a (app_size happ3)
          have HF3 : Hid (Fr2 w w3 g wb hv) := (HFJ.out.1.alloc hwl HFJ.out.2.2.2 _).app happ3 hwl HLJ.out.far (fun k hk => (HFJ.out.2.1 k hk).imp id Or.inr) hw3a
          have HL3 : Hid (∀ k, lv'.ownBlock = some k → k = g ∨ w.heap.size ≤ k) := fun k hk => (app_own happ3 k hk).elim (fun q => HFJ.out.2.1 k q) (fun q => Or.inr (Nat.le_trans hw3a q))
          obtain ⟨la, lc, rfl⟩ := ownsRow_form hown3
          obtain ⟨hja, hjc, rfl⟩ := q1.form
          have c3 := q1.cell
          have hB3 : B ≤ w3.heap.size := Nat.le_trans q1.base (Nat.le_of_lt q1.wb_lt)
          have HQ1 := hidIt q1
          have HQ2 := hidIt q2
          clear hI3 hL3 howne hown3 happ3 q1 q2 m0 m1 m2 m3 m4
          go_wp2_with (at_builtin; refine wpList_append_two _ rfl _ _ 28 rfl B 43 i1 (.agg #[.slice none 0 0, .int .i32 0]) 2 32 Tryz.underlying28 HI1.out HY0.out HY1.out HY2.out rfl (by decide) _ _ _ rfl (HQ1.out.below ((Below.refl _ _).alloc (Nat.le_refl _) _)).row _ 1 1 [.slice la (es.length + j + 1) lc, .int .i32 mark] rfl rfl (hold_new w3 _ _ _) ?e1 (by decide) ?e3 ?e4 ?e5 ?_)
          case e1 => exact hold_cells_one (.slice la (es.length + j + 1) lc) mark rfl
          case e3 => unfold maxLen; omega
          case e4 => omega
          case e5 => first | omega | (simp; omega)
          intro hv4 w4 hown4 happ4
          obtain ⟨a4, c4, rfl⟩ := ownsRow_form hown4
          have hI4 := HQ1.out.below ((Below.refl w3.heap.size w3).alloc (Nat.le_refl _) (.cells #[.slice la (es.length + j + 1) lc, .int .i32 mark] 43))
          have hL4 := HQ2.out.below ((Below.refl w3.heap.size w3).alloc (Nat.le_refl _) (.cells #[.slice la (es.length + j + 1) lc, .int .i32 mark] 43))
          obtain ⟨k1, k2⟩ := app_cell hI4 happ4
          have hb4 := below_app (hb3.alloc hB3 (.cells #[.slice la (es.length + j + 1) lc, .int .i32 mark] 43)) happ4 (fun g hg => (HQ1.out.hv_lt g hg).1) (by simp; omega)
          obtain ⟨s1, s2⟩ := step_holds hI4 hL4 hm0 hm1 (by omega) hown4 happ4
          have hw4a : w.heap.size ≤ (w3.alloc (.cells #[.slice la (es.length + j + 1) lc, .int .i32 mark] 43)).heap.size := by simp; omega
          have hw4b : w.heap.size ≤ (w4.setCell ⟨wb, 1, none⟩ (.slice a4 (hsj.length + 1) c4)).heap.size := by have := app_size happ4; simp at this ⊢; simp at hw4a; omega
          have HSS : Hid (Loop2G w B wb w1.heap.size g hv hs hs.length es.length mark (j + 1) (.slice la (es.length + j + 1) lc) (w4.setCell ⟨wb, 1, none⟩ (.slice a4 (hsj.length + 1) c4))) :=
            ⟨_, _, s1, s2, by rw [List.length_append, HLEN.out]; rfl, hb4.setCell (p := ⟨wb, 1, none⟩) HQ1.out.base _, Nat.le_trans s1.base (Nat.le_of_lt s1.wb_lt), ((HF3.out.alloc hwl hw3b _).app happ4 hwl HQ1.out.far (fun k hk => Or.inr (HFJ.out.2.2.1 k hk)) hw4a).set _, HL3.out, fun k hk => (app_own happ4 k hk).elim (fun q => HFJ.out.2.2.1 k q) (fun q => Or.inr (Nat.le_trans hw4a q)), hw4b, fun x hx => by
              rw [List.mem_append, List.mem_singleton] at hx
              rcases hx with hx | rfl
              · exact HXJ.out x hx
              · exact Or.inr HL3.out⟩
          clear hI4 hL4 hb4 s1 s2 hown4 happ4 c3
          go_wp2_with fail
          go_roundw
          case rel => exact ⟨j + 1, by omega, by go_num, HSS.out⟩
          case measure => simp [intOf]; omega
        · have hge3 : ¬ (j : Int) < 3 := by omega
          have hj3 : j = 3 := by omega
          subst hj3
          go_wp2_with fail
          go_end0
          exact ⟨rfl, hvj, hsj, hij, by rw [HLEN.out], hbj, HFJ.out.1, HFJ.out.2.2.1, HXJ.out⟩

end Go.Proofs.YtfdalbmopaemgabGreatDoor

namespace Go.Proofs.YtfdalbmopaemgabGreatDoor
open Go.RowKit

set_option maxRecDepth 100000 in
set_option maxHeartbeats 2000000 in
theorem keep_nilG (B wb : Nat) (hv : Value) (hs : List (Value × Int)) (w : World) (h : Inv w B wb hv hs) (hH : hs.length ≤ 10000000) :
    Calls Tryz.prog 22 #[.pointer (some ⟨wb, 0, none⟩), .slice none 0 0] w (KeepPostG w B wb wb hv hs hs.length) := by
  obtain ⟨ha, hc, hvf⟩ := h.form
  have c1 := h.cell
  rw [hvf] at c1
  have HV := hidIt hvf
  have HI := hidIt h
  have hwl := h.wb_lt
  obtain ⟨mark, hmark⟩ : ∃ m : Int, (hs.length : Int) + 1 = m := ⟨_, rfl⟩
  have hm0 : 0 ≤ mark := by omega
  have hm1 : mark ≤ 1073741824 := by omega
  have HM := hidIt hmark
  have hBw : B ≤ w.heap.size := Nat.le_trans h.base (Nat.le_of_lt h.wb_lt)
  have HBW := hidIt hBw
  clear hvf h
  obtain ⟨n0, hn0⟩ : ∃ n0, Hid (0 = n0) := ⟨0, rfl⟩
  have hn00 : n0 ≤ 0 := Nat.le_of_eq hn0.out.symm
  go_enter Tryz.func22, Tryz.ntmps22
  go_wp2_with fail
  clear hmark
  refine (marked_any mark _ hm0 hm1).mono ?_
  rintro r w1 ⟨rfl, hb1⟩
  clear c1
  have hmem : EvAt (w1.alloc (.cells #[.int .u8 (mkEv mark).k, .int .u8 (mkEv mark).t, .int .u8 (mkEv mark).a, .int .i32 (mkEv mark).v, .int .i32 (mkEv mark).s] 45)) w1.heap.size 0 (mkEv mark) := ⟨by simp [go_sem], by simp [go_sem], by simp [go_sem], by simp [go_sem], by simp [go_sem]⟩
  have hb1' : Below w.heap.size w (w1.alloc (.cells #[.int .u8 (mkEv mark).k, .int .u8 (mkEv mark).t, .int .u8 (mkEv mark).a, .int .i32 (mkEv mark).v, .int .i32 (mkEv mark).s] 45)) := hb1.alloc hb1.size _
  go_wp2_with fail
  go_loopw [6] (fun i wr => i = .int .i64 0 ∧ Inv wr B wb hv hs ∧ EvAt wr w1.heap.size 0 (mkEv mark) ∧ w1.heap.size < wr.heap.size ∧ Below B w wr ∧ Fr2 w wr wb wb hv) (fun _ _ => 0)
  case atStart => exact ⟨rfl, HI.out.below hb1', hmem, by simp, hb1'.mono HBW.out, ⟨fun k hk _ _ _ => hb1'.block k hk, by rw [World.cell?_of_block (a := ⟨wb, 0, none⟩) (hb1'.block wb hwl)], by rw [World.frozen?_of_block (a := ⟨wb, 0, none⟩) (hb1'.block wb hwl)]⟩⟩
  case round =>
    obtain ⟨rfl, hinv, hme, hmlt, hnx, hfr⟩ := hrel
    · have hge : ¬ (0 : Int) < 0 := by omega
      obtain ⟨i1, hi, hz0, hz1, hz2⟩ := info_parts Tryz.infoHold
      have HI1 := hidIt hi
      have HY0 := hidIt hz0
      have HY1 := hidIt hz1
      have HY2 := hidIt hz2
      clear hi hz0 hz1 hz2
      have hl : LInv wr B wb w1.heap.size hv hs (.slice none 0 0) 0 mark :=
        ⟨Own.nil _ _, by simp [Value.ownBlock], by simp [Value.ownBlock], fun k hk => by simp [Value.ownBlock] at hk,
         fun e => by have := (HI.out.hv_lt _ e).2; have := hb1.size; omega, fun e => by have := HI.out.wb_lt; have := hb1.size; omega, hmlt, hme,
         fun x hx k hk hk' => by simp [Value.ownBlock] at hk'⟩
      have c1 := hinv.cell
      rw [HV.out] at c1
      have hBr : B ≤ wr.heap.size := Nat.le_trans hinv.base (Nat.le_of_lt hinv.wb_lt)
      have HIN := hidIt hinv
      have HL := hidIt hl
      have HFR := hidIt hfr
      clear hinv hl hme hfr
      go_wp2_with (at_builtin; refine wpList_append_two _ rfl _ _ 28 rfl B 43 i1 (.agg #[.slice none 0 0, .int .i32 0]) 2 32 Tryz.underlying28 HI1.out HY0.out HY1.out HY2.out rfl (by decide) hv hs.length (holdCells hs) HV.out.symm (HIN.out.below ((Below.refl _ _).alloc (Nat.le_refl _) _)).row ⟨wr.heap.size, 0, none⟩ 1 1 [.slice none 0 0, .int .i32 mark] rfl rfl (hold_new wr _ _ _) ?c1 (by decide) ?c3 ?c4 ?c5 ?_)
      case c1 => exact ⟨rfl, rfl⟩
      case c3 => unfold maxLen; omega
      case c4 => omega
      case c5 => first | omega | (simp; omega)
      intro hv' w2 hown2 happ2
      obtain ⟨a', c', rfl⟩ := ownsRow_form hown2
      have hI2 := HIN.out.below ((Below.refl wr.heap.size wr).alloc (Nat.le_refl _) (.cells #[.slice none 0 0, .int .i32 mark] 43))
      have hL2 := HL.out.below ((Below.refl wr.heap.size wr).alloc (Nat.le_refl _) (.cells #[.slice none 0 0, .int .i32 mark] 43))
      obtain ⟨k1, k2⟩ := app_cell hI2 happ2
      have hb2 := below_app (hnx.alloc hBr (.cells #[.slice none 0 0, .int .i32 mark] 43)) happ2 (fun j hj => (HIN.out.hv_lt j hj).1) (by simp; omega)
      obtain ⟨s1, s2⟩ := step_holds hI2 hL2 hm0 hm1 (by omega) hown2 happ2
      have hw0a : w.heap.size ≤ (wr.alloc (.cells #[.slice none 0 0, .int .i32 mark] 43)).heap.size := by have := hnx.size; simp; omega
      have hw0b : w.heap.size ≤ (w2.setCell ⟨wb, 1, none⟩ (.slice a' (hs.length + 1) c')).heap.size := by have := app_size happ2; simp at this ⊢; simp at hw0a; omega
      have HSS : Hid (Loop2G w B wb w1.heap.size wb hv hs hs.length n0 mark 0 (.slice none 0 0) (w2.setCell ⟨wb, 1, none⟩ (.slice a' (hs.length + 1) c'))) :=
        by
        have hn0' := hn0.out
        subst hn0'
        exact ⟨_, _, s1, s2, by simp, hb2.setCell (p := ⟨wb, 1, none⟩) HIN.out.base _, Nat.le_trans s1.base (Nat.le_of_lt s1.wb_lt), ((HFR.out.alloc hwl hnx.size _).app happ2 hwl HIN.out.far (fun k hk => Or.inr (Or.inl hk)) hw0a).set _, fun k hk => (by simp [Value.ownBlock] at hk), fun k hk => (app_own happ2 k hk).imp id (fun q => Nat.le_trans hw0a q), hw0b, fun x hx => by
          rw [List.mem_append, List.mem_singleton] at hx
          rcases hx with hx | rfl
          · exact Or.inl hx
          · exact Or.inr (fun k hk => (by simp [Value.ownBlock] at hk))⟩
      clear hI2 hL2 hb2 s1 s2 hown2 happ2 c1
      go_wp2_with fail
      go_loopw [1, 7] (fun l i wr => ∃ j : Nat, j ≤ 3 ∧ i = .int .i64 j ∧ Loop2G w B wb w1.heap.size wb hv hs hs.length n0 mark j l wr) (fun _ i _ => 3 - (intOf i).toNat)
      case atStart => exact ⟨0, by omega, rfl, HSS.out⟩
      case round =>
        clear HSS k1 k2
        obtain ⟨j, hj, rfl, hvj, hsj, hij, hlj, hlen, hbj, hBj, hfj, hlo, hho, hwj, hxj⟩ := hrel
        have HFJ := hidIt (And.intro hfj (And.intro hlo (And.intro hho hwj)))
        have HXJ := hidIt hxj
        clear hfj hlo hho hwj hxj
        have HLEN := hidIt hlen
        have hlenb : hsj.length ≤ 10000004 := by omega
        clear hlen
        by_cases hlt3 : j < 3
        · have hlt3' : (j : Int) < 3 := by omega
          obtain ⟨i0, hi, hz0, hz1, hz2⟩ := info_parts Tryz.infoEv
          have HI0 := hidIt hi
          have HX0 := hidIt hz0
          have HX1 := hidIt hz1
          have HX2 := hidIt hz2
          clear hi hz0 hz1 hz2
          obtain ⟨m0, m1, m2, m3, m4⟩ := hlj.mcell
          simp only [Nat.zero_add] at m1 m2 m3 m4
          have HIJ := hidIt hij
          have HLJ := hidIt hlj
          clear hij hlj
          go_wp2_with (at_builtin; refine wpList_append_two _ rfl _ _ 31 rfl B 45 i0 (.agg #[.int .u8 0, .int .u8 0, .int .u8 0, .int .i32 0, .int .i32 0]) 5 12 Tryz.underlying31 HI0.out HX0.out HX1.out HX2.out rfl (by decide) _ _ _ rfl (HLJ.out.below ((Below.refl _ _).alloc (Nat.le_refl _) _)).own _ 1 1 (evC (mkEv mark)) rfl rfl (evC_new1 _ _ _) ?d1 (by decide) ?d3 ?d4 ?d5 ?_)
          case d1 => exact evC_one _
          case d3 => unfold maxLen; simp; omega
          case d4 => simp; omega
          case d5 => simp; omega
          intro lv' w3 hown3 happ3
          have hI3 := HIJ.out.below ((Below.refl wr.heap.size wr).alloc (Nat.le_refl _) (.cells #[.int .u8 (mkEv mark).k, .int .u8 (mkEv mark).t, .int .u8 (mkEv mark).a, .int .i32 (mkEv mark).v, .int .i32 (mkEv mark).s] 45))
          have hL3 := HLJ.out.below ((Below.refl wr.heap.size wr).alloc (Nat.le_refl _) (.cells #[.int .u8 (mkEv mark).k, .int .u8 (mkEv mark).t, .int .u8 (mkEv mark).a, .int .i32 (mkEv mark).v, .int .i32 (mkEv mark).s] 45))
          have howne : Own w3 B lv' (List.replicate (n0 + j + 1) (mkEv mark)) := by
            unfold Own
            rw [List.replicate_succ', evCells_append, List.length_append, List.length_replicate]
            simpa [evCells] using hown3
          have hb3 := below_app (hbj.alloc hBj (.cells #[.int .u8 (mkEv mark).k, .int .u8 (mkEv mark).t, .int .u8 (mkEv mark).a, .int .i32 (mkEv mark).v, .int .i32 (mkEv mark).s] 45)) happ3 (fun g hg => (World.ownsRow.lt HLJ.out.own g hg).1) (by simp; omega)
          obtain ⟨q1, q2⟩ := step_list hI3 hL3 (by omega) howne happ3
          have hw3a : w.heap.size ≤ (wr.alloc (.cells #[.int .u8 (mkEv mark).k, .int .u8 (mkEv mark).t, .int .u8 (mkEv mark).a, .int .i32 (mkEv mark).v, .int .i32 (mkEv mark).s] 45)).heap.size := by have := HFJ.out.2.2.2; simp; omega
          have hw3b : w.heap.size ≤ w3.heap.size := Nat.le_trans hw3a (app_size happ3)
          have HF3 : Hid (Fr2 w w3 wb wb hv) := (HFJ.out.1.alloc hwl HFJ.out.2.2.2 _).app happ3 hwl HLJ.out.far (fun k hk => (HFJ.out.2.1 k hk).imp id Or.inr) hw3a
          have HL3 : Hid (∀ k, lv'.ownBlock = some k → k = wb ∨ w.heap.size ≤ k) := fun k hk => (app_own happ3 k hk).elim (fun q => HFJ.out.2.1 k q) (fun q => Or.inr (Nat.le_trans hw3a q))
          obtain ⟨la, lc, rfl⟩ := ownsRow_form hown3
          obtain ⟨hja, hjc, rfl⟩ := q1.form
          have c3 := q1.cell
          have hB3 : B ≤ w3.heap.size := Nat.le_trans q1.base (Nat.le_of_lt q1.wb_lt)
          have HQ1 := hidIt q1
          have HQ2 := hidIt q2
          clear hI3 hL3 howne hown3 happ3 q1 q2 m0 m1 m2 m3 m4
          go_wp2_with (at_builtin; refine wpList_append_two _ rfl _ _ 28 rfl B 43 i1 (.agg #[.slice none 0 0, .int .i32 0]) 2 32 Tryz.underlying28 HI1.out HY0.out HY1.out HY2.out rfl (by decide) _ _ _ rfl (HQ1.out.below ((Below.refl _ _).alloc (Nat.le_refl _) _)).row _ 1 1 [.slice la (n0 + j + 1) lc, .int .i32 mark] rfl rfl (hold_new w3 _ _ _) ?e1 (by decide) ?e3 ?e4 ?e5 ?_)
          case e1 => exact hold_cells_one (.slice la (n0 + j + 1) lc) mark rfl
          case e3 => unfold maxLen; omega
          case e4 => omega
          case e5 => first | omega | (simp; omega)
          intro hv4 w4 hown4 happ4
          obtain ⟨a4, c4, rfl⟩ := ownsRow_form hown4
          have hI4 := HQ1.out.below ((Below.refl w3.heap.size w3).alloc (Nat.le_refl _) (.cells #[.slice la (n0 + j + 1) lc, .int .i32 mark] 43))
          have hL4 := HQ2.out.below ((Below.refl w3.heap.size w3).alloc (Nat.le_refl _) (.cells #[.slice la (n0 + j + 1) lc, .int .i32 mark] 43))
          obtain ⟨k1, k2⟩ := app_cell hI4 happ4
          have hb4 := below_app (hb3.alloc hB3 (.cells #[.slice la (n0 + j + 1) lc, .int .i32 mark] 43)) happ4 (fun g hg => (HQ1.out.hv_lt g hg).1) (by simp; omega)
          obtain ⟨s1, s2⟩ := step_holds hI4 hL4 hm0 hm1 (by omega) hown4 happ4
          have hw4a : w.heap.size ≤ (w3.alloc (.cells #[.slice la (n0 + j + 1) lc, .int .i32 mark] 43)).heap.size := by simp; omega
          have hw4b : w.heap.size ≤ (w4.setCell ⟨wb, 1, none⟩ (.slice a4 (hsj.length + 1) c4)).heap.size := by have := app_size happ4; simp at this ⊢; simp at hw4a; omega
          have HSS : Hid (Loop2G w B wb w1.heap.size wb hv hs hs.length n0 mark (j + 1) (.slice la (n0 + j + 1) lc) (w4.setCell ⟨wb, 1, none⟩ (.slice a4 (hsj.length + 1) c4))) :=
            ⟨_, _, s1, s2, by rw [List.length_append, HLEN.out]; rfl, hb4.setCell (p := ⟨wb, 1, none⟩) HQ1.out.base _, Nat.le_trans s1.base (Nat.le_of_lt s1.wb_lt), ((HF3.out.alloc hwl hw3b _).app happ4 hwl HQ1.out.far (fun k hk => Or.inr (HFJ.out.2.2.1 k hk)) hw4a).set _, HL3.out, fun k hk => (app_own happ4 k hk).elim (fun q => HFJ.out.2.2.1 k q) (fun q => Or.inr (Nat.le_trans hw4a q)), hw4b, fun x hx => by
              rw [List.mem_append, List.mem_singleton] at hx
              rcases hx with hx | rfl
              · exact HXJ.out x hx
              · exact Or.inr HL3.out⟩
          clear hI4 hL4 hb4 s1 s2 hown4 happ4 c3
          go_wp2_with fail
          go_roundw
          case rel => exact ⟨j + 1, by omega, by go_num, HSS.out⟩
          case measure => simp [intOf]; omega
        · have hge3 : ¬ (j : Int) < 3 := by omega
          have hj3 : j = 3 := by omega
          subst hj3
          go_wp2_with fail
          go_end0
          exact ⟨rfl, hvj, hsj, hij, by rw [HLEN.out], hbj, HFJ.out.1, HFJ.out.2.2.1, HXJ.out⟩

end Go.Proofs.YtfdalbmopaemgabGreatDoor

namespace Go.Proofs.YtfdalbmopaemgabGreatDoor
open Go.RowKit

/-- A list is kept: g is its block, or wb where it has none. -/
theorem GInv.kept {St : World → (Nat → Prop) → Value → List Ev → Prop} (I : StOk St) {w w' : World} {B wb g : Nat} {hv pv : Value} {hs : List (Value × Int)} {ds : List PlD} (h : GInv St w B wb hv hs pv ds) (hgp : pv.ownBlock ≠ some g) (hgd : ∀ i (hi : i < ds.length), ¬ ds[i].own g) {r : Ending} (hk : KeepPostG w B wb g hv hs hs.length r w') :
    r = .returned (.tuple #[]) ∧ ∃ hv' hs', GInv St w' B wb hv' hs' pv ds ∧ hs'.length = hs.length + 4 ∧ Below B w w' := by
  obtain ⟨rfl, hv', hs', hinv, hlen, hb, ⟨f1, f2, f3⟩, hvi, hxi⟩ := hk
  have hpl := fun k hk => (World.ownsRow.lt h.prow k hk).2
  have hsep : ∀ i (hi : i < ds.length), ∀ k, ds[i].own k → w'.heap[k]? = w.heap[k]? := fun i hi k hk => by
    have q := h.sep i hi k hk
    exact f1 k (PlD.own_lt I (h.each i hi) hk) (fun e => hgd i hi (by rw [← e]; exact hk)) q.1 q.2.1
  refine ⟨rfl, hv', hs', ⟨hinv, by rw [f2]; exact h.pcell, by rw [f3]; exact h.pfz, ownsRow_of_heap h.prow fun k hk => f1 k (hpl k hk) (fun e => hgp (by rw [← e]; exact hk)) (fun e => h.pfar (by rw [← e]; exact hk)) (h.pap k hk), h.pfar, fun k hk e => ?_, fun x hx k hk e => ?_, fun i hi => (h.each i hi).same I hb.size (hsep i hi), fun i hi k hk => ?_, h.two⟩, hlen, hb⟩
  · rcases hvi k e with q | q
    · exact h.pap k hk q
    · have := hpl k hk; omega
  · rcases hxi x hx with q | q
    · exact h.pho x q k hk e
    · rcases q k hk with q | q
      · exact hgp (by rw [← q]; exact e)
      · have := hpl k e; omega
  · have q := h.sep i hi k hk
    have hlt := PlD.own_lt I (h.each i hi) hk
    refine ⟨q.1, fun e => ?_, q.2.2.1, fun x hx e => ?_⟩
    · rcases hvi k e with q' | q'
      · exact q.2.1 q'
      · omega
    · rcases hxi x hx with q' | q'
      · exact q.2.2.2 x q' e
      · rcases q' k e with q' | q'
        · exact hgd i hi (by rw [← q']; exact hk)
        · omega

/-- A fresh list is kept, among players. -/
theorem keep_ownG {St : World → (Nat → Prop) → Value → List Ev → Prop} (I : StOk St) (B wb : Nat) (hv pv : Value) (hs : List (Value × Int)) (ds : List PlD) (v : Value) (N : Nat) (es : List Ev) (w : World) (h : GInv St w B wb hv hs pv ds) (hown : Own w N v es) (hN : B ≤ N) (hw : wb < N) (hgv : ∀ g, hv.ownBlock = some g → g < N) (hgx : ∀ x ∈ hs, ∀ g, x.1.ownBlock = some g → g < N) (hgp : ∀ g, pv.ownBlock = some g → g < N) (hgd : ∀ g, v.ownBlock = some g → ∀ i (hi : i < ds.length), ¬ ds[i].own g) (hl : es.length ≤ 2097152) (hH : hs.length ≤ 10000000) :
    Calls Tryz.prog 22 #[.pointer (some ⟨wb, 0, none⟩), v] w fun r w' => r = .returned (.tuple #[]) ∧ ∃ hv' hs', GInv St w' B wb hv' hs' pv ds ∧ hs'.length = hs.length + 4 ∧ Below B w w' := by
  rcases hown.2 with ⟨rfl, h0⟩ | ⟨g, cap, cur, rfl, h1, h2, h3, h4, h5, h6⟩
  · exact (keep_nilG B wb hv hs w h.inv hH).mono fun r w' hk => h.kept I h.pfar (fun i hi q => (h.sep i hi wb q).1 rfl) hk
  · have hrow : Row w g cap es := ⟨cur, h2, h5, h3, h4, h6⟩
    refine (keep_rowG B wb hv hs g cap es w h.inv hrow (by omega) (by omega) (fun e => by have := hgv g e; omega) (fun x hx e => by have := hgx x hx g e; omega) hl hH).mono fun r w' hk => h.kept I (fun e => by have := hgp g e; omega) (fun i hi => hgd g rfl i hi) hk

end Go.Proofs.YtfdalbmopaemgabGreatDoor

namespace Go.Proofs.YtfdalbmopaemgabGreatDoor
open Go.RowKit

/-- What is asked of History: a fresh list. -/
def StHist (St : World → (Nat → Prop) → Value → List Ev → Prop) : Prop := ∀ (w : World) (F : Nat → Prop) (p : Value) (es : List Ev), St w F p es → Calls Tryz.prog 34 #[p] w fun r w' => ∃ v' F', r = .returned v' ∧ Own w' w.heap.size v' es ∧ (∀ g, v'.ownBlock = some g → ¬ F' g) ∧ St w' F' p es ∧ (∀ k, k < w.heap.size → ¬ F k → w'.heap[k]? = w.heap[k]?) ∧ (∀ k, F' k → F k ∨ w.heap.size ≤ k) ∧ Below 0 w w'

theorem Pl.asked {St : World → (Nat → Prop) → Value → List Ev → Prop} {w w' : World} {B pb : Nat} {F F' : Nat → Prop} {sp hv : Value} {es : List Ev} (h : Pl St w B pb F sp hv es) (h1 : St w' F' sp es) (h2 : ∀ k, k < w.heap.size → ¬ F k → w'.heap[k]? = w.heap[k]?) (h3 : ∀ k, F' k → F k ∨ w.heap.size ≤ k) (hB : B ≤ w.heap.size) : Pl St w' B pb F' sp hv es := by
  have hp := h2 pb h.lt h.pbF
  have hn : ∀ k, k < w.heap.size → ¬ F k → ¬ F' k := fun k hk hf q => by
    rcases h3 k q with h5 | h5
    · exact hf h5
    · omega
  exact ⟨by rw [World.cell?_of_block (a := ⟨pb, 0, none⟩) hp]; exact h.c0, by rw [World.cell?_of_block (a := ⟨pb, 1, none⟩) hp]; exact h.c1, by rw [World.frozen?_of_block (a := ⟨pb, 1, none⟩) hp]; exact h.fz, h1, ⟨ownsRow_of_heap h.hist.1 fun g hg => h2 g (World.ownsRow.lt h.hist.1 g hg).2 (h.hvF g hg), h.hist.2⟩, hn pb h.lt h.pbF, fun g hg => hn g (World.ownsRow.lt h.hist.1 g hg).2 (h.hvF g hg), h.hvp, h.base, fun k hk => (h3 k hk).elim (h.baseF k) (fun q => Nat.le_trans hB q)⟩

/-- What a step of a script leaves, where there are players. -/
def GPost (St : World → (Nat → Prop) → Value → List Ev → Prop) (w : World) (B wb : Nat) (pv : Value) (H n : Nat) (r : Ending) (w' : World) : Prop :=
  r = .returned (.bool true) ∧ ∃ hv' hs' ds', GInv St w' B wb hv' hs' pv ds' ∧ hs'.length ≤ H + 4 ∧ ds'.length = n ∧ Below B w w'

set_option maxRecDepth 100000 in
set_option maxHeartbeats 4000000 in
theorem asked_history {St : World → (Nat → Prop) → Value → List Ev → Prop} (I : StOk St) (J : StHist St) (B wb : Nat) (hv pv : Value) (hs : List (Value × Int)) (ds : List PlD) (i : Nat) (hi : i < ds.length) (on ot ox ov : Int) (ha : Option Addr) (hl hc : Nat) (os : ByteArray) (w : World) (h : GInv St w B wb hv hs pv ds) (hH : hs.length ≤ 10000000) :
    Calls Tryz.prog 15 #[.pointer (some ⟨wb, 0, none⟩), .pointer (some ⟨ds[i].pb, 0, none⟩), opV ⟨14, on, ot, ox, ov, .slice ha hl hc, os⟩] w (GPost St w B wb pv hs.length ds.length) := by
  have hbx : Below w.heap.size w (w.alloc (opC ⟨14, on, ot, ox, ov, .slice ha hl hc, os⟩)) := (Below.refl _ _).alloc (Nat.le_refl _) _
  have hBw : B ≤ w.heap.size := Nat.le_trans h.inv.base (Nat.le_of_lt h.inv.wb_lt)
  have hg1 := h.below I hbx
  have hp1 := hg1.each i hi
  have hp0 := h.each i hi
  have HG0 := hidIt h
  obtain ⟨pb, hpb⟩ : ∃ pb, ds[i].pb = pb := ⟨_, rfl⟩
  obtain ⟨sb, hsb⟩ := I.form hp1.st
  obtain ⟨va, vc, hva⟩ := hp1.hist.1.form
  have c0 := hp0.c0
  have hlt := hp0.lt
  rw [hsb, hpb] at c0
  rw [hpb] at hlt
  have HCB := hidIt (J _ _ _ _ hp1.st)
  rw [hsb] at HCB
  have HLEN := hidIt (I.len hp1.st)
  have HVA := hidIt hva
  have HSB := hidIt hsb
  have HPB := hidIt hpb
  have HG1 := hidIt hg1
  have HP1 := hidIt hp1
  rw [hpb]
  clear h hg1 hp1 hp0 hsb hva hpb
  go_enter Tryz.func15, Tryz.ntmps15
  go_wp2_with fail
  refine HCB.out.mono ?_
  rintro r w2 ⟨v', F', rfl, hown, hfr, hst, hre, hgr, hnx⟩
  rw [← HSB.out] at hst
  have hB1 : B ≤ (w.alloc (opC ⟨14, on, ot, ox, ov, .slice ha hl hc, os⟩)).heap.size := by simp; omega
  have hp2 := HP1.out.asked hst hre hgr hB1
  obtain ⟨d, hd⟩ : ∃ d : PlD, d = ⟨ds[i].pb, F', ds[i].sp, ds[i].hv, ds[i].es⟩ := ⟨_, rfl⟩
  obtain ⟨hg2, hb2⟩ := HG1.out.act_at I i hi F' ds[i].hv ds[i].es d hd hp2 (fun k hk hf _ => hre k hk hf) hgr (fun g hg => Or.inl hg) hnx
  have c1 := hp2.c1
  rw [HVA.out, HPB.out] at c1
  have hpl : pb < w2.heap.size := World.block_lt_of_cell? w2 ⟨pb, 1, none⟩ c1
  have hsl : SlEv w2 (.slice va ds[i].es.length vc) ds[i].es := by have := hp2.hist.slEv; rwa [HVA.out] at this
  obtain ⟨a1, c1', hv1⟩ := hown.form
  subst hv1
  have hnew : ∀ g, (Value.slice a1 ds[i].es.length c1').ownBlock = some g → ∀ j (hj : j < (ds.set i d).length), ¬ (ds.set i d)[j].own g := fun g hg j hj q => by
    have hge := (World.ownsRow.lt hown g hg).1
    have hj' : j < ds.length := by simpa using hj
    rw [List.getElem_set] at q
    by_cases e : i = j
    · rw [if_pos e, hd] at q
      rcases q with q | q | q
      · have := HP1.out.lt; simp only at q; omega
      · exact hfr g hg q
      · have := (World.ownsRow.lt HP1.out.hist.1 g q).2; omega
    · rw [if_neg e] at q
      have := PlD.own_lt I (HG1.out.each j hj') q
      omega
  have HA := hidIt (And.intro hown (And.intro hg2 (And.intro hb2 hnew)))
  have HSL := hidIt hsl
  clear hown hfr hst hre hgr hnx hp2 hg2 hb2 hnew hsl hd
  go_wp2_with fail
  refine (same_all _ _ ds[i].es _ HA.out.1.slEv HSL.out (by have := HLEN.out; omega)).mono ?_
  rintro r w3 ⟨rfl, n3, rfl⟩
  have hb3 : Below w2.heap.size w2 (w2.drewN n3) := below_drewN (Below.refl _ _) n3
  have HK := hidIt (keep_ownG I B wb hv pv hs (ds.set i d) (.slice a1 ds[i].es.length c1') _ ds[i].es (w2.drewN n3) (HA.out.2.1.below I hb3) (HA.out.1.below hb3) hB1 (by have := HG0.out.inv.wb_lt; simp; omega) (fun g hg => by have := (HG0.out.inv.hv_lt g hg).2; simp; omega) (fun x hx g hg => by have := ((HG0.out.inv.each x hx).lt g hg).2; simp; omega) (fun g hg => by have := (World.ownsRow.lt HG0.out.prow g hg).2; simp; omega) HA.out.2.2.2 (by have := HLEN.out; omega) hH)
  go_wp2_with fail
  refine HK.out.mono ?_
  rintro r w5 ⟨rfl, hv', hs', hi5, hl5, hb5⟩
  have HR := hidIt (And.intro hi5 (And.intro hl5 hb5))
  clear hi5 hl5 hb5
  go_wp2_with fail
  go_ret
  exact ⟨ret_bool (by simp), hv', hs', _, HR.out.1, by have := HR.out.2.1; omega, by simp, ((hbx.mono hBw).trans (HA.out.2.2.1.trans (hb3.mono (Nat.le_trans hB1 HA.out.2.2.1.size)))).trans HR.out.2.2⟩

end Go.Proofs.YtfdalbmopaemgabGreatDoor
