import Derived.Test.YtfdalbmopaemgaaGreatDoorZU1
import Derived.Deep.RegionHeld3
import Derived.Test.YtfdalbmopaemgaaGreatDoorZS7
namespace Go.Proofs.YtfdalbmopaemgaaGreatDoor
open Go.RowKit

def holdersA (es : List Ev) (x : Int) : Nat × Nat × Int := if 4 ≤ x then (0, 0, 6) else ((holdersL es x).1, (holdersL es x).2, 0)

theorem refHolders_all (v : Value) (es : List Ev) (x : Int) (w : World) (hs : SlEv w v es) (hm : es.length ≤ 1048576) (hlow : Low15 es) :
    Calls Tryz.prog 36 #[v, .int .u8 x] w fun r w' => r = .returned (.tuple #[.int .u16 ((holdersA es x).1 : Int), .int .u16 ((holdersA es x).2.1 : Int), .int .i64 (holdersA es x).2.2]) ∧ w' = w := by
  unfold holdersA
  by_cases h : 4 ≤ x
  · rw [if_pos h]; exact refHolders_bad v es x w hs h
  · rw [if_neg h]; exact refHolders v es x w hs hm (by omega) hlow

/-- What is asked of a store's answers. -/
structure StAsk (St : World → (Nat → Prop) → Value → List Ev → Prop) : Prop where
  holders : ∀ {w F p es} (x : Nat), x ≤ 255 → St w F p es → Calls Tryz.prog 35 #[p, .int .u8 (x : Int)] w fun r w' => r = .returned (.tuple #[.int .u16 ((holdersA es (x : Int)).1 : Int), .int .u16 ((holdersA es (x : Int)).2.1 : Int), .int .i64 (holdersA es (x : Int)).2.2]) ∧ ActP St w F p es w'
  values : ∀ {w F p es}, St w F p es → Calls Tryz.prog 37 #[p] w fun r w' => r = .returned (valsV fun i => isL es 0 (i : Int)) ∧ ActP St w F p es w'

/-- Behind a question. -/
theorem Mid.same {St : World → (Nat → Prop) → Value → List Ev → Prop} (I : StOk St) {w0 w wx w3 : World} {B pb : Nat} {F F' : Nat → Prop} {sp hv : Value} {es : List Ev} (h : Pl St w0 B pb F sp hv es) (hb0 : Below w0.heap.size w0 w) (m : Mid St w B pb F sp hv es es F' wx) (hb : Below wx.heap.size wx w3) :
    ∃ F' hv' es', Pl St w3 B pb F' sp hv' es' ∧ (∀ k, k < w0.heap.size → ¬ F k → k ≠ pb → w3.heap[k]? = w0.heap[k]?) ∧ (∀ k, F' k → F k ∨ w0.heap.size ≤ k) ∧ (∀ g, hv'.ownBlock = some g → hv.ownBlock = some g ∨ w0.heap.size ≤ g) ∧ Below 0 w0 w3 := by
  have hwx : w.heap.size ≤ wx.heap.size := m.nx.size
  have hw0 : w0.heap.size ≤ w.heap.size := hb0.size
  have p1 : Pl St wx B pb F' sp hv es := ⟨m.c0, m.c1, m.fz, m.st, m.hist, m.pbF, m.hvF, h.hvp, h.base, m.baseF⟩
  refine ⟨F', hv, es, p1.below I hb, fun k hk hf _ => ?_, fun k hk => (m.grow k hk).imp id (fun q => by omega), fun g hg => Or.inl hg, (hb0.mono (Nat.zero_le _)).trans (m.nx.trans (hb.mono (Nat.zero_le _)))⟩
  rw [hb.block k (by omega), m.rest k (by omega) hf]
  exact hb0.block k hk

set_option maxRecDepth 100000 in
set_option maxHeartbeats 4000000 in
theorem asked_holders {St : World → (Nat → Prop) → Value → List Ev → Prop} (I : StOk St) (J : StAsk St) (B pb : Nat) (F : Nat → Prop) (sp hv : Value) (es : List Ev) (wp : Option Addr) (on ot ov : Int) (xx : Nat) (ha : Option Addr) (hl hc : Nat) (os : ByteArray) (w : World) (h : Pl St w B pb F sp hv es) (hxx : xx ≤ 255) (hB : B ≤ w.heap.size) :
    Calls Tryz.prog 19 #[.pointer wp, .pointer (some ⟨pb, 0, none⟩), opV ⟨12, on, ot, (xx : Int), ov, .slice ha hl hc, os⟩] w (PlPost St w B pb F sp hv) := by
  have HP := hidIt h
  have hbx : Below w.heap.size w (w.alloc (opC ⟨12, on, ot, (xx : Int), ov, .slice ha hl hc, os⟩)) := (Below.refl _ _).alloc (Nat.le_refl _) _
  have hp1 := h.below I hbx
  have hp2 : Pl St (w.alloc (opC ⟨12, on, ot, (xx : Int), ov, .slice ha hl hc, os⟩)).drew B pb F sp hv es := hp1.stay I (Nat.le_refl _) rfl (fun _ _ => rfl) (fun _ _ => rfl)
  obtain ⟨sb, hsb⟩ := I.form h.st
  obtain ⟨va, vc, hva⟩ := h.hist.1.form
  have c0 := h.c0
  have hlt := h.lt
  rw [hsb] at c0
  have HP2 := hidIt hp2
  have HCB := hidIt (J.holders xx hxx hp2.st)
  rw [hsb] at HCB
  have HFN : Hid (¬ F w.heap.size) := fun q => by have := I.lt h.st _ q; omega
  have HLEN := hidIt (I.len h.st)
  have HLOW := hidIt (I.low h.st)
  have HVA := hidIt hva
  have HSB := hidIt hsb
  obtain ⟨⟨h1, h2, he⟩, hbr⟩ : ∃ y, holdersA es (xx : Int) = y := ⟨_, rfl⟩
  have HBR := hidIt hbr
  rw [hbr] at HCB
  simp only at HCB
  clear h hp1 hp2 hsb hva hbr
  go_enter Tryz.func19, Tryz.ntmps19
  go_upto_region 3 with fail
  go_cut [7, 8, 9] from 17 (fun s7 s8 s9 wx => s7 = .int .u16 (h1 : Int) ∧ s8 = .int .u16 (h2 : Int) ∧ s9 = .int .i64 he ∧ ∃ F', Mid St (w.alloc (opC ⟨12, on, ot, (xx : Int), ov, .slice ha hl hc, os⟩)).drew B pb F sp hv es es F' wx)
  case first =>
    have d9 : (w.alloc (opC ⟨12, on, ot, (xx : Int), ov, .slice ha hl hc, os⟩)).drew.cell? ⟨pb, 0, none⟩ = some (.pointer (some ⟨sb, 0, none⟩)) := by rw [← HSB.out]; exact HP2.out.c0
    have d3 : (w.alloc (opC ⟨12, on, ot, (xx : Int), ov, .slice ha hl hc, os⟩)).drew.cell? ⟨w.heap.size, 3, none⟩ = some (.int .u8 (xx : Int)) := by simp [go_sem]
    go_region_held3 (fun w' => w'.cell? ⟨pb, 0, none⟩ = some (.pointer (some ⟨sb, 0, none⟩)) ∧ w'.cell? ⟨w.heap.size, 3, none⟩ = some (.int .u8 (xx : Int))) (go_keep) (first | (go_at_call 35; refine HCB.out.mono ?_; rintro r w2 ⟨rfl, hact⟩; rw [← HSB.out] at hact; obtain ⟨F2, hm2⟩ := HP2.out.acts hact (by simp; omega); have k0 := hm2.c0; rw [HSB.out] at k0; have hblk2 := hm2.rest w.heap.size (by simp) HFN.out; have o3 : w2.cell? ⟨w.heap.size, 3, none⟩ = some (.int .u8 (xx : Int)) := (by rw [World.cell?_of_block (a := ⟨w.heap.size, 3, none⟩) hblk2]; simp [go_sem]); have HM := hidIt hm2; clear hact hm2 hblk2))
    all_goals (go_wp2_with fail; go_meet; exact ⟨rfl, rfl, rfl, F2, HM.out⟩)
  case rest =>
    obtain ⟨wd, hwd⟩ : ∃ x, x = wc := ⟨_, rfl⟩
    subst hwd
    obtain ⟨rfl, rfl, rfl, F', hm⟩ := hcut
    have c1 := hm.c1
    rw [HVA.out] at c1
    have hblk := hm.rest w.heap.size (by simp) HFN.out
    have o3 : wd.cell? ⟨w.heap.size, 3, none⟩ = some (.int .u8 (xx : Int)) := by rw [World.cell?_of_block (a := ⟨w.heap.size, 3, none⟩) hblk]; simp [go_sem]
    have hist1 : Hist wd.drew B hv es := hm.hist.below ⟨rfl, rfl, rfl, Nat.le_refl _, fun _ _ => rfl⟩
    have HCR := hidIt (refHolders_all hv es (xx : Int) wd.drew hist1.slEv (by have := HLEN.out; omega) HLOW.out)
    rw [HVA.out, HBR.out] at HCR
    simp only at HCR
    have HR := hidIt (hm.same I HP.out (below_drewN hbx 1) (w3 := wd.drew) ⟨rfl, rfl, rfl, Nat.le_refl _, fun _ _ => rfl⟩)
    clear hm hblk hist1
    have d9 : wd.drew.cell? ⟨pb, 1, none⟩ = some (.slice va es.length vc) := c1
    have d3 : wd.drew.cell? ⟨w.heap.size, 3, none⟩ = some (.int .u8 (xx : Int)) := o3
    go_wp2_with fail
    go_region_held3 (fun w' => w'.cell? ⟨pb, 1, none⟩ = some (.slice va es.length vc) ∧ w'.cell? ⟨w.heap.size, 3, none⟩ = some (.int .u8 (xx : Int))) (go_keep) (first | (go_at_call 36; refine HCR.out.mono ?_; rintro r w3 ⟨rfl, rfl⟩))
    all_goals (go_wp2_with fail; go_ret; exact ⟨ret_bool (by simp), HR.out⟩)

set_option maxRecDepth 100000 in
set_option maxHeartbeats 4000000 in
theorem asked_values {St : World → (Nat → Prop) → Value → List Ev → Prop} (I : StOk St) (J : StAsk St) (B pb : Nat) (F : Nat → Prop) (sp hv : Value) (es : List Ev) (wp : Option Addr) (on ot ox ov : Int) (ha : Option Addr) (hl hc : Nat) (os : ByteArray) (w : World) (h : Pl St w B pb F sp hv es) (hB : B ≤ w.heap.size) :
    Calls Tryz.prog 19 #[.pointer wp, .pointer (some ⟨pb, 0, none⟩), opV ⟨13, on, ot, ox, ov, .slice ha hl hc, os⟩] w (PlPost St w B pb F sp hv) := by
  have HP := hidIt h
  have hbx : Below w.heap.size w (w.alloc (opC ⟨13, on, ot, ox, ov, .slice ha hl hc, os⟩)) := (Below.refl _ _).alloc (Nat.le_refl _) _
  have hp1 := h.below I hbx
  obtain ⟨sb, hsb⟩ := I.form h.st
  obtain ⟨va, vc, hva⟩ := h.hist.1.form
  have c0 := h.c0
  have hlt := h.lt
  rw [hsb] at c0
  have HP1 := hidIt hp1
  have HCB := hidIt (J.values hp1.st)
  rw [hsb] at HCB
  have HLEN := hidIt (I.len h.st)
  have HVA := hidIt hva
  have HSB := hidIt hsb
  obtain ⟨rv, hrv⟩ : ∃ rv : Nat → Int, (fun i : Nat => isL es 0 (i : Int)) = rv := ⟨_, rfl⟩
  have HRV := hidIt hrv
  rw [hrv] at HCB
  clear h hp1 hsb hva hrv
  go_enter Tryz.func19, Tryz.ntmps19
  go_wp2_with fail
  refine HCB.out.mono ?_
  rintro r w2 ⟨rfl, hact⟩
  rw [← HSB.out] at hact
  obtain ⟨F2, hm⟩ := HP1.out.acts hact (by simp; omega)
  have c1 := hm.c1
  rw [HVA.out] at c1
  have hpl : pb < w2.heap.size := World.block_lt_of_cell? w2 ⟨pb, 1, none⟩ hm.c1
  have hbv : Below w2.heap.size w2 (w2.alloc (.cells #[.int .i32 (rv 0), .int .i32 (rv 1), .int .i32 (rv 2), .int .i32 (rv 3)] 58)) := (Below.refl _ _).alloc (Nat.le_refl _) _
  have HVN := hidIt (vals_new w2 58 rv)
  have hcr := refValues hv es _ (hm.hist.below hbv).slEv (by have := HLEN.out; omega)
  rw [HRV.out, HVA.out] at hcr
  have HCR := hidIt hcr
  have HM := hidIt hm
  clear hm hact hcr
  simp only [valsV]
  go_wp2_with fail
  refine HCR.out.mono ?_
  rintro r w3 ⟨rfl, hb3⟩
  obtain ⟨a0, a1, a2, a3, alt⟩ := HVN.out.below hb3
  have hb4 : Below w2.heap.size w2 (w3.alloc (.cells #[.int .i32 (rv 0), .int .i32 (rv 1), .int .i32 (rv 2), .int .i32 (rv 3)] 58)) := (hbv.trans (hb3.mono hbv.size)).alloc (by have := hb3.size; simp at this; omega) _
  have HR := hidIt (HM.out.same I HP.out hbx hb4)
  have heqv := Tryz.eqVals
  clear hb4 hb3 hbv
  simp only [valsV]
  go_wp2_with fail
  go_ret
  exact ⟨ret_bool (by simp), HR.out⟩

end Go.Proofs.YtfdalbmopaemgaaGreatDoor

namespace Go.Proofs.YtfdalbmopaemgaaGreatDoor
open Go.RowKit

/-! ### All that a script has made: the lists that are kept, and the players -/
structure PlD where
  pb : Nat
  F : Nat → Prop
  sp : Value
  hv : Value
  es : List Ev

def PlD.own (d : PlD) (k : Nat) : Prop := k = d.pb ∨ d.F k ∨ d.hv.ownBlock = some k

def ptrs (ds : List PlD) : List Value := ds.map fun d => .pointer (some ⟨d.pb, 0, none⟩)

structure GInv (St : World → (Nat → Prop) → Value → List Ev → Prop) (w : World) (B wb : Nat) (hv : Value) (hs : List (Value × Int)) (pv : Value) (ds : List PlD) : Prop where
  inv : Inv w B wb hv hs
  pcell : w.cell? ⟨wb, 0, none⟩ = some pv
  pfz : w.frozen? ⟨wb, 0, none⟩ = false
  prow : w.ownsRow B 35 1 pv ds.length (ptrs ds)
  pfar : pv.ownBlock ≠ some wb
  pap : ∀ g, pv.ownBlock = some g → hv.ownBlock ≠ some g
  pho : ∀ x ∈ hs, ∀ g, x.1.ownBlock = some g → pv.ownBlock ≠ some g
  each : ∀ i (hi : i < ds.length), Pl St w B ds[i].pb ds[i].F ds[i].sp ds[i].hv ds[i].es
  sep : ∀ i (hi : i < ds.length), ∀ k, ds[i].own k → k ≠ wb ∧ hv.ownBlock ≠ some k ∧ pv.ownBlock ≠ some k ∧ ∀ x ∈ hs, x.1.ownBlock ≠ some k
  two : ∀ i j (hi : i < ds.length) (hj : j < ds.length), i ≠ j → ∀ k, ds[i].own k → ¬ ds[j].own k

theorem PlD.own_lt {St : World → (Nat → Prop) → Value → List Ev → Prop} (I : StOk St) {w : World} {B : Nat} {d : PlD} (h : Pl St w B d.pb d.F d.sp d.hv d.es) {k : Nat} (hk : d.own k) : k < w.heap.size := by
  rcases hk with rfl | hk | hk
  · exact h.lt
  · exact I.lt h.st k hk
  · exact (World.ownsRow.lt h.hist.1 k hk).2

theorem Pl.same {St : World → (Nat → Prop) → Value → List Ev → Prop} (I : StOk St) {w w' : World} {B : Nat} {d : PlD} (h : Pl St w B d.pb d.F d.sp d.hv d.es) (hs : w.heap.size ≤ w'.heap.size) (hh : ∀ k, d.own k → w'.heap[k]? = w.heap[k]?) : Pl St w' B d.pb d.F d.sp d.hv d.es :=
  h.stay I hs (hh _ (Or.inl rfl)) (fun k hk => hh k (Or.inr (Or.inl hk))) (fun g hg => hh g (Or.inr (Or.inr hg)))

/-- Nothing turns where new blocks alone are made. -/
theorem GInv.below {St : World → (Nat → Prop) → Value → List Ev → Prop} (I : StOk St) {w w' : World} {B wb : Nat} {hv pv : Value} {hs : List (Value × Int)} {ds : List PlD} (h : GInv St w B wb hv hs pv ds) (hb : Below w.heap.size w w') : GInv St w' B wb hv hs pv ds :=
  ⟨h.inv.below hb, by rw [World.cell?_of_block (a := ⟨wb, 0, none⟩) (hb.block wb h.inv.wb_lt)]; exact h.pcell, by rw [World.frozen?_of_block (a := ⟨wb, 0, none⟩) (hb.block wb h.inv.wb_lt)]; exact h.pfz,
   ownsRow_of_heap h.prow fun g hg => hb.block g (World.ownsRow.lt h.prow g hg).2, h.pfar, h.pap, h.pho, fun i hi => (h.each i hi).below I hb, h.sep, h.two⟩

/-- A player has done a step. -/
theorem GInv.act_at {St : World → (Nat → Prop) → Value → List Ev → Prop} (I : StOk St) {w w' : World} {B wb : Nat} {hv pv : Value} {hs : List (Value × Int)} {ds : List PlD} (h : GInv St w B wb hv hs pv ds) (i : Nat) (hi : i < ds.length) (F' : Nat → Prop) (hv' : Value) (es' : List Ev) (d : PlD) (hd : d = ⟨ds[i].pb, F', ds[i].sp, hv', es'⟩)
    (p1 : Pl St w' B ds[i].pb F' ds[i].sp hv' es') (p2 : ∀ k, k < w.heap.size → ¬ ds[i].F k → k ≠ ds[i].pb → w'.heap[k]? = w.heap[k]?) (p3 : ∀ k, F' k → ds[i].F k ∨ w.heap.size ≤ k) (p4 : ∀ g, hv'.ownBlock = some g → ds[i].hv.ownBlock = some g ∨ w.heap.size ≤ g) (p5 : Below 0 w w') : GInv St w' B wb hv hs pv (ds.set i d) ∧ Below B w w' := by
  have hsz := p5.size
  have hdo : ∀ k, d.own k → ds[i].own k ∨ w.heap.size ≤ k := fun k hk => by
    rw [hd] at hk
    rcases hk with hk | hk | hk
    · exact Or.inl (Or.inl hk)
    · rcases p3 k hk with q | q
      · exact Or.inl (Or.inr (Or.inl q))
      · exact Or.inr q
    · rcases p4 k hk with q | q
      · exact Or.inl (Or.inr (Or.inr q))
      · exact Or.inr q
  have hrest : ∀ k, k < w.heap.size → ¬ ds[i].own k → w'.heap[k]? = w.heap[k]? := fun k hk hn => p2 k hk (fun q => hn (Or.inr (Or.inl q))) (fun q => hn (Or.inl q))
  have hwb : w'.heap[wb]? = w.heap[wb]? := hrest wb h.inv.wb_lt (fun q => (h.sep i hi wb q).1 rfl)
  have hget : ∀ j (hj : j < (ds.set i d).length), (ds.set i d)[j] = if i = j then d else ds[j]'(by simpa using hj) := fun j hj => by rw [List.getElem_set]
  have hlen : (ds.set i d).length = ds.length := by simp
  have hptr : ptrs (ds.set i d) = ptrs ds := by
    apply List.ext_getElem?
    intro j
    unfold ptrs
    rw [List.getElem?_map, List.getElem?_map, List.getElem?_set]
    by_cases e : i = j
    · subst e
      rw [if_pos rfl, if_pos hi, List.getElem?_eq_getElem hi, hd]
      rfl
    · rw [if_neg e]
  have hnew : ∀ k, d.own k → k ≠ wb ∧ hv.ownBlock ≠ some k ∧ pv.ownBlock ≠ some k ∧ ∀ x ∈ hs, x.1.ownBlock ≠ some k := fun k hk => by
    rcases hdo k hk with q | q
    · exact h.sep i hi k q
    · refine ⟨fun e => ?_, fun e => ?_, fun e => ?_, fun x hx e => ?_⟩
      · have := h.inv.wb_lt; omega
      · have := (h.inv.hv_lt k e).2; omega
      · have := (World.ownsRow.lt h.prow k e).2; omega
      · have := ((h.inv.each x hx).lt k e).2; omega
  refine ⟨⟨h.inv.stay hsz hwb (fun g hg => hrest g (h.inv.hv_lt g hg).2 (fun q => (h.sep i hi g q).2.1 hg)) (fun x hx g hg => hrest g ((h.inv.each x hx).lt g hg).2 (fun q => (h.sep i hi g q).2.2.2 x hx hg)),
    by rw [World.cell?_of_block (a := ⟨wb, 0, none⟩) hwb]; exact h.pcell, by rw [World.frozen?_of_block (a := ⟨wb, 0, none⟩) hwb]; exact h.pfz,
    by rw [hlen, hptr]; exact ownsRow_of_heap h.prow fun g hg => hrest g (World.ownsRow.lt h.prow g hg).2 (fun q => (h.sep i hi g q).2.2.1 hg), h.pfar, h.pap, h.pho, fun j hj => ?_, fun j hj k hk => ?_, fun j l hj hl hjl k hk hk' => ?_⟩, ?_⟩
  · rw [hget j hj]
    have hj' : j < ds.length := by simpa using hj
    by_cases e : i = j
    · rw [if_pos e, hd]
      exact p1
    · rw [if_neg e]
      exact (h.each j hj').same I hsz fun k hk => hrest k (PlD.own_lt I (h.each j hj') hk) (fun q => h.two j i hj' hi (Ne.symm e) k hk q)
  · rw [hget j hj] at hk
    by_cases e : i = j
    · rw [if_pos e] at hk; exact hnew k hk
    · rw [if_neg e] at hk; exact h.sep j (by simpa using hj) k hk
  · have hj' : j < ds.length := by simpa using hj
    have hl' : l < ds.length := by simpa using hl
    rw [hget j hj] at hk
    rw [hget l hl] at hk'
    by_cases e : i = j
    · rw [if_pos e] at hk
      rw [if_neg (by omega)] at hk'
      rcases hdo k hk with q | q
      · exact h.two i l hi hl' (by omega) k q hk'
      · have := PlD.own_lt I (h.each l hl') hk'; omega
    · rw [if_neg e] at hk
      by_cases e' : i = l
      · rw [if_pos e'] at hk'
        rcases hdo k hk' with q | q
        · exact h.two j i hj' hi (by omega) k hk q
        · have := PlD.own_lt I (h.each j hj') hk; omega
      · rw [if_neg e'] at hk'
        exact h.two j l hj' hl' hjl k hk hk'
  · refine ⟨p5.os, p5.tape, p5.output, p5.size, fun k hk => ?_⟩
    have hB : B ≤ w.heap.size := Nat.le_trans h.inv.base (Nat.le_of_lt h.inv.wb_lt)
    refine hrest k (by omega) (fun q => ?_)
    have he := h.each i hi
    rcases q with q | q | q
    · have := he.base; omega
    · have := he.baseF k q; omega
    · have := (World.ownsRow.lt he.hist.1 k q).1; omega

theorem GInv.act {St : World → (Nat → Prop) → Value → List Ev → Prop} (I : StOk St) {w w' : World} {B wb : Nat} {hv pv : Value} {hs : List (Value × Int)} {ds : List PlD} (h : GInv St w B wb hv hs pv ds) (i : Nat) (hi : i < ds.length) {r : Ending} (hp : PlPost St w B ds[i].pb ds[i].F ds[i].sp ds[i].hv r w') : ∃ ds', GInv St w' B wb hv hs pv ds' ∧ ds'.length = ds.length ∧ Below B w w' := by
  obtain ⟨_, F', hv', es', p1, p2, p3, p4, p5⟩ := hp
  obtain ⟨q1, q2⟩ := h.act_at I i hi F' hv' es' _ rfl p1 p2 p3 p4 p5
  exact ⟨_, q1, by simp, q2⟩

/-! ### pick -/
set_option maxHeartbeats 1000000 in
theorem pick_any (c : Int) (n : Nat) (w : World) (h0 : -9223372036854775808 ≤ c) (h1 : c ≤ 9223372036854775807) (hn : 0 < n) (hn2 : n ≤ 1048576) :
    Calls Tryz.prog 18 #[.int .i64 c, .int .i64 (n : Int)] w fun r w' => ∃ k : Nat, k < n ∧ r = .returned (.int .i64 (k : Int)) ∧ w' = w := by
  have hn0 : (0 : Int) < (n : Int) := by omega
  have hmod : ∀ m : Int, 0 ≤ m → ∃ k : Nat, k < n ∧ m.tmod (n : Int) = (k : Int) := fun m hm => by
    have h2 := Int.emod_nonneg m (show (n : Int) ≠ 0 by omega)
    have h3 := Int.emod_lt_of_pos m hn0
    exact ⟨(m % (n : Int)).toNat, by omega, by rw [Int.tmod_eq_emod_of_nonneg hm]; omega⟩
  by_cases hc : c < 0
  · obtain ⟨k, hk, hm⟩ := hmod (-(c + 1)) (by omega)
    rw [Int.neg_tmod] at hm
    have HK := hidIt (And.intro hk hm)
    clear hk hm hmod
    go_enter Tryz.func18, Tryz.ntmps18
    go_wp2
    go_ret
    exact ⟨k, HK.out.1, ret_int HK.out.2, rfl⟩
  · obtain ⟨k, hk, hm⟩ := hmod c (by omega)
    have HK := hidIt (And.intro hk hm)
    clear hk hm hmod
    go_enter Tryz.func18, Tryz.ntmps18
    go_wp2
    go_ret
    exact ⟨k, HK.out.1, ret_int (by first | exact HK.out.2 | (rw [← HK.out.2, Int.tmod_eq_emod_of_nonneg (by omega)])), rfl⟩

end Go.Proofs.YtfdalbmopaemgaaGreatDoor
