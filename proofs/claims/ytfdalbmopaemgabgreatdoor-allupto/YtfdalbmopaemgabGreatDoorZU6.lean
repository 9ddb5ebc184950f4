import Derived.Test.YtfdalbmopaemgabGreatDoorZL10
import Derived.Test.YtfdalbmopaemgabGreatDoorZS8
import Derived.Deep.CutRange
import Derived.Deep.RegionHeld3
namespace Go.Proofs.YtfdalbmopaemgabGreatDoor
open Go.RowKit

/-! ### A store, by what is asked of it: St w F p es: in w the pointer p is a store that lies in the blocks F and has written down es -/
def ActP (St : World → (Nat → Prop) → Value → List Ev → Prop) (w : World) (F : Nat → Prop) (p : Value) (es' : List Ev) (w' : World) : Prop :=
  ∃ F', St w' F' p es' ∧ (∀ k, k < w.heap.size → ¬ F k → w'.heap[k]? = w.heap[k]?) ∧ (∀ k, F' k → F k ∨ w.heap.size ≤ k) ∧ Below 0 w w'

structure StOk (St : World → (Nat → Prop) → Value → List Ev → Prop) : Prop where
  form : ∀ {w F p es}, St w F p es → ∃ b, p = .pointer (some ⟨b, 0, none⟩)
  frame : ∀ {w F p es} (w' : World), St w F p es → (∀ k, F k → w'.heap[k]? = w.heap[k]?) → w.heap.size ≤ w'.heap.size → St w' F p es
  lt : ∀ {w F p es}, St w F p es → ∀ k, F k → k < w.heap.size
  low : ∀ {w F p es}, St w F p es → Low15 es
  len : ∀ {w F p es}, St w F p es → es.length ≤ 60
  begin_ : ∀ {w F p es} (up : Nat), up ≤ 255 → St w F p es → Calls Tryz.prog 35 #[p, .int .u8 (up : Int)] w fun r w' => r = .returned (.tuple #[.int .u8 (beginR es (up : Int)).2.1, .int .i64 (beginR es (up : Int)).2.2]) ∧ ActP St w F p (beginR es (up : Int)).1 w'
  read : ∀ {w F p es} (t x : Nat), t ≤ 255 → x ≤ 255 → St w F p es → Calls Tryz.prog 37 #[p, .int .u8 (t : Int), .int .u8 (x : Int)] w fun r w' => r = .returned (.tuple #[.int .i32 (accessR es 2 (t : Int) (x : Int) 0).2.1, .int .i64 (accessR es 2 (t : Int) (x : Int) 0).2.2]) ∧ ActP St w F p (accessR es 2 (t : Int) (x : Int) 0).1 w'
  write : ∀ {w F p es} (t x : Nat) (v : Int), t ≤ 255 → x ≤ 255 → -2147483648 ≤ v → v ≤ 2147483647 → St w F p es → Calls Tryz.prog 39 #[p, .int .u8 (t : Int), .int .u8 (x : Int), .int .i32 v] w fun r w' => r = .returned (.int .i64 (accessR es 3 (t : Int) (x : Int) v).2.2) ∧ ActP St w F p (accessR es 3 (t : Int) (x : Int) v).1 w'
  add : ∀ {w F p es} (t x : Nat) (v : Int), t ≤ 255 → x ≤ 255 → -2147483648 ≤ v → v ≤ 2147483647 → St w F p es → Calls Tryz.prog 40 #[p, .int .u8 (t : Int), .int .u8 (x : Int), .int .i32 v] w fun r w' => r = .returned (.tuple #[.int .i32 (accessR es 4 (t : Int) (x : Int) v).2.1, .int .i64 (accessR es 4 (t : Int) (x : Int) v).2.2]) ∧ ActP St w F p (accessR es 4 (t : Int) (x : Int) v).1 w'
  commit : ∀ {w F p es} (t : Nat), t ≤ 255 → St w F p es → Calls Tryz.prog 41 #[p, .int .u8 (t : Int)] w fun r w' => r = .returned (.int .i64 (endR es 5 (t : Int)).2) ∧ ActP St w F p (endR es 5 (t : Int)).1 w'
  abort : ∀ {w F p es} (t : Nat), t ≤ 255 → St w F p es → Calls Tryz.prog 43 #[p, .int .u8 (t : Int)] w fun r w' => r = .returned (.int .i64 (endR es 6 (t : Int)).2) ∧ ActP St w F p (endR es 6 (t : Int)).1 w'

/-- A store and the document's: a player in block pb, with all that is its own from block B on. -/
structure Pl (St : World → (Nat → Prop) → Value → List Ev → Prop) (w : World) (B pb : Nat) (F : Nat → Prop) (sp hv : Value) (es : List Ev) : Prop where
  c0 : w.cell? ⟨pb, 0, none⟩ = some sp
  c1 : w.cell? ⟨pb, 1, none⟩ = some hv
  fz : w.frozen? ⟨pb, 1, none⟩ = false
  st : St w F sp es
  hist : Hist w B hv es
  pbF : ¬ F pb
  hvF : ∀ g, hv.ownBlock = some g → ¬ F g
  hvp : hv.ownBlock ≠ some pb
  base : B ≤ pb
  baseF : ∀ k, F k → B ≤ k

theorem Pl.lt {St : World → (Nat → Prop) → Value → List Ev → Prop} {w : World} {B pb : Nat} {F : Nat → Prop} {sp hv : Value} {es : List Ev} (h : Pl St w B pb F sp hv es) : pb < w.heap.size := World.block_lt_of_cell? w ⟨pb, 0, none⟩ h.c0

/-- Nothing turns where nothing of its own does. -/
theorem Pl.stay {St : World → (Nat → Prop) → Value → List Ev → Prop} (I : StOk St) {w w' : World} {B pb : Nat} {F : Nat → Prop} {sp hv : Value} {es : List Ev} (h : Pl St w B pb F sp hv es) (hs : w.heap.size ≤ w'.heap.size) (hp : w'.heap[pb]? = w.heap[pb]?) (hf : ∀ k, F k → w'.heap[k]? = w.heap[k]?) (hh : ∀ g, hv.ownBlock = some g → w'.heap[g]? = w.heap[g]?) : Pl St w' B pb F sp hv es :=
  ⟨by rw [World.cell?_of_block (a := ⟨pb, 0, none⟩) hp]; exact h.c0, by rw [World.cell?_of_block (a := ⟨pb, 1, none⟩) hp]; exact h.c1, by rw [World.frozen?_of_block (a := ⟨pb, 1, none⟩) hp]; exact h.fz, I.frame w' h.st hf hs, ⟨ownsRow_of_heap h.hist.1 hh, h.hist.2⟩, h.pbF, h.hvF, h.hvp, h.base, h.baseF⟩

theorem Pl.below {St : World → (Nat → Prop) → Value → List Ev → Prop} (I : StOk St) {w w' : World} {B pb : Nat} {F : Nat → Prop} {sp hv : Value} {es : List Ev} (h : Pl St w B pb F sp hv es) (hb : Below w.heap.size w w') : Pl St w' B pb F sp hv es :=
  h.stay I hb.size (hb.block pb h.lt) (fun k hk => hb.block k (I.lt h.st k hk)) (fun g hg => hb.block g (World.ownsRow.lt h.hist.1 g hg).2)

/-- Behind a call of the store, ahead of what is kept of the document's answer. -/
structure Mid (St : World → (Nat → Prop) → Value → List Ev → Prop) (w : World) (B pb : Nat) (F : Nat → Prop) (sp hv : Value) (es es' : List Ev) (F' : Nat → Prop) (wx : World) : Prop where
  st : St wx F' sp es'
  hist : Hist wx B hv es
  c0 : wx.cell? ⟨pb, 0, none⟩ = some sp
  c1 : wx.cell? ⟨pb, 1, none⟩ = some hv
  fz : wx.frozen? ⟨pb, 1, none⟩ = false
  pbF : ¬ F' pb
  hvF : ∀ g, hv.ownBlock = some g → ¬ F' g
  baseF : ∀ k, F' k → B ≤ k
  grow : ∀ k, F' k → F k ∨ w.heap.size ≤ k
  rest : ∀ k, k < w.heap.size → ¬ F k → wx.heap[k]? = w.heap[k]?
  nx : Below 0 w wx

theorem Pl.acts {St : World → (Nat → Prop) → Value → List Ev → Prop} {w w' : World} {B pb : Nat} {F : Nat → Prop} {sp hv : Value} {es es' : List Ev} (h : Pl St w B pb F sp hv es) (ha : ActP St w F sp es' w') (hB : B ≤ w.heap.size) : ∃ F', Mid St w B pb F sp hv es es' F' w' := by
  obtain ⟨F', h1, h2, h3, h4⟩ := ha
  have hp := h2 pb h.lt h.pbF
  have hn : ∀ k, k < w.heap.size → ¬ F k → ¬ F' k := fun k hk hf q => by
    rcases h3 k q with h5 | h5
    · exact hf h5
    · omega
  exact ⟨F', h1, ⟨ownsRow_of_heap h.hist.1 fun g hg => h2 g (World.ownsRow.lt h.hist.1 g hg).2 (h.hvF g hg), h.hist.2⟩, by rw [World.cell?_of_block (a := ⟨pb, 0, none⟩) hp]; exact h.c0, by rw [World.cell?_of_block (a := ⟨pb, 1, none⟩) hp]; exact h.c1, by rw [World.frozen?_of_block (a := ⟨pb, 1, none⟩) hp]; exact h.fz, hn pb h.lt h.pbF, fun g hg => hn g (World.ownsRow.lt h.hist.1 g hg).2 (h.hvF g hg), fun k hk => (h3 k hk).elim (h.baseF k) (fun q => Nat.le_trans hB q), h3, h2, h4⟩

/-- What a step of a player leaves. -/
def PlPost (St : World → (Nat → Prop) → Value → List Ev → Prop) (w : World) (B pb : Nat) (F : Nat → Prop) (sp hv : Value) (r : Ending) (w' : World) : Prop :=
  r = .returned (.bool true) ∧ ∃ F' hv' es', Pl St w' B pb F' sp hv' es' ∧ (∀ k, k < w.heap.size → ¬ F k → k ≠ pb → w'.heap[k]? = w.heap[k]?) ∧ (∀ k, F' k → F k ∨ w.heap.size ≤ k) ∧ (∀ g, hv'.ownBlock = some g → hv.ownBlock = some g ∨ w.heap.size ≤ g) ∧ Below 0 w w'

/-- The document's list is kept. -/
theorem Mid.keep {St : World → (Nat → Prop) → Value → List Ev → Prop} (I : StOk St) {w0 w wx w3 : World} {B pb : Nat} {F F' : Nat → Prop} {sp hv v' : Value} {es es' : List Ev} (h : Pl St w0 B pb F sp hv es) (hb0 : Below w0.heap.size w0 w) (m : Mid St w B pb F sp hv es es' F' wx) (hb : Below wx.heap.size wx w3) (ho : HistOut wx w3 hv v' es es') (hB : B ≤ w.heap.size) :
    ∃ F' hv' es', Pl St (w3.setCell ⟨pb, 1, none⟩ v') B pb F' sp hv' es' ∧ (∀ k, k < w0.heap.size → ¬ F k → k ≠ pb → (w3.setCell ⟨pb, 1, none⟩ v').heap[k]? = w0.heap[k]?) ∧ (∀ k, F' k → F k ∨ w0.heap.size ≤ k) ∧ (∀ g, hv'.ownBlock = some g → hv.ownBlock = some g ∨ w0.heap.size ≤ g) ∧ Below 0 w0 (w3.setCell ⟨pb, 1, none⟩ v') := by
  have hwx : w.heap.size ≤ wx.heap.size := m.nx.size
  have hw0 : w0.heap.size ≤ w.heap.size := hb0.size
  have hpl := h.lt
  have hset : ∀ k, k ≠ pb → (w3.setCell ⟨pb, 1, none⟩ v').heap[k]? = w3.heap[k]? := fun k hk => Below.heap_setCell _ ⟨pb, 1, none⟩ _ _ hk
  have hpb3 : w3.heap[pb]? = wx.heap[pb]? := hb.block pb (by omega)
  have hFlt := I.lt m.st
  have hst : St (w3.setCell ⟨pb, 1, none⟩ v') F' sp es' := I.frame _ m.st (fun k hk => by rw [hset k (fun e => m.pbF (by rw [← e]; exact hk))]; exact hb.block k (hFlt k hk)) (by simpa using hb.size)
  have hval : Hist (w3.setCell ⟨pb, 1, none⟩ v') B v' es' ∧ v'.ownBlock ≠ some pb ∧ (∀ g, v'.ownBlock = some g → ¬ F' g) ∧ (∀ g, v'.ownBlock = some g → hv.ownBlock = some g ∨ w0.heap.size ≤ g) := by
    rcases ho with ⟨rfl, rfl⟩ | ho
    · refine ⟨⟨ownsRow_of_heap m.hist.1 fun g hg => ?_, m.hist.2⟩, h.hvp, m.hvF, fun g hg => Or.inl hg⟩
      rw [hset g (fun e => h.hvp (by rw [← e]; exact hg))]
      exact hb.block g (World.ownsRow.lt m.hist.1 g hg).2
    · have hg' : ∀ g, v'.ownBlock = some g → wx.heap.size ≤ g := fun g hg => (World.ownsRow.lt ho.1 g hg).1
      refine ⟨⟨ownsRow_of_heap (ownsRow_mono ho.1 (by omega)) fun g hg => ?_, ho.2⟩, fun e => by have := hg' pb e; omega, fun g hg q => by have := hg' g hg; have := hFlt g q; omega, fun g hg => Or.inr (by have := hg' g hg; omega)⟩
      exact hset g (fun e => by have := hg' g hg; omega)
  have hc : w3.cell? ⟨pb, 1, none⟩ = some hv := by rw [World.cell?_of_block (a := ⟨pb, 1, none⟩) hpb3]; exact m.c1
  refine ⟨F', v', es', ⟨?_, World.cell?_setCell_same _ _ _ hc, ?_, hst, hval.1, m.pbF, hval.2.2.1, hval.2.1, h.base, m.baseF⟩, fun k hk hf hkp => ?_, fun k hk => (m.grow k hk).imp id (fun q => by omega), hval.2.2.2, ?_⟩
  · rw [World.cell?_setCell_other _ _ _ _ (by intro e; injection e with _ e2 _; cases e2), World.cell?_of_block (a := ⟨pb, 0, none⟩) hpb3]
    exact m.c0
  · rw [World.frozen?_setCell, World.frozen?_of_block (a := ⟨pb, 1, none⟩) hpb3]; exact m.fz
  · rw [hset k hkp, hb.block k (by omega), m.rest k (by omega) hf]
    exact hb0.block k hk
  · exact ((hb0.mono (Nat.zero_le _)).trans (m.nx.trans (hb.mono (Nat.zero_le _)))).setCell (p := ⟨pb, 1, none⟩) (Nat.zero_le _) _

end Go.Proofs.YtfdalbmopaemgabGreatDoor

namespace Go.Proofs.YtfdalbmopaemgabGreatDoor
open Go.RowKit

def holdersA (es : List Ev) (x : Int) : Nat × Nat × Int := if 4 ≤ x then (0, 0, 6) else ((holdersL es x).1, (holdersL es x).2, 0)

theorem refHolders_all (v : Value) (es : List Ev) (x : Int) (w : World) (hs : SlEv w v es) (hm : es.length ≤ 1048576) (hlow : Low15 es) :
    Calls Tryz.prog 31 #[v, .int .u8 x] w fun r w' => r = .returned (.tuple #[.int .u16 ((holdersA es x).1 : Int), .int .u16 ((holdersA es x).2.1 : Int), .int .i64 (holdersA es x).2.2]) ∧ w' = w := by
  unfold holdersA
  by_cases h : 4 ≤ x
  · rw [if_pos h]; exact refHolders_bad v es x w hs h
  · rw [if_neg h]; exact refHolders v es x w hs hm (by omega) hlow

/-- What is asked of a store's answers. -/
structure StAsk (St : World → (Nat → Prop) → Value → List Ev → Prop) : Prop where
  holders : ∀ {w F p es} (x : Nat), x ≤ 255 → St w F p es → Calls Tryz.prog 30 #[p, .int .u8 (x : Int)] w fun r w' => r = .returned (.tuple #[.int .u16 ((holdersA es (x : Int)).1 : Int), .int .u16 ((holdersA es (x : Int)).2.1 : Int), .int .i64 (holdersA es (x : Int)).2.2]) ∧ ActP St w F p es w'
  values : ∀ {w F p es}, St w F p es → Calls Tryz.prog 32 #[p] w fun r w' => r = .returned (valsV fun i => isL es 0 (i : Int)) ∧ ActP St w F p es w'

/-- Behind a question. -/
theorem Mid.same {St : World → (Nat → Prop) → Value → List Ev → Prop} (I : StOk St) {w0 w wx w3 : World} {B pb : Nat} {F F' : Nat → Prop} {sp hv : Value} {es : List Ev} (h : Pl St w0 B pb F sp hv es) (hb0 : Below w0.heap.size w0 w) (m : Mid St w B pb F sp hv es es F' wx) (hb : Below wx.heap.size wx w3) :
    ∃ F' hv' es', Pl St w3 B pb F' sp hv' es' ∧ (∀ k, k < w0.heap.size → ¬ F k → k ≠ pb → w3.heap[k]? = w0.heap[k]?) ∧ (∀ k, F' k → F k ∨ w0.heap.size ≤ k) ∧ (∀ g, hv'.ownBlock = some g → hv.ownBlock = some g ∨ w0.heap.size ≤ g) ∧ Below 0 w0 w3 := by
  have hwx : w.heap.size ≤ wx.heap.size := m.nx.size
  have hw0 : w0.heap.size ≤ w.heap.size := hb0.size
  have p1 : Pl St wx B pb F' sp hv es := ⟨m.c0, m.c1, m.fz, m.st, m.hist, m.pbF, m.hvF, h.hvp, h.base, m.baseF⟩
  refine ⟨F', hv, es, p1.below I hb, fun k hk hf _ => ?_, fun k hk => (m.grow k hk).imp id (fun q => by omega), fun g hg => Or.inl hg, (hb0.mono (Nat.zero_le _)).trans (m.nx.trans (hb.mono (Nat.zero_le _)))⟩
  rw [hb.block k (by omega), m.rest k (by omega) hf]
  exact hb0.block k hk

set_option maxRecDepth 100000 in
set_option maxHeartbeats 4000000 in
theorem asked_holders {St : World → (Nat → Prop) → Value → List Ev → Prop} (I : StOk St) (J : StAsk St) (B pb : Nat) (F : Nat → Prop) (sp hv : Value) (es : List Ev) (wp : Option Addr) (on ot ov : Int) (xx : Nat) (ha : Option Addr) (hl hc : Nat) (os : ByteArray) (w : World) (h : Pl St w B pb F sp hv es) (hxx : xx ≤ 255) (hB : B ≤ w.heap.size) :
    Calls Tryz.prog 15 #[.pointer wp, .pointer (some ⟨pb, 0, none⟩), opV ⟨12, on, ot, (xx : Int), ov, .slice ha hl hc, os⟩] w (PlPost St w B pb F sp hv) := by
  have HP := hidIt h
  have hbx : Below w.heap.size w (w.alloc (opC ⟨12, on, ot, (xx : Int), ov, .slice ha hl hc, os⟩)) := (Below.refl _ _).alloc (Nat.le_refl _) _
  have hp1 := h.below I hbx
  have hp2 : Pl St (w.alloc (opC ⟨12, on, ot, (xx : Int), ov, .slice ha hl hc, os⟩)).drew B pb F sp hv es := hp1.stay I (Nat.le_refl _) rfl (fun _ _ => rfl) (fun _ _ => rfl)
  obtain ⟨sb, hsb⟩ := I.form h.st
  obtain ⟨va, vc, hva⟩ := h.hist.1.form
  have c0 := h.c0
  have hlt := h.lt
  rw [hsb] at c0
  have HP2 := hidIt hp2
  have HCB := hidIt (J.holders xx hxx hp2.st)
  rw [hsb] at HCB
  have HFN : Hid (¬ F w.heap.size) := fun q => by have := I.lt h.st _ q; omega
  have HLEN := hidIt (I.len h.st)
  have HLOW := hidIt (I.low h.st)
  have HVA := hidIt hva
  have HSB := hidIt hsb
  obtain ⟨⟨h1, h2, he⟩, hbr⟩ : ∃ y, holdersA es (xx : Int) = y := ⟨_, rfl⟩
  have HBR := hidIt hbr
  rw [hbr] at HCB
  simp only at HCB
  clear h hp1 hp2 hsb hva hbr
  go_enter Tryz.func15, Tryz.ntmps15
  go_upto_region 3 with fail
  go_cut [7, 8, 9] from 17 (fun s7 s8 s9 wx => s7 = .int .u16 (h1 : Int) ∧ s8 = .int .u16 (h2 : Int) ∧ s9 = .int .i64 he ∧ ∃ F', Mid St (w.alloc (opC ⟨12, on, ot, (xx : Int), ov, .slice ha hl hc, os⟩)).drew B pb F sp hv es es F' wx)
  case first =>
    have d9 : (w.alloc (opC ⟨12, on, ot, (xx : Int), ov, .slice ha hl hc, os⟩)).drew.cell? ⟨pb, 0, none⟩ = some (.pointer (some ⟨sb, 0, none⟩)) := by rw [← HSB.out]; exact HP2.out.c0
    have d3 : (w.alloc (opC ⟨12, on, ot, (xx : Int), ov, .slice ha hl hc, os⟩)).drew.cell? ⟨w.heap.size, 3, none⟩ = some (.int .u8 (xx : Int)) := by simp [go_sem]
    go_region_held3 (fun w' => w'.cell? ⟨pb, 0, none⟩ = some (.pointer (some ⟨sb, 0, none⟩)) ∧ w'.cell? ⟨w.heap.size, 3, none⟩ = some (.int .u8 (xx : Int))) (go_keep) (first | (go_at_call 30; refine HCB.out.mono ?_; rintro r w2 ⟨rfl, hact⟩; rw [← HSB.out] at hact; obtain ⟨F2, hm2⟩ := HP2.out.acts hact (by simp; omega); have k0 := hm2.c0; rw [HSB.out] at k0; have hblk2 := hm2.rest w.heap.size (by simp) HFN.out; have o3 : w2.cell? ⟨w.heap.size, 3, none⟩ = some (.int .u8 (xx : Int)) := (by rw [World.cell?_of_block (a := ⟨w.heap.size, 3, none⟩) hblk2]; simp [go_sem]); have HM := hidIt hm2; clear hact hm2 hblk2))
    all_goals (go_wp2_with fail; go_meet; exact ⟨rfl, rfl, rfl, F2, HM.out⟩)
  case rest =>
    obtain ⟨wd, hwd⟩ : ∃ x, x = wc := ⟨_, rfl⟩
    subst hwd
    obtain ⟨rfl, rfl, rfl, F', hm⟩ := hcut
    have c1 := hm.c1
    rw [HVA.out] at c1
    have hblk := hm.rest w.heap.size (by simp) HFN.out
    have o3 : wd.cell? ⟨w.heap.size, 3, none⟩ = some (.int .u8 (xx : Int)) := by rw [World.cell?_of_block (a := ⟨w.heap.size, 3, none⟩) hblk]; simp [go_sem]
    have hist1 : Hist wd.drew B hv es := hm.hist.below ⟨rfl, rfl, rfl, Nat.le_refl _, fun _ _ => rfl⟩
    have HCR := hidIt (refHolders_all hv es (xx : Int) wd.drew hist1.slEv (by have := HLEN.out; omega) HLOW.out)
    rw [HVA.out, HBR.out] at HCR
    simp only at HCR
    have HR := hidIt (hm.same I HP.out (below_drewN hbx 1) (w3 := wd.drew) ⟨rfl, rfl, rfl, Nat.le_refl _, fun _ _ => rfl⟩)
    clear hm hblk hist1
    have d9 : wd.drew.cell? ⟨pb, 1, none⟩ = some (.slice va es.length vc) := c1
    have d3 : wd.drew.cell? ⟨w.heap.size, 3, none⟩ = some (.int .u8 (xx : Int)) := o3
    go_wp2_with fail
    go_region_held3 (fun w' => w'.cell? ⟨pb, 1, none⟩ = some (.slice va es.length vc) ∧ w'.cell? ⟨w.heap.size, 3, none⟩ = some (.int .u8 (xx : Int))) (go_keep) (first | (go_at_call 31; refine HCR.out.mono ?_; rintro r w3 ⟨rfl, rfl⟩))
    all_goals (go_wp2_with fail; go_ret; exact ⟨ret_bool (by simp), HR.out⟩)

set_option maxRecDepth 100000 in
set_option maxHeartbeats 4000000 in
theorem asked_values {St : World → (Nat → Prop) → Value → List Ev → Prop} (I : StOk St) (J : StAsk St) (B pb : Nat) (F : Nat → Prop) (sp hv : Value) (es : List Ev) (wp : Option Addr) (on ot ox ov : Int) (ha : Option Addr) (hl hc : Nat) (os : ByteArray) (w : World) (h : Pl St w B pb F sp hv es) (hB : B ≤ w.heap.size) :
    Calls Tryz.prog 15 #[.pointer wp, .pointer (some ⟨pb, 0, none⟩), opV ⟨13, on, ot, ox, ov, .slice ha hl hc, os⟩] w (PlPost St w B pb F sp hv) := by
  have HP := hidIt h
  have hbx : Below w.heap.size w (w.alloc (opC ⟨13, on, ot, ox, ov, .slice ha hl hc, os⟩)) := (Below.refl _ _).alloc (Nat.le_refl _) _
  have hp1 := h.below I hbx
  obtain ⟨sb, hsb⟩ := I.form h.st
  obtain ⟨va, vc, hva⟩ := h.hist.1.form
  have c0 := h.c0
  have hlt := h.lt
  rw [hsb] at c0
  have HP1 := hidIt hp1
  have HCB := hidIt (J.values hp1.st)
  rw [hsb] at HCB
  have HLEN := hidIt (I.len h.st)
  have HVA := hidIt hva
  have HSB := hidIt hsb
  obtain ⟨rv, hrv⟩ : ∃ rv : Nat → Int, (fun i : Nat => isL es 0 (i : Int)) = rv := ⟨_, rfl⟩
  have HRV := hidIt hrv
  rw [hrv] at HCB
  clear h hp1 hsb hva hrv
  go_enter Tryz.func15, Tryz.ntmps15
  go_wp2_with fail
  refine HCB.out.mono ?_
  rintro r w2 ⟨rfl, hact⟩
  rw [← HSB.out] at hact
  obtain ⟨F2, hm⟩ := HP1.out.acts hact (by simp; omega)
  have c1 := hm.c1
  rw [HVA.out] at c1
  have hpl : pb < w2.heap.size := World.block_lt_of_cell? w2 ⟨pb, 1, none⟩ hm.c1
  have hbv : Below w2.heap.size w2 (w2.alloc (.cells #[.int .i32 (rv 0), .int .i32 (rv 1), .int .i32 (rv 2), .int .i32 (rv 3)] 72)) := (Below.refl _ _).alloc (Nat.le_refl _) _
  have HVN := hidIt (vals_new w2 72 rv)
  have hcr := refValues hv es _ (hm.hist.below hbv).slEv (by have := HLEN.out; omega)
  rw [HRV.out, HVA.out] at hcr
  have HCR := hidIt hcr
  have HM := hidIt hm
  clear hm hact hcr
  simp only [valsV]
  go_wp2_with fail
  refine HCR.out.mono ?_
  rintro r w3 ⟨rfl, hb3⟩
  obtain ⟨a0, a1, a2, a3, alt⟩ := HVN.out.below hb3
  have hb4 : Below w2.heap.size w2 (w3.alloc (.cells #[.int .i32 (rv 0), .int .i32 (rv 1), .int .i32 (rv 2), .int .i32 (rv 3)] 72)) := (hbv.trans (hb3.mono hbv.size)).alloc (by have := hb3.size; simp at this; omega) _
  have HR := hidIt (HM.out.same I HP.out hbx hb4)
  have heqv := Tryz.eqVals
  clear hb4 hb3 hbv
  simp only [valsV]
  go_wp2_with fail
  go_ret
  exact ⟨ret_bool (by simp), HR.out⟩

end Go.Proofs.YtfdalbmopaemgabGreatDoor

namespace Go.Proofs.YtfdalbmopaemgabGreatDoor
open Go.RowKit

/-! ### All that a script has made: the lists that are kept, and the players -/
structure PlD where
  pb : Nat
  F : Nat → Prop
  sp : Value
  hv : Value
  es : List Ev

def PlD.own (d : PlD) (k : Nat) : Prop := k = d.pb ∨ d.F k ∨ d.hv.ownBlock = some k

def ptrs (ds : List PlD) : List Value := ds.map fun d => .pointer (some ⟨d.pb, 0, none⟩)

structure GInv (St : World → (Nat → Prop) → Value → List Ev → Prop) (w : World) (B wb : Nat) (hv : Value) (hs : List (Value × Int)) (pv : Value) (ds : List PlD) : Prop where
  inv : Inv w B wb hv hs
  pcell : w.cell? ⟨wb, 0, none⟩ = some pv
  pfz : w.frozen? ⟨wb, 0, none⟩ = false
  prow : w.ownsRow B 37 1 pv ds.length (ptrs ds)
  pfar : pv.ownBlock ≠ some wb
  pap : ∀ g, pv.ownBlock = some g → hv.ownBlock ≠ some g
  pho : ∀ x ∈ hs, ∀ g, x.1.ownBlock = some g → pv.ownBlock ≠ some g
  each : ∀ i (hi : i < ds.length), Pl St w B ds[i].pb ds[i].F ds[i].sp ds[i].hv ds[i].es
  sep : ∀ i (hi : i < ds.length), ∀ k, ds[i].own k → k ≠ wb ∧ hv.ownBlock ≠ some k ∧ pv.ownBlock ≠ some k ∧ ∀ x ∈ hs, x.1.ownBlock ≠ some k
  two : ∀ i j (hi : i < ds.length) (hj : j < ds.length), i ≠ j → ∀ k, ds[i].own k → ¬ ds[j].own k

theorem PlD.own_lt {St : World → (Nat → Prop) → Value → List Ev → Prop} (I : StOk St) {w : World} {B : Nat} {d : PlD} (h : Pl St w B d.pb d.F d.sp d.hv d.es) {k : Nat} (hk : d.own k) : k < w.heap.size := by
  rcases hk with rfl | hk | hk
  · exact h.lt
  · exact I.lt h.st k hk
  · exact (World.ownsRow.lt h.hist.1 k hk).2

theorem Pl.same {St : World → (Nat → Prop) → Value → List Ev → Prop} (I : StOk St) {w w' : World} {B : Nat} {d : PlD} (h : Pl St w B d.pb d.F d.sp d.hv d.es) (hs : w.heap.size ≤ w'.heap.size) (hh : ∀ k, d.own k → w'.heap[k]? = w.heap[k]?) : Pl St w' B d.pb d.F d.sp d.hv d.es :=
  h.stay I hs (hh _ (Or.inl rfl)) (fun k hk => hh k (Or.inr (Or.inl hk))) (fun g hg => hh g (Or.inr (Or.inr hg)))

/-- Nothing turns where new blocks alone are made. -/
theorem GInv.below {St : World → (Nat → Prop) → Value → List Ev → Prop} (I : StOk St) {w w' : World} {B wb : Nat} {hv pv : Value} {hs : List (Value × Int)} {ds : List PlD} (h : GInv St w B wb hv hs pv ds) (hb : Below w.heap.size w w') : GInv St w' B wb hv hs pv ds :=
  ⟨h.inv.below hb, by rw [World.cell?_of_block (a := ⟨wb, 0, none⟩) (hb.block wb h.inv.wb_lt)]; exact h.pcell, by rw [World.frozen?_of_block (a := ⟨wb, 0, none⟩) (hb.block wb h.inv.wb_lt)]; exact h.pfz,
   ownsRow_of_heap h.prow fun g hg => hb.block g (World.ownsRow.lt h.prow g hg).2, h.pfar, h.pap, h.pho, fun i hi => (h.each i hi).below I hb, h.sep, h.two⟩

/-- A player has done a step. -/
theorem GInv.act_at {St : World → (Nat → Prop) → Value → List Ev → Prop} (I : StOk St) {w w' : World} {B wb : Nat} {hv pv : Value} {hs : List (Value × Int)} {ds : List PlD} (h : GInv St w B wb hv hs pv ds) (i : Nat) (hi : i < ds.length) (F' : Nat → Prop) (hv' : Value) (es' : List Ev) (d : PlD) (hd : d = ⟨ds[i].pb, F', ds[i].sp, hv', es'⟩)
    (p1 : Pl St w' B ds[i].pb F' ds[i].sp hv' es') (p2 : ∀ k, k < w.heap.size → ¬ ds[i].F k → k ≠ ds[i].pb → w'.heap[k]? = w.heap[k]?) (p3 : ∀ k, F' k → ds[i].F k ∨ w.heap.size ≤ k) (p4 : ∀ g, hv'.ownBlock = some g → ds[i].hv.ownBlock = some g ∨ w.heap.size ≤ g) (p5 : Below 0 w w') : GInv St w' B wb hv hs pv (ds.set i d) ∧ Below B w w' := by
  have hsz := p5.size
  have hdo : ∀ k, d.own k → ds[i].own k ∨ w.heap.size ≤ k := fun k hk => by
    rw [hd] at hk
    rcases hk with hk | hk | hk
    · exact Or.inl (Or.inl hk)
    · rcases p3 k hk with q | q
      · exact Or.inl (Or.inr (Or.inl q))
      · exact Or.inr q
    · rcases p4 k hk with q | q
      · exact Or.inl (Or.inr (Or.inr q))
      · exact Or.inr q
  have hrest : ∀ k, k < w.heap.size → ¬ ds[i].own k → w'.heap[k]? = w.heap[k]? := fun k hk hn => p2 k hk (fun q => hn (Or.inr (Or.inl q))) (fun q => hn (Or.inl q))
  have hwb : w'.heap[wb]? = w.heap[wb]? := hrest wb h.inv.wb_lt (fun q => (h.sep i hi wb q).1 rfl)
  have hget : ∀ j (hj : j < (ds.set i d).length), (ds.set i d)[j] = if i = j then d else ds[j]'(by simpa using hj) := fun j hj => by rw [List.getElem_set]
  have hlen : (ds.set i d).length = ds.length := by simp
  have hptr : ptrs (ds.set i d) = ptrs ds := by
    apply List.ext_getElem?
    intro j
    unfold ptrs
    rw [List.getElem?_map, List.getElem?_map, List.getElem?_set]
    by_cases e : i = j
    · subst e
      rw [if_pos rfl, if_pos hi, List.getElem?_eq_getElem hi, hd]
      rfl
    · rw [if_neg e]
  have hnew : ∀ k, d.own k → k ≠ wb ∧ hv.ownBlock ≠ some k ∧ pv.ownBlock ≠ some k ∧ ∀ x ∈ hs, x.1.ownBlock ≠ some k := fun k hk => by
    rcases hdo k hk with q | q
    · exact h.sep i hi k q
    · refine ⟨fun e => ?_, fun e => ?_, fun e => ?_, fun x hx e => ?_⟩
      · have := h.inv.wb_lt; omega
      · have := (h.inv.hv_lt k e).2; omega
      · have := (World.ownsRow.lt h.prow k e).2; omega
      · have := ((h.inv.each x hx).lt k e).2; omega
  refine ⟨⟨h.inv.stay hsz hwb (fun g hg => hrest g (h.inv.hv_lt g hg).2 (fun q => (h.sep i hi g q).2.1 hg)) (fun x hx g hg => hrest g ((h.inv.each x hx).lt g hg).2 (fun q => (h.sep i hi g q).2.2.2 x hx hg)),
    by rw [World.cell?_of_block (a := ⟨wb, 0, none⟩) hwb]; exact h.pcell, by rw [World.frozen?_of_block (a := ⟨wb, 0, none⟩) hwb]; exact h.pfz,
    by rw [hlen, hptr]; exact ownsRow_of_heap h.prow fun g hg => hrest g (World.ownsRow.lt h.prow g hg).2 (fun q => (h.sep i hi g q).2.2.1 hg), h.pfar, h.pap, h.pho, fun j hj => ?_, fun j hj k hk => ?_, fun j l hj hl hjl k hk hk' => ?_⟩, ?_⟩
  · rw [hget j hj]
    have hj' : j < ds.length := by simpa using hj
    by_cases e : i = j
    · rw [if_pos e, hd]
      exact p1
    · rw [if_neg e]
      exact (h.each j hj').same I hsz fun k hk => hrest k (PlD.own_lt I (h.each j hj') hk) (fun q => h.two j i hj' hi (Ne.symm e) k hk q)
  · rw [hget j hj] at hk
    by_cases e : i = j
    · rw [if_pos e] at hk; exact hnew k hk
    · rw [if_neg e] at hk; exact h.sep j (by simpa using hj) k hk
  · have hj' : j < ds.length := by simpa using hj
    have hl' : l < ds.length := by simpa using hl
    rw [hget j hj] at hk
    rw [hget l hl] at hk'
    by_cases e : i = j
    · rw [if_pos e] at hk
      rw [if_neg (by omega)] at hk'
      rcases hdo k hk with q | q
      · exact h.two i l hi hl' (by omega) k q hk'
      · have := PlD.own_lt I (h.each l hl') hk'; omega
    · rw [if_neg e] at hk
      by_cases e' : i = l
      · rw [if_pos e'] at hk'
        rcases hdo k hk' with q | q
        · exact h.two j i hj' hi (by omega) k hk q
        · have := PlD.own_lt I (h.each j hj') hk; omega
      · rw [if_neg e'] at hk'
        exact h.two j l hj' hl' hjl k hk hk'
  · refine ⟨p5.os, p5.tape, p5.output, p5.size, fun k hk => ?_⟩
    have hB : B ≤ w.heap.size := Nat.le_trans h.inv.base (Nat.le_of_lt h.inv.wb_lt)
    refine hrest k (by omega) (fun q => ?_)
    have he := h.each i hi
    rcases q with q | q | q
    · have := he.base; omega
    · have := he.baseF k q; omega
    · have := (World.ownsRow.lt he.hist.1 k q).1; omega

theorem GInv.act {St : World → (Nat → Prop) → Value → List Ev → Prop} (I : StOk St) {w w' : World} {B wb : Nat} {hv pv : Value} {hs : List (Value × Int)} {ds : List PlD} (h : GInv St w B wb hv hs pv ds) (i : Nat) (hi : i < ds.length) {r : Ending} (hp : PlPost St w B ds[i].pb ds[i].F ds[i].sp ds[i].hv r w') : ∃ ds', GInv St w' B wb hv hs pv ds' ∧ ds'.length = ds.length ∧ Below B w w' := by
  obtain ⟨_, F', hv', es', p1, p2, p3, p4, p5⟩ := hp
  obtain ⟨q1, q2⟩ := h.act_at I i hi F' hv' es' _ rfl p1 p2 p3 p4 p5
  exact ⟨_, q1, by simp, q2⟩

/-! ### pick -/
set_option maxHeartbeats 1000000 in
theorem pick_any (c : Int) (n : Nat) (w : World) (h0 : -9223372036854775808 ≤ c) (h1 : c ≤ 9223372036854775807) (hn : 0 < n) (hn2 : n ≤ 1048576) :
    Calls Tryz.prog 14 #[.int .i64 c, .int .i64 (n : Int)] w fun r w' => ∃ k : Nat, k < n ∧ r = .returned (.int .i64 (k : Int)) ∧ w' = w := by
  have hn0 : (0 : Int) < (n : Int) := by omega
  have hmod : ∀ m : Int, 0 ≤ m → ∃ k : Nat, k < n ∧ m.tmod (n : Int) = (k : Int) := fun m hm => by
    have h2 := Int.emod_nonneg m (show (n : Int) ≠ 0 by omega)
    have h3 := Int.emod_lt_of_pos m hn0
    exact ⟨(m % (n : Int)).toNat, by omega, by rw [Int.tmod_eq_emod_of_nonneg hm]; omega⟩
  by_cases hc : c < 0
  · obtain ⟨k, hk, hm⟩ := hmod (-(c + 1)) (by omega)
    rw [Int.neg_tmod] at hm
    have HK := hidIt (And.intro hk hm)
    clear hk hm hmod
    go_enter Tryz.func14, Tryz.ntmps14
    go_wp2
    go_ret
    exact ⟨k, HK.out.1, ret_int HK.out.2, rfl⟩
  · obtain ⟨k, hk, hm⟩ := hmod c (by omega)
    have HK := hidIt (And.intro hk hm)
    clear hk hm hmod
    go_enter Tryz.func14, Tryz.ntmps14
    go_wp2
    go_ret
    exact ⟨k, HK.out.1, ret_int (by first | exact HK.out.2 | (rw [← HK.out.2, Int.tmod_eq_emod_of_nonneg (by omega)])), rfl⟩

end Go.Proofs.YtfdalbmopaemgabGreatDoor

namespace Go.Proofs.YtfdalbmopaemgabGreatDoor
open Go.RowKit

/-- What is asked of New. -/
def StNew (St : World → (Nat → Prop) → Value → List Ev → Prop) : Prop := ∀ w, Calls Tryz.prog 9 #[] w fun r w' => ∃ b F, r = .returned (.pointer (some ⟨b, 0, none⟩)) ∧ St w' F (.pointer (some ⟨b, 0, none⟩)) [] ∧ (∀ k, F k → w.heap.size ≤ k) ∧ Below w.heap.size w w'

/-- One player more: behind the append to the players and the store of them. -/
theorem GInv.push {St : World → (Nat → Prop) → Value → List Ev → Prop} (I : StOk St) {w w' : World} {B wb : Nat} {hv pv pv' : Value} {hs : List (Value × Int)} {ds : List PlD} (h : GInv St w B wb hv hs pv ds) (d : PlD) (hd : Pl St w B d.pb d.F d.sp d.hv d.es)
    (hsep : ∀ k, d.own k → k ≠ wb ∧ hv.ownBlock ≠ some k ∧ pv.ownBlock ≠ some k ∧ ∀ x ∈ hs, x.1.ownBlock ≠ some k) (htwo : ∀ i (hi : i < ds.length), ∀ k, d.own k → ¬ ds[i].own k)
    (ho : w'.ownsRow B 37 1 pv' (ds.length + 1) (ptrs ds ++ [.pointer (some ⟨d.pb, 0, none⟩)])) (ha : AppPost w w' pv pv') :
    GInv St (w'.setCell ⟨wb, 0, none⟩ pv') B wb hv hs pv' (ds ++ [d]) := by
  have hsz : w.heap.size ≤ w'.heap.size := by rcases ha with ⟨g, _, _, hg⟩ | ⟨g, _, _, hg⟩ <;> exact hg.size
  have hblk : ∀ k, k < w.heap.size → pv.ownBlock ≠ some k → w'.heap[k]? = w.heap[k]? := fun k hk hn => by
    rcases ha with ⟨g, e1, _, hg⟩ | ⟨g, _, _, hg⟩
    · exact hg.block k hk (fun e => hn (by rw [e1, e]))
    · exact hg.block k hk (by intro e; cases e)
  have hset : ∀ k, k ≠ wb → (w'.setCell ⟨wb, 0, none⟩ pv').heap[k]? = w'.heap[k]? := fun k hk => Below.heap_setCell _ ⟨wb, 0, none⟩ _ _ hk
  have hall : ∀ k, k < w.heap.size → pv.ownBlock ≠ some k → k ≠ wb → (w'.setCell ⟨wb, 0, none⟩ pv').heap[k]? = w.heap[k]? := fun k hk hn hkw => (hset k hkw).trans (hblk k hk hn)
  have hown' : ∀ g, pv'.ownBlock = some g → pv.ownBlock = some g ∨ w.heap.size ≤ g := fun g hg => by
    rcases ha with ⟨g', e1, e2, _⟩ | ⟨g', e2, e3, _⟩
    · rw [e2] at hg; cases hg; exact Or.inl e1
    · rw [e2] at hg; cases hg; exact Or.inr e3
  have hwb' : w'.heap[wb]? = w.heap[wb]? := hblk wb h.inv.wb_lt h.pfar
  have hpfar : pv'.ownBlock ≠ some wb := fun e => by
    rcases hown' wb e with q | q
    · exact h.pfar q
    · have := h.inv.wb_lt; omega
  have hsz2 : (w'.setCell ⟨wb, 0, none⟩ pv').heap.size = w'.heap.size := by simp
  have hne : ∀ k, pv.ownBlock ≠ some k → k < w.heap.size → pv'.ownBlock ≠ some k := fun k h1 h2 e => by
    rcases hown' k e with q | q
    · exact h1 q
    · omega
  have hgetl : ∀ i (hi : i < (ds ++ [d]).length), (∃ hi' : i < ds.length, (ds ++ [d])[i] = ds[i]) ∨ (i = ds.length ∧ (ds ++ [d])[i] = d) := fun i hi => by
    by_cases e : i < ds.length
    · exact Or.inl ⟨e, List.getElem_append_left e⟩
    · have : i = ds.length := by simp at hi; omega
      subst this
      exact Or.inr ⟨rfl, by simp⟩
  refine ⟨⟨?_, ?_, ?_, h.inv.far, h.inv.base, fun x hx => ?_⟩, ?_, ?_, ?_, hpfar, fun g hg => ?_, fun x hx g hg => ?_, fun i hi => ?_, fun i hi k hk => ?_, fun i j hi hj hij k hk hk' => ?_⟩
  · rw [World.cell?_setCell_other _ _ _ _ (by intro e; injection e with _ e2 _; cases e2), World.cell?_of_block (a := ⟨wb, 1, none⟩) hwb']
    exact h.inv.cell
  · rw [World.frozen?_setCell, World.frozen?_of_block (a := ⟨wb, 1, none⟩) hwb']; exact h.inv.froz
  · exact ownsRow_of_heap h.inv.row fun g hg => hall g (h.inv.hv_lt g hg).2 (fun e => h.pap g e hg) (fun e => h.inv.far (by rw [← e]; exact hg))
  · exact (h.inv.each x hx).stay (by rw [hsz2]; exact hsz) fun g hg => hall g ((h.inv.each x hx).lt g hg).2 (h.pho x hx g hg) (fun e => (h.inv.each x hx).far (by rw [← e]; exact hg))
  · exact World.cell?_setCell_same _ _ _ (u := pv) (by rw [World.cell?_of_block (a := ⟨wb, 0, none⟩) hwb']; exact h.pcell)
  · rw [World.frozen?_setCell, World.frozen?_of_block (a := ⟨wb, 0, none⟩) hwb']; exact h.pfz
  · have hp : ptrs (ds ++ [d]) = ptrs ds ++ [.pointer (some ⟨d.pb, 0, none⟩)] := by simp [ptrs]
    rw [hp, List.length_append]
    exact ownsRow_of_heap ho fun g hg => hset g (fun e => hpfar (by rw [← e]; exact hg))
  · intro e
    rcases hown' g hg with q | q
    · exact h.pap g q e
    · have := (h.inv.hv_lt g e).2; omega
  · exact hne g (h.pho x hx g hg) ((h.inv.each x hx).lt g hg).2
  · rcases hgetl i hi with ⟨hi', e⟩ | ⟨_, e⟩
    · rw [e]
      exact (h.each i hi').same I (by rw [hsz2]; exact hsz) fun k hk => hall k (PlD.own_lt I (h.each i hi') hk) (h.sep i hi' k hk).2.2.1 (h.sep i hi' k hk).1
    · rw [e]
      exact hd.same I (by rw [hsz2]; exact hsz) fun k hk => hall k (PlD.own_lt I hd hk) (hsep k hk).2.2.1 (hsep k hk).1
  · rcases hgetl i hi with ⟨hi', e⟩ | ⟨_, e⟩
    · rw [e] at hk
      have q := h.sep i hi' k hk
      exact ⟨q.1, q.2.1, hne k q.2.2.1 (PlD.own_lt I (h.each i hi') hk), q.2.2.2⟩
    · rw [e] at hk
      have q := hsep k hk
      exact ⟨q.1, q.2.1, hne k q.2.2.1 (PlD.own_lt I hd hk), q.2.2.2⟩
  · rcases hgetl i hi with ⟨hi', e⟩ | ⟨ei, e⟩
    · rw [e] at hk
      rcases hgetl j hj with ⟨hj', e'⟩ | ⟨_, e'⟩
      · rw [e'] at hk'
        exact h.two i j hi' hj' hij k hk hk'
      · rw [e'] at hk'
        exact htwo i hi' k hk' hk
    · rw [e] at hk
      rcases hgetl j hj with ⟨hj', e'⟩ | ⟨ej, _⟩
      · rw [e'] at hk'
        exact htwo j hj' k hk hk'
      · omega

theorem Tryz.infoPtr : (Tryz.prog.info? 37).map (fun i => (i.zero, i.size, i.bytes)) = some (some (.pointer none), 1, 8) := by kernel_rfl

theorem ptr_new (w : World) (T : TypeId) (b : Nat) : ∀ j u, ([.pointer (some ⟨b, 0, none⟩)] : List Value)[j]? = some u → (w.alloc (.cells #[.pointer (some ⟨b, 0, none⟩)] T)).cell? ((⟨w.heap.size, 0, none⟩ : Addr).add j) = some u := by
  intro j u hj
  cases j with
  | zero => simp at hj; subst hj; simp [go_sem, Addr.add]
  | succ j => simp at hj

def NewPost (St : World → (Nat → Prop) → Value → List Ev → Prop) (w : World) (B wb : Nat) (hv : Value) (hs : List (Value × Int)) (n : Nat) (r : Ending) (w' : World) : Prop :=
  r = .returned (.bool true) ∧ ∃ pv' ds', GInv St w' B wb hv hs pv' ds' ∧ ds'.length = n + 1 ∧ Below B w w'

set_option maxRecDepth 100000 in
set_option maxHeartbeats 4000000 in
theorem created_any {St : World → (Nat → Prop) → Value → List Ev → Prop} (I : StOk St) (N : StNew St) (B wb : Nat) (hv : Value) (hs : List (Value × Int)) (pv : Value) (ds : List PlD) (w : World) (h : GInv St w B wb hv hs pv ds) (hn : ds.length ≤ 1048576) :
    Calls Tryz.prog 6 #[.pointer (some ⟨wb, 0, none⟩)] w (NewPost St w B wb hv hs ds.length) := by
  have HG := hidIt h
  have hBw : B ≤ w.heap.size := Nat.le_trans h.inv.base (Nat.le_of_lt h.inv.wb_lt)
  have hwl := h.inv.wb_lt
  obtain ⟨pa, pc, hpf⟩ := ownsRow_form h.prow
  have HPF := hidIt hpf
  obtain ⟨i0, hi, hz0, hz1, hz2⟩ := info_parts Tryz.infoPtr
  have HI := hidIt hi
  have HZ0 := hidIt hz0
  have HZ1 := hidIt hz1
  have HZ2 := hidIt hz2
  clear hi hz0 hz1 hz2 h hpf
  go_enter Tryz.func6, Tryz.ntmps6
  go_wp2_with fail
  refine (N w).mono ?_
  rintro r w2 ⟨sb, F, rfl, hst, hF, hb2⟩
  have hg2 := HG.out.below I hb2
  have c0 := hg2.pcell
  rw [HPF.out] at c0
  have f0 := hg2.pfz
  have hw2 : w.heap.size ≤ w2.heap.size := hb2.size
  have hwb2 : wb < w2.heap.size := by omega
  have HG2 := hidIt hg2
  have HST := hidIt hst
  have HFF := hidIt hF
  clear hg2 hst hF
  go_wp2_with (at_builtin; refine wpList_append_two _ rfl _ _ 27 rfl B 37 i0 (.pointer none) 1 8 Tryz.underlying27 HI.out HZ0.out HZ1.out HZ2.out rfl (by decide) pv ds.length (ptrs ds) HPF.out.symm ((HG2.out.below I ((Below.refl _ _).alloc (Nat.le_refl _) (.cells #[.pointer (some ⟨sb, 0, none⟩), .slice none 0 0] 39))).below I ((Below.refl _ _).alloc (Nat.le_refl _) _)).prow ⟨w2.heap.size + 1, 0, none⟩ 1 1 [.pointer (some ⟨w2.heap.size, 0, none⟩)] rfl rfl ?c1 ?c2 (by decide) ?c3 ?c4 ?c5 ?_)
  case c1 =>
    have h7 := ptr_new (w2.alloc (.cells #[.pointer (some ⟨sb, 0, none⟩), .slice none 0 0] 39)) 37 w2.heap.size
    rwa [World.size_alloc] at h7
  case c2 =>
    intro u hu
    rw [List.mem_singleton] at hu
    subst hu
    rfl
  case c3 => unfold maxLen; omega
  case c4 => omega
  case c5 => simp; omega
  intro pv' w4 hown4 happ4
  have hb3a : Below w2.heap.size w2 (w2.alloc (.cells #[.pointer (some ⟨sb, 0, none⟩), .slice none 0 0] 39)) := (Below.refl _ _).alloc (Nat.le_refl _) _
  have hb3 : Below w2.heap.size w2 ((w2.alloc (.cells #[.pointer (some ⟨sb, 0, none⟩), .slice none 0 0] 39)).alloc (.cells #[.pointer (some ⟨w2.heap.size, 0, none⟩)] 37)) := hb3a.alloc (by simp) _
  have hg3 := HG2.out.below I hb3
  have hlt := I.lt HST.out
  have hpb : ((w2.alloc (.cells #[.pointer (some ⟨sb, 0, none⟩), .slice none 0 0] 39)).alloc (.cells #[.pointer (some ⟨w2.heap.size, 0, none⟩)] 37)).heap[w2.heap.size]? = (w2.alloc (.cells #[.pointer (some ⟨sb, 0, none⟩), .slice none 0 0] 39)).heap[w2.heap.size]? := ((Below.refl _ _).alloc (Nat.le_refl _) _).block _ (by simp)
  have hd : Pl St ((w2.alloc (.cells #[.pointer (some ⟨sb, 0, none⟩), .slice none 0 0] 39)).alloc (.cells #[.pointer (some ⟨w2.heap.size, 0, none⟩)] 37)) B w2.heap.size F (.pointer (some ⟨sb, 0, none⟩)) (.slice none 0 0) [] :=
    ⟨by rw [World.cell?_of_block (a := ⟨w2.heap.size, 0, none⟩) hpb]; simp [go_sem], by rw [World.cell?_of_block (a := ⟨w2.heap.size, 1, none⟩) hpb]; simp [go_sem], by rw [World.frozen?_of_block (a := ⟨w2.heap.size, 1, none⟩) hpb]; simp [go_sem],
     I.frame _ HST.out (fun k hk => hb3.block k (hlt k hk)) hb3.size, ⟨Own.nil _ _, fun _ => rfl⟩, fun q => by have := hlt _ q; omega, fun g hg => by simp [Value.ownBlock] at hg, by simp [Value.ownBlock], by omega, fun k hk => by have := HFF.out k hk; omega⟩
  have hdo : ∀ k, PlD.own ⟨w2.heap.size, F, .pointer (some ⟨sb, 0, none⟩), .slice none 0 0, []⟩ k → w.heap.size ≤ k := fun k hk => by
    rcases hk with hk | hk | hk
    · simp only at hk; omega
    · exact HFF.out k hk
    · simp [Value.ownBlock] at hk
  have hpush := hg3.push I ⟨w2.heap.size, F, .pointer (some ⟨sb, 0, none⟩), .slice none 0 0, []⟩ hd
    (fun k hk => ⟨fun e => by have := hdo k hk; omega, fun e => by have := hdo k hk; have := (HG.out.inv.hv_lt k e).2; omega, fun e => by have := hdo k hk; have := (World.ownsRow.lt HG.out.prow k e).2; omega, fun x hx e => by have := hdo k hk; have := ((HG.out.inv.each x hx).lt k e).2; omega⟩)
    (fun i hi k hk q => by have := hdo k hk; have := PlD.own_lt I (HG.out.each i hi) q; omega) hown4 happ4
  have hwb4 : w4.heap[wb]? = ((w2.alloc (.cells #[.pointer (some ⟨sb, 0, none⟩), .slice none 0 0] 39)).alloc (.cells #[.pointer (some ⟨w2.heap.size, 0, none⟩)] 37)).heap[wb]? := by
    rcases happ4 with ⟨g, e1, _, hg⟩ | ⟨g, _, _, hg⟩
    · exact hg.block wb (by simp; omega) (fun e => HG2.out.pfar (by rw [e1, e]))
    · exact hg.block wb (by simp; omega) (by intro e; cases e)
  have k1 : w4.cell? ⟨wb, 0, none⟩ = some (.slice pa ds.length pc) := by rw [World.cell?_of_block (a := ⟨wb, 0, none⟩) hwb4, bcells hb3 _ _ hwb2]; exact c0
  have k2 : w4.frozen? ⟨wb, 0, none⟩ = false := by rw [World.frozen?_of_block (a := ⟨wb, 0, none⟩) hwb4]; exact hg3.pfz
  have hb4 := below_app ((hb2.mono hBw).trans (hb3.mono (Nat.le_trans hBw hw2))) happ4 (fun g hg => (World.ownsRow.lt HG2.out.prow g hg).1) (by simp; omega)
  obtain ⟨a4, c4, rfl⟩ := ownsRow_form hown4
  have HR := hidIt (And.intro hpush (hb4.setCell (p := ⟨wb, 0, none⟩) HG.out.inv.base (.slice a4 (ds.length + 1) c4)))
  clear hown4 happ4 hb3a hb3 hg3 hlt hpb hd hdo hpush hwb4 hb4
  go_wp2_with fail
  go_ret
  exact ⟨rfl, _, _, HR.out.1, by simp, HR.out.2⟩

end Go.Proofs.YtfdalbmopaemgabGreatDoor
