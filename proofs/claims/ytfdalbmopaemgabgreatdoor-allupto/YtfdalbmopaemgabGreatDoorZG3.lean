import Derived.Test.YtfdalbmopaemgabGreatDoorZG1
import Derived.Test.YtfdalbmopaemgabGreatDoorZK9
import Derived.Deep.RegionLaw
namespace Go.Proofs.YtfdalbmopaemgabGreatDoor
open Go.RowKit

/-! ### append as one step of a statement that draws its order -/
def AppPost0 (w w' : World) (v v' : Value) (m : Nat) : Prop := (m = 0 ∧ v' = v ∧ w' = w) ∨ (0 < m ∧ AppPost w w' v v')

theorem run_append_two {P : Program} (w : World) (t ty : TypeId) (base : Nat) (e : TypeId) (i : TypeInfo) (z : Value) (size bytes : Nat) (ht : P.underlying t = some (.slice e)) (hi : P.info? e = some i) (hz : i.zero = some z)
    (hsize : i.size = size) (hby : i.bytes = bytes) (hzs : z.cells.size = size) (hsz : 0 < size)
    (v : Value) (n : Nat) (xs : List Value) (hown : w.ownsRow base e size v n xs) (ao : Option Addr) (m c : Nat) (news : List Value) (hnil : m = 0 → ao = none ∧ c = 0) (hsome : ao = none → m = 0) (hl : news.length = m * size)
    (hnews : ∀ ad, ao = some ad → ∀ j u, news[j]? = some u → w.cell? (ad.add j) = some u) (h1 : ∀ u ∈ news, u.oneCell' = true) (h63 : n + m ≤ maxLen) (hbytes : (n + m) * bytes ≤ 140737488355328) (hbase : base ≤ w.heap.size) :
    ∃ v' w', (Builtin.append_ #[t, t] ty #[v, .slice ao m c]).run P w = .ok v' w' ∧ w'.ownsRow base e size v' (n + m) (xs ++ news) ∧ AppPost0 w w' v v' m := by
  by_cases hm : m = 0
  · obtain ⟨rfl, rfl⟩ := hnil hm
    subst hm
    obtain rfl : news = [] := List.eq_nil_of_length_eq_zero (by simpa using hl)
    exact ⟨v, w, run_append_owned_none (P := P) w base t ty e i size ht hi v n xs hown, by simpa using hown, Or.inl ⟨rfl, rfl, rfl⟩⟩
  · cases ao with
    | none => exact absurd (hsome rfl) hm
    | some ad =>
      have hm' : 0 < m := by omega
      rcases hown.2 with ⟨rfl, rfl⟩ | ⟨g, cap, cur, rfl, hb, hg, hnc, hcm, hcs, htake⟩
      · have hx0 : xs = [] := List.eq_nil_of_length_eq_zero (by simpa using hown.1)
        subst hx0
        obtain ⟨v', w', hrun, r1, r2, _⟩ := run_append_own (P := P) w w.heap.size t ty e i z size bytes ht hi hz hsize hby hzs hsz (.slice none 0 0) 0 [] (World.ownsRow_nil w _ e size) ad m c news hl (hnews ad rfl) h1 h63 hbytes (Nat.le_refl _)
        obtain ⟨g, hg1, hg2⟩ := ownsRow_block r1 (by omega)
        exact ⟨v', w', hrun, ownsRow_mono r1 hbase, Or.inr ⟨hm', Or.inr ⟨g, hg1, hg2, r2⟩⟩⟩
      · by_cases hroom : n + m ≤ cap
        · obtain ⟨w', hrun, r1, r2⟩ := run_append_fits (P := P) w base t ty e i size ht hi hsize g n cap xs hown ad m c news hl (hnews ad rfl) h1 hroom
          exact ⟨_, w', hrun, r1, Or.inr ⟨hm', Or.inl ⟨g, rfl, rfl, r2⟩⟩⟩
        · obtain ⟨v', w', hrun, r1, r2⟩ := run_append_arg_grows (P := P) w t ty e i z size bytes ht hi hz hsize hby hzs hsz ⟨g, 0, none⟩ n cap xs hown.1 (hown.cells (g := g) rfl) ad m c news hl (hnews ad rfl) (by omega) h63 hbytes
          obtain ⟨g', hg1, hg2⟩ := ownsRow_block r1 (by omega)
          exact ⟨v', w', hrun, ownsRow_mono r1 hbase, Or.inr ⟨hm', Or.inr ⟨g', hg1, hg2, r2⟩⟩⟩

theorem step_append_two {P : Program} {ops : Array Oper} {o : Oper} {a : Act} {w : World} {K : Act → World → Prop} {Q : Exit → Act → World → Prop} {E : Prop}
    (hg : o.guard = none) (s x : Operand) (t : TypeId) (hop : o.op = Op.call { callee := Callee.builtin Builtin.append, args := #[s, x], argTypes := #[t, t] })
    (base : Nat) (e : TypeId) (i : TypeInfo) (z : Value) (size bytes : Nat) (ht : P.underlying t = some (.slice e)) (hi : P.info? e = some i) (hz : i.zero = some z)
    (hsize : i.size = size) (hby : i.bytes = bytes) (hzs : z.cells.size = size) (hsz : 0 < size)
    (v : Value) (n : Nat) (xs : List Value) (hs : a.eval s = v) (hown : w.ownsRow base e size v n xs) (ao : Option Addr) (m c : Nat) (news : List Value) (hx : a.eval x = .slice ao m c) (hnil : m = 0 → ao = none ∧ c = 0) (hsome : ao = none → m = 0) (hl : news.length = m * size)
    (hnews : ∀ ad, ao = some ad → ∀ j u, news[j]? = some u → w.cell? (ad.add j) = some u) (h1 : ∀ u ∈ news, u.oneCell' = true) (h63 : n + m ≤ maxLen) (hbytes : (n + m) * bytes ≤ 140737488355328) (hbase : base ≤ w.heap.size)
    (hK : ∀ v' w', w'.ownsRow base e size v' (n + m) (xs ++ news) → AppPost0 w w' v v' m → K (a.put o.dst v') w') :
    if Region.wanted o (yielded ops a.tmps) = true then Oper.wp P o a w K Q else E := by
  have hw : Region.wanted o (yielded ops a.tmps) = true := by simp [Region.wanted, hg]
  rw [if_pos hw]
  obtain ⟨v', w', hrun, r1, r2⟩ := run_append_two (P := P) w t o.type base e i z size bytes ht hi hz hsize hby hzs hsz v n xs hown ao m c news hnil hsome hl hnews h1 h63 hbytes hbase
  unfold Oper.wp
  simp [execOp, hop, resolve, invoke, builtin, hs, hx, hrun, Result.andThen]
  exact hK v' w' r1 r2

theorem AppPost0.size {w w' : World} {v v' : Value} {m : Nat} (h : AppPost0 w w' v v' m) : w.heap.size ≤ w'.heap.size := by
  rcases h with ⟨_, _, rfl⟩ | ⟨_, ⟨g, _, _, hg⟩ | ⟨g, _, _, hg⟩⟩
  · exact Nat.le_refl _
  · exact hg.size
  · exact hg.size

theorem AppPost0.block {w w' : World} {v v' : Value} {m : Nat} (h : AppPost0 w w' v v' m) (k : Nat) (hk : k < w.heap.size) (hv : v.ownBlock ≠ some k) : w'.heap[k]? = w.heap[k]? := by
  rcases h with ⟨_, _, rfl⟩ | ⟨_, ⟨g, e1, _, hg⟩ | ⟨g, _, _, hg⟩⟩
  · rfl
  · exact hg.block k hk (fun e => hv (by rw [e1, e]))
  · exact hg.block k hk (by intro e; cases e)

theorem AppPost0.own {w w' : World} {v v' : Value} {m : Nat} (h : AppPost0 w w' v v' m) (g : Nat) (hg : v'.ownBlock = some g) : v.ownBlock = some g ∨ w.heap.size ≤ g := by
  rcases h with ⟨_, rfl, _⟩ | ⟨_, ⟨g', e1, e2, _⟩ | ⟨g', e2, e3, _⟩⟩
  · exact Or.inl hg
  · rw [e2] at hg; cases hg; exact Or.inl e1
  · rw [e2] at hg; cases hg; exact Or.inr e3

theorem AppPost0.below {w w' : World} {v v' : Value} {m B : Nat} (h : AppPost0 w w' v v' m) (hB : ∀ g, v.ownBlock = some g → B ≤ g) (hs : B ≤ w.heap.size) : Below B w w' := by
  have hblk := fun k (hk : k < B) => h.block k (Nat.lt_of_lt_of_le hk hs) (fun e => by have := hB k e; omega)
  rcases h with ⟨_, _, rfl⟩ | ⟨_, ⟨g, _, _, hg⟩ | ⟨g, _, _, hg⟩⟩
  · exact Below.refl _ _
  · exact ⟨hg.os, hg.tape, hg.output, hg.size, hblk⟩
  · exact ⟨hg.os, hg.tape, hg.output, hg.size, hblk⟩

/-! ### Sixteen lists of places in memory -/
def intC (l : List Nat) : List Value := l.map fun (n : Nat) => .int .i64 (n : Int)

theorem intC_append (l m : List Nat) : intC (l ++ m) = intC l ++ intC m := by simp [intC]
theorem intC_length (l : List Nat) : (intC l).length = l.length := by simp [intC]
theorem intC_one (l : List Nat) : ∀ u ∈ intC l, u.oneCell' = true := by
  intro u hu
  unfold intC at hu
  rw [List.mem_map] at hu
  obtain ⟨n, _, rfl⟩ := hu
  rfl

structure WAt (w : World) (bw : Nat) (W : Nat → List Nat) (V : Nat → Value) : Prop where
  cell : ∀ x, x ≤ 15 → w.cell? ⟨bw, x, none⟩ = some (V x)
  own : ∀ x, x ≤ 15 → w.ownsRow (bw + 1) 3 1 (V x) (W x).length (intC (W x))
  nil : ∀ x, x ≤ 15 → W x = [] → V x = .slice none 0 0
  fz : ∀ o, w.frozen? ⟨bw, o, none⟩ = false
  lt : bw < w.heap.size
  apart : ∀ x y, x ≤ 15 → y ≤ 15 → x ≠ y → ∀ g, (V x).ownBlock = some g → (V y).ownBlock ≠ some g

theorem WAt.own_lt {w : World} {bw : Nat} {W : Nat → List Nat} {V : Nat → Value} (h : WAt w bw W V) (x : Nat) (hx : x ≤ 15) (g : Nat) (hg : (V x).ownBlock = some g) : bw + 1 ≤ g ∧ g < w.heap.size := World.ownsRow.lt (h.own x hx) g hg

theorem WAt.form {w : World} {bw : Nat} {W : Nat → List Nat} {V : Nat → Value} (h : WAt w bw W V) (x : Nat) (hx : x ≤ 15) : ∃ a c, V x = .slice a (W x).length c := ownsRow_form (h.own x hx)

theorem WAt.stay {w w' : World} {bw : Nat} {W : Nat → List Nat} {V : Nat → Value} (h : WAt w bw W V) (hs : w.heap.size ≤ w'.heap.size) (hh : ∀ k, bw ≤ k → k < w.heap.size → w'.heap[k]? = w.heap[k]?) : WAt w' bw W V := by
  have hb := hh bw (Nat.le_refl _) h.lt
  exact ⟨fun x hx => by rw [World.cell?_of_block (a := ⟨bw, _, none⟩) hb]; exact h.cell x hx, fun x hx => ownsRow_of_heap (h.own x hx) fun g hg => hh g (by have := (h.own_lt x hx g hg).1; omega) (h.own_lt x hx g hg).2, h.nil,
    fun o => by rw [World.frozen?_of_block (a := ⟨bw, o, none⟩) hb]; exact h.fz o, Nat.lt_of_lt_of_le h.lt hs, h.apart⟩

theorem WAt.below {w w' : World} {bw : Nat} {W : Nat → List Nat} {V : Nat → Value} (h : WAt w bw W V) (hb : Below w.heap.size w w') : WAt w' bw W V := h.stay hb.size fun k _ hk => hb.block k hk

theorem WAt.drew {w : World} {bw : Nat} {W : Nat → List Nat} {V : Nat → Value} (h : WAt w bw W V) : WAt w.drew bw W V := h.stay (Nat.le_refl _) fun _ _ _ => rfl

theorem WAt.push {w w' : World} {bw : Nat} {W : Nat → List Nat} {V : Nat → Value} (h : WAt w bw W V) (x : Nat) (hx : x ≤ 15) (L : List Nat) (v' : Value) (hown : w'.ownsRow (bw + 1) 3 1 v' (W x ++ L).length (intC (W x ++ L))) (happ : AppPost0 w w' (V x) v' L.length) :
    WAt (w'.setCell ⟨bw, x, none⟩ v') bw (upd W x (W x ++ L)) (upd V x v') := by
  have hfar : ∀ y, y ≤ 15 → (V y).ownBlock ≠ some bw := fun y hy e => by have := (h.own_lt y hy bw e).1; omega
  have hbw : w'.heap[bw]? = w.heap[bw]? := happ.block bw h.lt (hfar x hx)
  have hfar' : v'.ownBlock ≠ some bw := fun e => by have := (World.ownsRow.lt hown bw e).1; omega
  have hset : ∀ g, g ≠ bw → (w'.setCell ⟨bw, x, none⟩ v').heap[g]? = w'.heap[g]? := fun g hg => Below.heap_setCell _ ⟨bw, x, none⟩ _ _ hg
  refine ⟨fun y hy => ?_, fun y hy => ?_, fun y hy hn => ?_, fun o => ?_, ?_, fun y z hy hz hyz g hg hg' => ?_⟩
  · unfold upd
    by_cases e : y = x
    · subst e
      rw [if_pos rfl]
      exact World.cell?_setCell_same _ _ _ (u := V y) (by rw [World.cell?_of_block (a := ⟨bw, y, none⟩) hbw]; exact h.cell y hy)
    · rw [if_neg e, World.cell?_setCell_other _ _ _ _ (by intro q; injection q with _ q2 _; exact e q2.symm), World.cell?_of_block (a := ⟨bw, y, none⟩) hbw]
      exact h.cell y hy
  · unfold upd
    by_cases e : y = x
    · rw [if_pos e, if_pos e]
      exact ownsRow_of_heap hown fun g hg => hset g (fun q => hfar' (by rw [← q]; exact hg))
    · rw [if_neg e, if_neg e]
      refine ownsRow_of_heap (h.own y hy) fun g hg => ?_
      rw [hset g (fun q => hfar y hy (by rw [← q]; exact hg))]
      exact happ.block g (h.own_lt y hy g hg).2 (h.apart y x hy hx e g hg)
  · unfold upd at hn ⊢
    by_cases e : y = x
    · rw [if_pos e] at hn ⊢
      rw [List.append_eq_nil_iff] at hn
      rcases happ with ⟨_, rfl, _⟩ | ⟨h0, _⟩
      · exact h.nil x hx hn.1
      · rw [hn.2] at h0; simp at h0
    · rw [if_neg e] at hn ⊢
      exact h.nil y hy hn
  · rw [World.frozen?_setCell, World.frozen?_of_block (a := ⟨bw, o, none⟩) hbw]; exact h.fz o
  · have := happ.size; have := h.lt; simp; omega
  · unfold upd at hg hg'
    by_cases e : y = x
    · rw [if_pos e] at hg
      rw [if_neg (by omega)] at hg'
      rcases happ.own g hg with h1 | h1
      · exact h.apart x z hx hz (by omega) g h1 hg'
      · have := (h.own_lt z hz g hg').2; omega
    · rw [if_neg e] at hg
      by_cases e' : z = x
      · rw [if_pos e'] at hg'
        rcases happ.own g hg' with h1 | h1
        · exact h.apart y x hy hx e g hg h1
        · have := (h.own_lt y hy g hg).2; omega
      · rw [if_neg e'] at hg'
        exact h.apart y z hy hz hyz g hg hg'

theorem wat_new (w : World) (T : TypeId) : WAt (w.alloc (.cells #[.slice none 0 0, .slice none 0 0, .slice none 0 0, .slice none 0 0, .slice none 0 0, .slice none 0 0, .slice none 0 0, .slice none 0 0, .slice none 0 0, .slice none 0 0, .slice none 0 0, .slice none 0 0, .slice none 0 0, .slice none 0 0, .slice none 0 0, .slice none 0 0] T)) w.heap.size (fun _ => []) (fun _ => .slice none 0 0) := by
  refine ⟨fun x hx => ?_, fun x _ => World.ownsRow_nil _ _ _ _, fun _ _ _ => rfl, fun o => by simp [go_sem], by simp, fun x y _ _ _ g hg => by simp [Value.ownBlock] at hg⟩
  have hc : x = 0 ∨ x = 1 ∨ x = 2 ∨ x = 3 ∨ x = 4 ∨ x = 5 ∨ x = 6 ∨ x = 7 ∨ x = 8 ∨ x = 9 ∨ x = 10 ∨ x = 11 ∨ x = 12 ∨ x = 13 ∨ x = 14 ∨ x = 15 := by omega
  rcases hc with rfl | rfl | rfl | rfl | rfl | rfl | rfl | rfl | rfl | rfl | rfl | rfl | rfl | rfl | rfl | rfl <;> simp [go_sem]

/-- The state of playOrder between two events: the tree in block n0, the lists in block n0 + 1. -/
structure PoSt (n0 : Nat) (w : World) (T : Tr) (W : Nat → List Nat) (V : Nat → Value) (wr : World) : Prop where
  tr : TrAt wr n0 T
  wa : WAt wr (n0 + 1) W V
  nx : Below n0 w wr

theorem PoSt.below {n0 : Nat} {w : World} {T : Tr} {W : Nat → List Nat} {V : Nat → Value} {wr wr' : World} (h : PoSt n0 w T W V wr) (hb : Below wr.heap.size wr wr') : PoSt n0 w T W V wr' :=
  ⟨h.tr.below hb, h.wa.below hb, h.nx.trans (hb.mono (Nat.le_of_lt h.tr.lt))⟩

theorem PoSt.drew {n0 : Nat} {w : World} {T : Tr} {W : Nat → List Nat} {V : Nat → Value} {wr : World} (h : PoSt n0 w T W V wr) : PoSt n0 w T W V wr.drew :=
  ⟨h.tr.drew, h.wa.drew, below_drewN h.nx 1⟩

theorem PoSt.push {n0 : Nat} {w : World} {T : Tr} {W : Nat → List Nat} {V : Nat → Value} {wr w' : World} (h : PoSt n0 w T W V wr) (x : Nat) (hx : x ≤ 15) (L : List Nat) (v' : Value) (hown : w'.ownsRow (n0 + 1 + 1) 3 1 v' (W x ++ L).length (intC (W x ++ L))) (happ : AppPost0 wr w' (V x) v' L.length) :
    PoSt n0 w T (upd W x (W x ++ L)) (upd V x v') (w'.setCell ⟨n0 + 1, x, none⟩ v') := by
  have hle : n0 ≤ wr.heap.size := Nat.le_of_lt h.tr.lt
  refine ⟨h.tr.of_heap ?_ (by have := happ.size; simpa using this), h.wa.push x hx L v' hown happ, h.nx.trans ((happ.below (fun g hg => by have := (h.wa.own_lt x hx g hg).1; omega) hle).setCell (p := ⟨n0 + 1, x, none⟩) (by simp) _)⟩
  rw [Below.heap_setCell _ ⟨n0 + 1, x, none⟩ _ _ (by simp)]
  exact happ.block n0 h.tr.lt (fun e => by have := (h.wa.own_lt x hx n0 e).1; omega)

/-- A block that none of them is. -/
theorem PoSt.push_block {n0 : Nat} {w : World} {T : Tr} {W : Nat → List Nat} {V : Nat → Value} {wr w' : World} (h : PoSt n0 w T W V wr) (x : Nat) (hx : x ≤ 15) (v' : Value) (m : Nat) {W1 : World} (happ : AppPost0 W1 w' (V x) v' m) (k : Nat) (hk : wr.heap.size ≤ k) (hk1 : k < W1.heap.size) :
    (w'.setCell ⟨n0 + 1, x, none⟩ v').heap[k]? = W1.heap[k]? := by
  have hlt := h.wa.lt
  rw [Below.heap_setCell _ ⟨n0 + 1, x, none⟩ _ _ (show k ≠ n0 + 1 by omega)]
  exact happ.block k hk1 (fun e => by have := (h.wa.own_lt x hx k e).2; omega)

end Go.Proofs.YtfdalbmopaemgabGreatDoor

namespace Go.Proofs.YtfdalbmopaemgabGreatDoor
open Go.RowKit

set_option maxHeartbeats 1000000 in
theorem parent_any (b m : Nat) (T : Tr) (w : World) (h : TrAt w b T) (h15 : m ≤ 15) :
    Calls Tryz.prog 98 #[.pointer (some ⟨b, 0, none⟩), .int .u8 (m : Int)] w fun r w' => r = .returned (.int .u8 (T.par m)) ∧ w' = w := by
  have g := h.par m h15
  have h15' : ¬ (15 : Int) < (m : Int) := by omega
  have h16 : (m : Int) < 16 := by omega
  clear h
  go_enter Tryz.func98, Tryz.ntmps98
  go_wp2_with fail
  go_ret
  exact ⟨rfl, rfl⟩

theorem Tryz.infoInt : (Tryz.prog.info? 3).map (fun i => (i.zero, i.size, i.bytes)) = some (some (.int .i64 0), 1, 8) := by kernel_rfl

def PoLoop (w : World) (es : List Ev) (k : Nat) (wr : World) : Prop :=
  ∃ T W V, PoSt w.heap.size w T W V wr ∧ GI es k T W ∧ gatherG tr0 (fun _ => []) 0 es = gatherG T W k (es.drop k)

def PoPost (w : World) (es : List Ev) (r : Ending) (w' : World) : Prop :=
  ∃ v, r = .returned v ∧ w'.ownsRow w.heap.size 3 1 v (orderL es).length (intC (orderL es)) ∧ Below w.heap.size w w'

theorem po_start (w : World) (Tt Tw : TypeId) (es : List Ev) : PoLoop w es 0 ((w.alloc (.cells #[.int .u8 0, .int .u8 0, .int .u8 0, .int .u8 0, .int .u8 0, .int .u8 0, .int .u8 0, .int .u8 0, .int .u8 0, .int .u8 0, .int .u8 0, .int .u8 0, .int .u8 0, .int .u8 0, .int .u8 0, .int .u8 0, .int .u8 0, .bool false, .bool false, .bool false, .bool false, .bool false, .bool false, .bool false, .bool false, .bool false, .bool false, .bool false, .bool false, .bool false, .bool false, .bool false, .bool false] Tt)).alloc (.cells #[.slice none 0 0, .slice none 0 0, .slice none 0 0, .slice none 0 0, .slice none 0 0, .slice none 0 0, .slice none 0 0, .slice none 0 0, .slice none 0 0, .slice none 0 0, .slice none 0 0, .slice none 0 0, .slice none 0 0, .slice none 0 0, .slice none 0 0, .slice none 0 0] Tw)) := by
  refine ⟨tr0, fun _ => [], fun _ => .slice none 0 0, ⟨(tr_new w Tt).below ((Below.refl _ _).alloc (Nat.le_refl _) _), ?_, ((Below.refl _ _).alloc (Nat.le_refl _) _).alloc (by simp) _⟩, GI.start es, rfl⟩
  have := wat_new (w.alloc (.cells #[.int .u8 0, .int .u8 0, .int .u8 0, .int .u8 0, .int .u8 0, .int .u8 0, .int .u8 0, .int .u8 0, .int .u8 0, .int .u8 0, .int .u8 0, .int .u8 0, .int .u8 0, .int .u8 0, .int .u8 0, .int .u8 0, .int .u8 0, .bool false, .bool false, .bool false, .bool false, .bool false, .bool false, .bool false, .bool false, .bool false, .bool false, .bool false, .bool false, .bool false, .bool false, .bool false, .bool false] Tt)) Tw
  rwa [World.size_alloc] at this

theorem evcells_of {w w' : World} {b : Nat} {e : Ev} {T : TypeId} (h : w'.heap[b]? = (w.alloc (.cells #[.int .u8 e.k, .int .u8 e.t, .int .u8 e.a, .int .i32 e.v, .int .i32 e.s] T)).heap[b]?) (hb : b = w.heap.size) : EvAt w' b 0 e := by
  subst hb
  refine ⟨?_, ?_, ?_, ?_, ?_⟩ <;> rw [World.cell?_of_block (a := ⟨w.heap.size, _, none⟩) h] <;> simp [go_sem]

end Go.Proofs.YtfdalbmopaemgabGreatDoor
