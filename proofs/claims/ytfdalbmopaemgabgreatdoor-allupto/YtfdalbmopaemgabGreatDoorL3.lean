import Derived.Test.YtfdalbmopaemgabGreatDoorL2
namespace Go.Proofs.YtfdalbmopaemgabGreatDoor
open Go.RowKit

/-! ### append: in place, or into a new row with all else as it was -/
def AppPost (w w' : World) (v v' : Value) : Prop :=
  (∃ g, v.ownBlock = some g ∧ v'.ownBlock = some g ∧ w.grownBy w' (some g)) ∨ (∃ g, v'.ownBlock = some g ∧ w.heap.size ≤ g ∧ w.grownBy w' none)

theorem ownsRow_mono {w : World} {b b' : Nat} {e : TypeId} {size : Nat} {v : Value} {n : Nat} {xs : List Value} (h : w.ownsRow b e size v n xs) (hb : b' ≤ b) : w.ownsRow b' e size v n xs := by
  refine ⟨h.1, ?_⟩
  rcases h.2 with h2 | ⟨g, cap, cur, h1, h2, h3⟩
  · exact Or.inl h2
  · exact Or.inr ⟨g, cap, cur, h1, Nat.le_trans hb h2, h3⟩

theorem ownsRow_block {w : World} {b : Nat} {e : TypeId} {size : Nat} {v : Value} {n : Nat} {xs : List Value} (h : w.ownsRow b e size v n xs) (hn : 0 < n) : ∃ g, v.ownBlock = some g ∧ b ≤ g := by
  rcases h.2 with ⟨_, h2⟩ | ⟨g, cap, cur, h1, h2, h3⟩
  · omega
  · exact ⟨g, by rw [h1]; rfl, h2⟩

theorem wpList_append_two {P : Program} (w : World) {ops : Array Oper} {rest : List Oper} {o : Oper} {a : Act} {Q : Exit → Act → World → Prop} (hgd : o.guard = none) (s x : Operand) (t : TypeId)
    (ho : o.op = .call { callee := .builtin .append, args := #[s, x], argTypes := #[t, t] })
    (base : Nat) (e : TypeId) (i : TypeInfo) (z : Value) (size bytes : Nat) (ht : P.underlying t = some (.slice e)) (hi : P.info? e = some i) (hz : i.zero = some z)
    (hsize : i.size = size) (hby : i.bytes = bytes) (hzs : z.cells.size = size) (hsz : 0 < size)
    (v : Value) (n : Nat) (xs : List Value) (hs : a.eval s = v) (hown : w.ownsRow base e size v n xs)
    (ad : Addr) (m c : Nat) (news : List Value) (hx : a.eval x = .slice (some ad) m c) (hl : news.length = m * size) (hnews : ∀ j u, news[j]? = some u → w.cell? (ad.add j) = some u) (h1 : ∀ u ∈ news, u.oneCell' = true)
    (hm : 0 < m) (h63 : n + m ≤ maxLen) (hbytes : (n + m) * bytes ≤ 140737488355328) (hbase : base ≤ w.heap.size)
    (h : ∀ v' w', w'.ownsRow base e size v' (n + m) (xs ++ news) → AppPost w w' v v' → wpList P ops Q rest (a.put o.dst v') w') : wpList P ops Q (o :: rest) a w := by
  rcases hown.2 with ⟨rfl, rfl⟩ | ⟨g, cap, cur, rfl, hb, hg, hnc, hcm, hcs, htake⟩
  · have hx0 : xs = [] := List.eq_nil_of_length_eq_zero (by simpa using hown.1)
    subst hx0
    refine wpList_append_grows w hgd s x t ho e i z size bytes ht hi hz hsize hby hzs hsz none 0 0 [] hs (fun _ => ⟨rfl, rfl⟩) (by simp) (fun b hb => by cases hb) ad m c news hx hl hnews h1 (by omega) h63 hbytes ?_
    intro v' w' ho' hg'
    obtain ⟨g, hg1, hg2⟩ := ownsRow_block ho' (by omega)
    exact h v' w' (ownsRow_mono ho' hbase) (Or.inr ⟨g, hg1, hg2, hg'⟩)
  · by_cases hroom : n + m ≤ cap
    · refine wpList_append_fits w hgd s x t ho base e i size ht hi hsize g n cap xs hs hown ad m c news hx hl hnews h1 hroom ?_
      intro w' ho' hg'
      exact h _ w' ho' (Or.inl ⟨g, rfl, rfl, hg'⟩)
    · refine wpList_append_grows w hgd s x t ho e i z size bytes ht hi hz hsize hby hzs hsz (some ⟨g, 0, none⟩) n cap xs hs (fun h => by cases h) hown.1 (fun b hb => by cases hb; exact hown.cells (g := g) rfl) ad m c news hx hl hnews h1 (by omega) h63 hbytes ?_
      intro v' w' ho' hg'
      obtain ⟨g', hg1, hg2⟩ := ownsRow_block ho' (by omega)
      exact h v' w' (ownsRow_mono ho' hbase) (Or.inr ⟨g', hg1, hg2, hg'⟩)

/-! ### What the script's world holds -/
def holdCells : List (Value × Int) → List Value
  | [] => []
  | x :: l => x.1 :: .int .i32 x.2 :: holdCells l

theorem holdCells_append (l m : List (Value × Int)) : holdCells (l ++ m) = holdCells l ++ holdCells m := by
  induction l with
  | nil => rfl
  | cons e l ih => simp [holdCells, ih]

theorem holdCells_length (l : List (Value × Int)) : (holdCells l).length = l.length * 2 := by
  induction l with
  | nil => rfl
  | cons e l ih => simp [holdCells, ih]; omega

theorem holdCells_at (l : List (Value × Int)) (i : Nat) (h : i < l.length) : (holdCells l)[i * 2]? = some l[i].1 ∧ (holdCells l)[i * 2 + 1]? = some (.int .i32 l[i].2) := by
  induction l generalizing i with
  | nil => simp at h
  | cons e l ih =>
    cases i with
    | zero => simp [holdCells]
    | succ i =>
      have := ih i (by simpa using h)
      simp only [holdCells, List.getElem_cons_succ]
      rw [show (i + 1) * 2 = i * 2 + 2 by omega, show i * 2 + 2 + 1 = (i * 2 + 1) + 2 by omega]
      simpa using this

structure HoldOk (w : World) (B wb : Nat) (hv : Value) (x : Value × Int) : Prop where
  marks : ∃ n, n ≤ 4194304 ∧ SlEv w x.1 (List.replicate n (mkEv x.2))
  lt : ∀ g, x.1.ownBlock = some g → B ≤ g ∧ g < w.heap.size
  far : x.1.ownBlock ≠ some wb
  apart : ∀ g, x.1.ownBlock = some g → hv.ownBlock ≠ some g
  m0 : 0 ≤ x.2
  m1 : x.2 ≤ 1073741824

structure Inv (w : World) (B wb : Nat) (hv : Value) (hs : List (Value × Int)) : Prop where
  cell : w.cell? ⟨wb, 1, none⟩ = some hv
  froz : w.frozen? ⟨wb, 1, none⟩ = false
  row : w.ownsRow B 43 2 hv hs.length (holdCells hs)
  far : hv.ownBlock ≠ some wb
  base : B ≤ wb
  each : ∀ x ∈ hs, HoldOk w B wb hv x

theorem Inv.wb_lt {w : World} {B wb : Nat} {hv : Value} {hs : List (Value × Int)} (h : Inv w B wb hv hs) : wb < w.heap.size := World.block_lt_of_cell? w ⟨wb, 1, none⟩ h.cell

theorem Inv.hv_lt {w : World} {B wb : Nat} {hv : Value} {hs : List (Value × Int)} (h : Inv w B wb hv hs) (g : Nat) (hg : hv.ownBlock = some g) : B ≤ g ∧ g < w.heap.size := World.ownsRow.lt h.row g hg

theorem EvAt.of_heap {w w' : World} {b o : Nat} {e : Ev} (h : EvAt w b o e) (hh : w'.heap[b]? = w.heap[b]?) : EvAt w' b o e :=
  ⟨by rw [World.cell?_of_block (a := ⟨b, _, none⟩) hh]; exact h.c0, by rw [World.cell?_of_block (a := ⟨b, _, none⟩) hh]; exact h.c1, by rw [World.cell?_of_block (a := ⟨b, _, none⟩) hh]; exact h.c2,
   by rw [World.cell?_of_block (a := ⟨b, _, none⟩) hh]; exact h.c3, by rw [World.cell?_of_block (a := ⟨b, _, none⟩) hh]; exact h.c4⟩

theorem SlEv.of_heap {w w' : World} {v : Value} {es : List Ev} (h : SlEv w v es) (hsz : w.heap.size ≤ w'.heap.size) (hh : ∀ g, v.ownBlock = some g → g < w.heap.size → w'.heap[g]? = w.heap[g]?) : SlEv w' v es := by
  rcases h with h | ⟨b, off, cap, rfl, h2, h3⟩
  · exact Or.inl h
  · exact Or.inr ⟨b, off, cap, rfl, Nat.lt_of_lt_of_le h2 hsz, fun i hi => (h3 i hi).of_heap (hh b rfl h2)⟩

theorem HoldOk.stay {w w' : World} {B wb : Nat} {hv : Value} {x : Value × Int} (h : HoldOk w B wb hv x) (hsz : w.heap.size ≤ w'.heap.size) (hh : ∀ g, x.1.ownBlock = some g → w'.heap[g]? = w.heap[g]?) : HoldOk w' B wb hv x := by
  obtain ⟨n, hnb, hn⟩ := h.marks
  exact ⟨⟨n, hnb, hn.of_heap hsz fun g hg _ => hh g hg⟩, fun g hg => ⟨(h.lt g hg).1, Nat.lt_of_lt_of_le (h.lt g hg).2 hsz⟩, h.far, h.apart, h.m0, h.m1⟩

theorem ownsRow_of_heap {w w' : World} {b : Nat} {e : TypeId} {size : Nat} {v : Value} {n : Nat} {xs : List Value} (h : w.ownsRow b e size v n xs) (hh : ∀ g, v.ownBlock = some g → w'.heap[g]? = w.heap[g]?) : w'.ownsRow b e size v n xs := by
  refine ⟨h.1, ?_⟩
  rcases h.2 with h2 | ⟨g, cap, cur, rfl, h2, h3, h4⟩
  · exact Or.inl h2
  · exact Or.inr ⟨g, cap, cur, rfl, h2, by rw [hh g rfl]; exact h3, h4⟩

/-- Nothing turns where the blocks that matter are as they were. -/
theorem Inv.stay {w w' : World} {B wb : Nat} {hv : Value} {hs : List (Value × Int)} (h : Inv w B wb hv hs) (hsz : w.heap.size ≤ w'.heap.size) (hwb : w'.heap[wb]? = w.heap[wb]?)
    (hhv : ∀ g, hv.ownBlock = some g → w'.heap[g]? = w.heap[g]?) (hx : ∀ x ∈ hs, ∀ g, x.1.ownBlock = some g → w'.heap[g]? = w.heap[g]?) : Inv w' B wb hv hs :=
  ⟨by rw [World.cell?_of_block (a := ⟨wb, 1, none⟩) hwb]; exact h.cell, by rw [World.frozen?_of_block (a := ⟨wb, 1, none⟩) hwb]; exact h.froz, ownsRow_of_heap h.row hhv, h.far, h.base, fun x hxm => (h.each x hxm).stay hsz (hx x hxm)⟩

theorem Inv.below {w w' : World} {B wb : Nat} {hv : Value} {hs : List (Value × Int)} (h : Inv w B wb hv hs) (hb : Below w.heap.size w w') : Inv w' B wb hv hs :=
  h.stay hb.size (hb.block wb h.wb_lt) (fun g hg => hb.block g (h.hv_lt g hg).2) (fun x hx g hg => hb.block g ((h.each x hx).lt g hg).2)

/-- The list that is being kept. -/
structure LInv (w : World) (B wb mb : Nat) (hv : Value) (hs : List (Value × Int)) (lv : Value) (N : Nat) (mark : Int) : Prop where
  own : Own w B lv (List.replicate N (mkEv mark))
  far : lv.ownBlock ≠ some wb
  farm : lv.ownBlock ≠ some mb
  apart : ∀ g, lv.ownBlock = some g → hv.ownBlock ≠ some g
  farh : hv.ownBlock ≠ some mb
  wbm : wb ≠ mb
  mlt : mb < w.heap.size
  mcell : EvAt w mb 0 (mkEv mark)
  same : ∀ x ∈ hs, ∀ g, x.1.ownBlock = some g → lv.ownBlock = some g → ∃ n c, x.1 = .slice (some ⟨g, 0, none⟩) n c ∧ n ≤ N ∧ x.2 = mark

theorem LInv.below {w w' : World} {B wb mb : Nat} {hv : Value} {hs : List (Value × Int)} {lv : Value} {N : Nat} {mark : Int} (h : LInv w B wb mb hv hs lv N mark) (hb : Below w.heap.size w w') : LInv w' B wb mb hv hs lv N mark :=
  ⟨h.own.below hb, h.far, h.farm, h.apart, h.farh, h.wbm, Nat.lt_of_lt_of_le h.mlt hb.size, h.mcell.of_heap (hb.block mb h.mlt), h.same⟩

theorem replicate_prefix {w : World} {g : Nat} {n N : Nat} {e : Ev} (h : EvsAt w g 0 (List.replicate N e)) (hn : n ≤ N) : EvsAt w g 0 (List.replicate n e) := by
  intro i hi
  have := h i (by simp at hi ⊢; omega)
  simpa using this

/-- Behind an append to the list. -/
theorem step_list {w w' : World} {B wb mb : Nat} {hv : Value} {hs : List (Value × Int)} {lv lv' : Value} {N : Nat} {mark : Int} (h : Inv w B wb hv hs) (l : LInv w B wb mb hv hs lv N mark) (hN : N + 1 ≤ 4194304)
    (ho : Own w' B lv' (List.replicate (N + 1) (mkEv mark))) (ha : AppPost w w' lv lv') : Inv w' B wb hv hs ∧ LInv w' B wb mb hv hs lv' (N + 1) mark := by
  rcases ha with ⟨g, e1, e2, hg⟩ | ⟨g, e2, e3, hg⟩
  · have hne : ∀ k, k < w.heap.size → k ≠ g → w'.heap[k]? = w.heap[k]? := fun k hk hkg => hg.block k hk (by intro e; cases e; exact hkg rfl)
    have hwg : wb ≠ g := fun e => l.far (by rw [e1, e])
    have hvg : ∀ k, hv.ownBlock = some k → k ≠ g := fun k hk e => l.apart g e1 (by rw [hk, e])
    refine ⟨⟨?_, ?_, ?_, h.far, h.base, fun x hx => ?_⟩, ⟨ho, ?_, ?_, ?_, l.farh, l.wbm, Nat.lt_of_lt_of_le l.mlt hg.size, ?_, ?_⟩⟩
    · rw [World.cell?_of_block (a := ⟨wb, 1, none⟩) (hne wb h.wb_lt hwg)]; exact h.cell
    · rw [World.frozen?_of_block (a := ⟨wb, 1, none⟩) (hne wb h.wb_lt hwg)]; exact h.froz
    · exact ownsRow_of_heap h.row fun k hk => hne k (h.hv_lt k hk).2 (hvg k hk)
    · have hxo := h.each x hx
      by_cases hxg : x.1.ownBlock = some g
      · obtain ⟨n, c, hxv, hn, hm⟩ := l.same x hx g hxg e1
        refine ⟨⟨n, by omega, ?_⟩, fun k hk => ⟨(hxo.lt k hk).1, Nat.lt_of_lt_of_le (hxo.lt k hk).2 hg.size⟩, hxo.far, hxo.apart, hxo.m0, hxo.m1⟩
        rw [hxv, hm]
        rcases ho.slEv with ⟨h0, _⟩ | ⟨b, off, cap, hv', hb, hev⟩
        · simp [List.replicate] at h0
        · rcases ho.2 with ⟨_, h0⟩ | ⟨g', cap', cur, hv'', _⟩
          · simp at h0
          · rw [hv'] at hv''
            simp only [Value.slice.injEq, Option.some.injEq, Addr.mk.injEq] at hv''
            obtain ⟨⟨rfl, rfl, _⟩, _, _⟩ := hv''
            have hbg : b = g := by rw [hv'] at e2; simpa [Value.ownBlock] using e2
            subst hbg
            refine Or.inr ⟨b, 0, c, by simp, hb, replicate_prefix hev (by omega)⟩
      · exact hxo.stay hg.size fun k hk => hne k (hxo.lt k hk).2 (fun e => hxg (by rw [hk, e]))
    · rw [e2, ← e1]; exact l.far
    · rw [e2, ← e1]; exact l.farm
    · intro k hk; rw [e2, ← e1] at hk; exact l.apart k hk
    · exact l.mcell.of_heap (hne mb l.mlt (fun e => l.farm (by rw [e1, e])))
    · intro x hx k hk hk'
      rw [e2, ← e1] at hk'
      obtain ⟨n, c, hxv, hn, hm⟩ := l.same x hx k hk hk'
      exact ⟨n, c, hxv, by omega, hm⟩
  · have hall : ∀ k, k < w.heap.size → w'.heap[k]? = w.heap[k]? := fun k hk => hg.block k hk (by intro e; cases e)
    have hb : Below w.heap.size w w' := ⟨hg.os, hg.tape, hg.output, hg.size, hall⟩
    refine ⟨h.below hb, ⟨ho, ?_, ?_, ?_, l.farh, l.wbm, Nat.lt_of_lt_of_le l.mlt hg.size, l.mcell.of_heap (hall mb l.mlt), ?_⟩⟩
    · rw [e2]; intro e; have := h.wb_lt; cases e; omega
    · rw [e2]; intro e; have := l.mlt; cases e; omega
    · intro k hk hk'; rw [e2] at hk; cases hk; have := (h.hv_lt g hk').2; omega
    · intro x hx k hk hk'; rw [e2] at hk'; cases hk'; have := ((h.each x hx).lt g hk).2; omega

/-- Behind an append to the holds and the store of them. -/
theorem step_holds {w w' : World} {B wb mb : Nat} {hv hv' : Value} {hs : List (Value × Int)} {lv : Value} {N : Nat} {mark : Int} (h : Inv w B wb hv hs) (l : LInv w B wb mb hv hs lv N mark) (hm0 : 0 ≤ mark) (hm1 : mark ≤ 1073741824) (hN : N ≤ 4194304)
    (ho : w'.ownsRow B 43 2 hv' (hs.length + 1) (holdCells hs ++ [lv, .int .i32 mark])) (ha : AppPost w w' hv hv') :
    Inv (w'.setCell ⟨wb, 1, none⟩ hv') B wb hv' (hs ++ [(lv, mark)]) ∧ LInv (w'.setCell ⟨wb, 1, none⟩ hv') B wb mb hv' (hs ++ [(lv, mark)]) lv N mark := by
  have hsz : w.heap.size ≤ w'.heap.size := by rcases ha with ⟨g, _, _, hg⟩ | ⟨g, _, _, hg⟩ <;> exact hg.size
  have hsz2 : (w'.setCell ⟨wb, 1, none⟩ hv').heap.size = w'.heap.size := by simp
  have hold : ∀ k, k < w.heap.size → k ≠ wb → hv.ownBlock ≠ some k → (w'.setCell ⟨wb, 1, none⟩ hv').heap[k]? = w.heap[k]? := by
    intro k hk hkw hkv
    rw [Below.heap_setCell _ ⟨wb, 1, none⟩ _ _ hkw]
    rcases ha with ⟨g, e1, _, hg⟩ | ⟨g, _, _, hg⟩
    · exact hg.block k hk (fun e => hkv (by rw [e1, e]))
    · exact hg.block k hk (by intro e; cases e)
  have hwb' : w'.heap[wb]? = w.heap[wb]? := by
    rcases ha with ⟨g, e1, _, hg⟩ | ⟨g, _, _, hg⟩
    · exact hg.block wb h.wb_lt (fun e => h.far (by rw [e1, e]))
    · exact hg.block wb h.wb_lt (by intro e; cases e)
  have hfar' : hv'.ownBlock ≠ some wb := by
    rcases ha with ⟨g, e1, e2, _⟩ | ⟨g, e2, e3, _⟩
    · rw [e2, ← e1]; exact h.far
    · rw [e2]; intro e; have := h.wb_lt; cases e; omega
  have hap' : ∀ k, k < w.heap.size → hv.ownBlock ≠ some k → hv'.ownBlock ≠ some k := by
    intro k hk hkv
    rcases ha with ⟨g, e1, e2, _⟩ | ⟨g, e2, e3, _⟩
    · rw [e2, ← e1]; exact hkv
    · rw [e2]; intro e; cases e; omega
  have hlt : ∀ g, lv.ownBlock = some g → B ≤ g ∧ g < w.heap.size := fun g hg => World.ownsRow.lt l.own g hg
  have hlown : Own (w'.setCell ⟨wb, 1, none⟩ hv') B lv (List.replicate N (mkEv mark)) := ownsRow_of_heap l.own fun g hg => hold g (hlt g hg).2 (fun e => l.far (by rw [hg, e])) (l.apart g hg)
  have hkeep : ∀ x, HoldOk w B wb hv x → HoldOk (w'.setCell ⟨wb, 1, none⟩ hv') B wb hv' x := by
    intro x hx
    have hx' := hx.stay (w' := w'.setCell ⟨wb, 1, none⟩ hv') (by rw [hsz2]; exact hsz) (fun g hg => hold g (hx.lt g hg).2 (fun e => hx.far (by rw [hg, e])) (hx.apart g hg))
    exact ⟨hx'.marks, hx'.lt, hx'.far, fun g hg => hap' g (hx.lt g hg).2 (hx.apart g hg), hx'.m0, hx'.m1⟩
  refine ⟨⟨?_, ?_, ?_, hfar', h.base, ?_⟩, ⟨hlown, l.far, l.farm, fun g hg => hap' g (hlt g hg).2 (l.apart g hg), hap' mb l.mlt l.farh, l.wbm, ?_, ?_, ?_⟩⟩
  · refine World.cell?_setCell_same _ _ _ (u := hv) ?_
    rw [World.cell?_of_block (a := ⟨wb, 1, none⟩) hwb']
    exact h.cell
  · rw [World.frozen?_setCell, World.frozen?_of_block (a := ⟨wb, 1, none⟩) hwb']; exact h.froz
  · rw [holdCells_append, List.length_append]
    exact ownsRow_of_heap ho fun g hg => Below.heap_setCell _ ⟨wb, 1, none⟩ _ _ (fun e => hfar' (by rw [hg, e]))
  · intro x hx
    rw [List.mem_append, List.mem_singleton] at hx
    rcases hx with hx | rfl
    · exact hkeep x (h.each x hx)
    · exact ⟨⟨N, hN, hlown.slEv⟩, fun g hg => ⟨(hlt g hg).1, by rw [hsz2]; exact Nat.lt_of_lt_of_le (hlt g hg).2 hsz⟩, l.far, fun g hg => hap' g (hlt g hg).2 (l.apart g hg), hm0, hm1⟩
  · rw [hsz2]; exact Nat.lt_of_lt_of_le l.mlt hsz
  · exact l.mcell.of_heap (hold mb l.mlt (Ne.symm l.wbm) l.farh)
  · intro x hx g hg hg'
    rw [List.mem_append, List.mem_singleton] at hx
    rcases hx with hx | rfl
    · exact l.same x hx g hg hg'
    · rcases l.own.2 with ⟨h0, _⟩ | ⟨g', cap, cur, h0, _⟩
      · rw [h0] at hg; simp [Value.ownBlock] at hg
      · rw [h0] at hg
        simp [Value.ownBlock] at hg
        subst hg
        exact ⟨_, cap, by simpa using h0, by simp, rfl⟩

end Go.Proofs.YtfdalbmopaemgabGreatDoor
