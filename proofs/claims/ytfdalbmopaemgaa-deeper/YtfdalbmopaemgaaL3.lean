import Derived.Test.YtfdalbmopaemgaaL2
namespace Go.Proofs.Ytfdalbmopaemgaa
open Go.RowKit

/-! ### append: in place, or into a new row with all else as it was -/
def AppPost (w w' : World) (v v' : Value) : Prop :=
  (∃ g, v.ownBlock = some g ∧ v'.ownBlock = some g ∧ w.grownBy w' (some g)) ∨ (∃ g, v'.ownBlock = some g ∧ w.heap.size ≤ g ∧ w.grownBy w' none)

theorem ownsRow_mono {w : World} {b b' : Nat} {e : TypeId} {size : Nat} {v : Value} {n : Nat} {xs : List Value} (h : w.ownsRow b e size v n xs) (hb : b' ≤ b) : w.ownsRow b' e size v n xs := by
  refine ⟨h.1, ?_⟩
  rcases h.2 with h2 | ⟨g, cap, cur, h1, h2, h3⟩
  · exact Or.inl h2
  · exact Or.inr ⟨g, cap, cur, h1, Nat.le_trans hb h2, h3⟩

theorem ownsRow_block {w : World} {b : Nat} {e : TypeId} {size : Nat} {v : Value} {n : Nat} {xs : List Value} (h : w.ownsRow b e size v n xs) (hn : 0 < n) : ∃ g, v.ownBlock = some g ∧ b ≤ g := by
  rcases h.2 with ⟨_, h2⟩ | ⟨g, cap, cur, h1, h2, h3⟩
  · omega
  · exact ⟨g, by rw [h1]; rfl, h2⟩

theorem wpList_append_two {P : Program} (w : World) {ops : Array Oper} {rest : List Oper} {o : Oper} {a : Act} {Q : Exit → Act → World → Prop} (hgd : o.guard = none) (s x : Operand) (t : TypeId)
    (ho : o.op = .call { callee := .builtin .append, args := #[s, x], argTypes := #[t, t] })
    (base : Nat) (e : TypeId) (i : TypeInfo) (z : Value) (size bytes : Nat) (ht : P.underlying t = some (.slice e)) (hi : P.info? e = some i) (hz : i.zero = some z)
    (hsize : i.size = size) (hby : i.bytes = bytes) (hzs : z.cells.size = size) (hsz : 0 < size)
    (v : Value) (n : Nat) (xs : List Value) (hs : a.eval s = v) (hown : w.ownsRow base e size v n xs)
    (ad : Addr) (m c : Nat) (news : List Value) (hx : a.eval x = .slice (some ad) m c) (hl : news.length = m * size) (hnews : ∀ j u, news[j]? = some u → w.cell? (ad.add j) = some u) (h1 : ∀ u ∈ news, u.oneCell' = true)
    (hm : 0 < m) (h63 : n + m ≤ maxLen) (hbytes : (n + m) * bytes ≤ 140737488355328) (hbase : base ≤ w.heap.size)
    (h : ∀ v' w', w'.ownsRow base e size v' (n + m) (xs ++ news) → AppPost w w' v v' → wpList P ops Q rest (a.put o.dst v') w') : wpList P ops Q (o :: rest) a w := by
  rcases hown.2 with ⟨rfl, rfl⟩ | ⟨g, cap, cur, rfl, hb, hg, hnc, hcm, hcs, htake⟩
  · have hx0 : xs = [] := List.eq_nil_of_length_eq_zero (by simpa using hown.1)
    subst hx0
    refine wpList_append_grows w hgd s x t ho e i z size bytes ht hi hz hsize hby hzs hsz none 0 0 [] hs (fun _ => ⟨rfl, rfl⟩) (by simp) (fun b hb => by cases hb) ad m c news hx hl hnews h1 (by omega) h63 hbytes ?_
    intro v' w' ho' hg'
    obtain ⟨g, hg1, hg2⟩ := ownsRow_block ho' (by omega)
    exact h v' w' (ownsRow_mono ho' hbase) (Or.inr ⟨g, hg1, hg2, hg'⟩)
  · by_cases hroom : n + m ≤ cap
    · refine wpList_append_fits w hgd s x t ho base e i size ht hi hsize g n cap xs hs hown ad m c news hx hl hnews h1 hroom ?_
      intro w' ho' hg'
      exact h _ w' ho' (Or.inl ⟨g, rfl, rfl, hg'⟩)
    · refine wpList_append_grows w hgd s x t ho e i z size bytes ht hi hz hsize hby hzs hsz (some ⟨g, 0, none⟩) n cap xs hs (fun h => by cases h) hown.1 (fun b hb => by cases hb; exact hown.cells (g := g) rfl) ad m c news hx hl hnews h1 (by omega) h63 hbytes ?_
      intro v' w' ho' hg'
      obtain ⟨g', hg1, hg2⟩ := ownsRow_block ho' (by omega)
      exact h v' w' (ownsRow_mono ho' hbase) (Or.inr ⟨g', hg1, hg2, hg'⟩)

/-! ### What the script's world holds -/
def holdCells : List (Value × Int) → List Value
  | [] => []
  | x :: l => x.1 :: .int .i32 x.2 :: holdCells l

theorem holdCells_append (l m : List (Value × Int)) : holdCells (l ++ m) = holdCells l ++ holdCells m := by
  induction l with
  | nil => rfl
  | cons e l ih => simp [holdCells, ih]

theorem holdCells_length (l : List (Value × Int)) : (holdCells l).length = l.length * 2 := by
  induction l with
  | nil => rfl
  | cons e l ih => simp [holdCells, ih]; omega

theorem holdCells_at (l : List (Value × Int)) (i : Nat) (h : i < l.length) : (holdCells l)[i * 2]? = some l[i].1 ∧ (holdCells l)[i * 2 + 1]? = some (.int .i32 l[i].2) := by
  induction l generalizing i with
  | nil => simp at h
  | cons e l ih =>
    cases i with
    | zero => simp [holdCells]
    | succ i =>
      have := ih i (by simpa using h)
      simp only [holdCells, List.getElem_cons_succ]
      rw [show (i + 1) * 2 = i * 2 + 2 by omega, show i * 2 + 2 + 1 = (i * 2 + 1) + 2 by omega]
      simpa using this

structure HoldOk (w : World) (B wb : Nat) (hv : Value) (x : Value × Int) : Prop where
  marks : ∃ n, n ≤ 4194304 ∧ SlEv w x.1 (List.replicate n (mkEv x.2))
  lt : ∀ g, x.1.ownBlock = some g → B ≤ g ∧ g < w.heap.size
  far : x.1.ownBlock ≠ some wb
  apart : ∀ g, x.1.ownBlock = some g → hv.ownBlock ≠ some g
  m0 : 0 ≤ x.2
  m1 : x.2 ≤ 1073741824

theorem EvAt.of_heap {w w' : World} {b o : Nat} {e : Ev} (h : EvAt w b o e) (hh : w'.heap[b]? = w.heap[b]?) : EvAt w' b o e :=
  ⟨by rw [World.cell?_of_block (a := ⟨b, _, none⟩) hh]; exact h.c0, by rw [World.cell?_of_block (a := ⟨b, _, none⟩) hh]; exact h.c1, by rw [World.cell?_of_block (a := ⟨b, _, none⟩) hh]; exact h.c2,
   by rw [World.cell?_of_block (a := ⟨b, _, none⟩) hh]; exact h.c3, by rw [World.cell?_of_block (a := ⟨b, _, none⟩) hh]; exact h.c4⟩

theorem SlEv.of_heap {w w' : World} {v : Value} {es : List Ev} (h : SlEv w v es) (hsz : w.heap.size ≤ w'.heap.size) (hh : ∀ g, v.ownBlock = some g → g < w.heap.size → w'.heap[g]? = w.heap[g]?) : SlEv w' v es := by
  rcases h with h | ⟨b, off, cap, rfl, h2, h3⟩
  · exact Or.inl h
  · exact Or.inr ⟨b, off, cap, rfl, Nat.lt_of_lt_of_le h2 hsz, fun i hi => (h3 i hi).of_heap (hh b rfl h2)⟩

theorem HoldOk.stay {w w' : World} {B wb : Nat} {hv : Value} {x : Value × Int} (h : HoldOk w B wb hv x) (hsz : w.heap.size ≤ w'.heap.size) (hh : ∀ g, x.1.ownBlock = some g → w'.heap[g]? = w.heap[g]?) : HoldOk w' B wb hv x := by
  obtain ⟨n, hnb, hn⟩ := h.marks
  exact ⟨⟨n, hnb, hn.of_heap hsz fun g hg _ => hh g hg⟩, fun g hg => ⟨(h.lt g hg).1, Nat.lt_of_lt_of_le (h.lt g hg).2 hsz⟩, h.far, h.apart, h.m0, h.m1⟩

theorem ownsRow_of_heap {w w' : World} {b : Nat} {e : TypeId} {size : Nat} {v : Value} {n : Nat} {xs : List Value} (h : w.ownsRow b e size v n xs) (hh : ∀ g, v.ownBlock = some g → w'.heap[g]? = w.heap[g]?) : w'.ownsRow b e size v n xs := by
  refine ⟨h.1, ?_⟩
  rcases h.2 with h2 | ⟨g, cap, cur, rfl, h2, h3, h4⟩
  · exact Or.inl h2
  · exact Or.inr ⟨g, cap, cur, rfl, h2, by rw [hh g rfl]; exact h3, h4⟩

/-- The list that is being kept. -/
structure LInv (w : World) (B wb mb : Nat) (hv : Value) (hs : List (Value × Int)) (lv : Value) (N : Nat) (mark : Int) : Prop where
  own : Own w B lv (List.replicate N (mkEv mark))
  far : lv.ownBlock ≠ some wb
  farm : lv.ownBlock ≠ some mb
  apart : ∀ g, lv.ownBlock = some g → hv.ownBlock ≠ some g
  farh : hv.ownBlock ≠ some mb
  wbm : wb ≠ mb
  mlt : mb < w.heap.size
  mcell : EvAt w mb 0 (mkEv mark)
  same : ∀ x ∈ hs, ∀ g, x.1.ownBlock = some g → lv.ownBlock = some g → ∃ n c, x.1 = .slice (some ⟨g, 0, none⟩) n c ∧ n ≤ N ∧ x.2 = mark

theorem LInv.below {w w' : World} {B wb mb : Nat} {hv : Value} {hs : List (Value × Int)} {lv : Value} {N : Nat} {mark : Int} (h : LInv w B wb mb hv hs lv N mark) (hb : Below w.heap.size w w') : LInv w' B wb mb hv hs lv N mark :=
  ⟨h.own.below hb, h.far, h.farm, h.apart, h.farh, h.wbm, Nat.lt_of_lt_of_le h.mlt hb.size, h.mcell.of_heap (hb.block mb h.mlt), h.same⟩

theorem replicate_prefix {w : World} {g : Nat} {n N : Nat} {e : Ev} (h : EvsAt w g 0 (List.replicate N e)) (hn : n ≤ N) : EvsAt w g 0 (List.replicate n e) := by
  intro i hi
  have := h i (by simp at hi ⊢; omega)
  simpa using this

end Go.Proofs.Ytfdalbmopaemgaa
