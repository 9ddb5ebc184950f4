import Derived.Test.YtfdalbmopaemgaaL4
namespace Go.Proofs.Ytfdalbmopaemgaa
open Go.RowKit

/-- A step of a script: its seven parts. -/
structure OpD where
  k : Int
  n : Int
  t : Int
  x : Int
  v : Int
  hv : Value
  s : ByteArray

abbrev opV (o : OpD) : Value := .agg #[.int .i64 o.k, .int .i64 o.n, .int .u8 o.t, .int .u8 o.x, .int .i32 o.v, o.hv, .string o.s]
/-- What is known of a step: its list of events, and that nothing in it is too great. -/
structure OpOk (w : World) (B : Nat) (o : OpD) (es : List Ev) : Prop where
  sl : SlEv w o.hv es
  ok : ∀ e ∈ es, e.Ok
  len : es.length ≤ 1048576
  str : o.s.size ≤ 1048576
  lt : es ≠ [] → ∀ g, o.hv.ownBlock = some g → g < B
  k0 : -9223372036854775808 ≤ o.k
  k1 : o.k ≤ 9223372036854775807
  cap : ∀ a n c, o.hv = .slice a n c → n ≤ c

theorem OpOk.stay {w w' : World} {B : Nat} {o : OpD} {es : List Ev} (h : OpOk w B o es) (hb : Below B w w') : OpOk w' B o es := by
  refine ⟨?_, h.ok, h.len, h.str, h.lt, h.k0, h.k1, h.cap⟩
  by_cases he : es = []
  · subst he
    rcases h.sl with h1 | ⟨b, off, c, h1, _, _⟩
    · exact Or.inl h1
    · exact Or.inl ⟨rfl, _, c, h1⟩
  · exact h.sl.of_heap hb.size fun g hg _ => hb.block g (h.lt he g hg)

theorem slice_form {w : World} {v : Value} {es : List Ev} (h : SlEv w v es) : ∃ a c, v = .slice a es.length c := by
  rcases h with ⟨rfl, a, c, rfl⟩ | ⟨b, off, c, rfl, _, _⟩
  · exact ⟨a, c, rfl⟩
  · exact ⟨_, c, rfl⟩

theorem bcell7 {W w1 : World} {b : Nat} {B : Nat} {c0 c1 c2 c3 c4 c5 c6 : Value} {T : TypeId} (hb : Below B (W.alloc (.cells #[c0, c1, c2, c3, c4, c5, c6] T)) w1) (hB : W.heap.size < B) (e : b = W.heap.size) : w1.cell? ⟨b, 0, none⟩ = some c0 ∧ w1.cell? ⟨b, 5, none⟩ = some c5 ∧ w1.cell? ⟨b, 6, none⟩ = some c6 := by
  subst e
  refine ⟨?_, ?_, ?_⟩ <;> rw [bcells hb _ _ hB] <;> simp [go_sem]

end Go.Proofs.Ytfdalbmopaemgaa
