import Derived.Test.YtfdalbmopaemgabZS4
import Derived.Test.YtfdalbmopaemgabZG5
import Derived.Test.YtfdalbmopaemgabZG4
namespace Go.Proofs.Ytfdalbmopaemgab
open Go.RowKit

def valsK (es : List Ev) (k : Nat) : Nat → Int := fun i => if i < k then isL es 0 (i : Int) else 0

theorem valsK_succ (es : List Ev) (k : Nat) : upd (valsK es k) k (isL es 0 (k : Int)) = valsK es (k + 1) := by
  funext i
  unfold upd valsK
  by_cases e : i = k
  · subst e; rw [if_pos rfl, if_pos (by omega)]
  · rw [if_neg e]
    by_cases h : i < k
    · rw [if_pos h, if_pos (by omega)]
    · rw [if_neg h, if_neg (by omega)]

end Go.Proofs.Ytfdalbmopaemgab

namespace Go.Proofs.Ytfdalbmopaemgab
open Go.RowKit

/-! ### A history is written down -/
theorem wpList_append_any {P : Program} (w : World) {ops : Array Oper} {rest : List Oper} {o : Oper} {a : Act} {Q : Exit → Act → World → Prop} (hgd : o.guard = none) (s x : Operand) (t : TypeId)
    (ho : o.op = .call { callee := .builtin .append, args := #[s, x], argTypes := #[t, t] })
    (base : Nat) (e : TypeId) (i : TypeInfo) (z : Value) (size bytes : Nat) (ht : P.underlying t = some (.slice e)) (hi : P.info? e = some i) (hz : i.zero = some z)
    (hsize : i.size = size) (hby : i.bytes = bytes) (hzs : z.cells.size = size) (hsz : 0 < size)
    (v : Value) (n : Nat) (xs : List Value) (hs : a.eval s = v) (hown : w.ownsRow base e size v n xs)
    (ao : Option Addr) (m c : Nat) (news : List Value) (hx : a.eval x = .slice ao m c) (hnil : m = 0 → ao = none ∧ c = 0) (hsome : ao = none → m = 0) (hl : news.length = m * size)
    (hnews : ∀ ad, ao = some ad → ∀ j u, news[j]? = some u → w.cell? (ad.add j) = some u) (h1 : ∀ u ∈ news, u.oneCell' = true)
    (h63 : n + m ≤ maxLen) (hbytes : (n + m) * bytes ≤ 140737488355328) (hbase : base ≤ w.heap.size)
    (h : ∀ v' w', w'.ownsRow base e size v' (n + m) (xs ++ news) → AppPost0 w w' v v' m → wpList P ops Q rest (a.put o.dst v') w') : wpList P ops Q (o :: rest) a w := by
  refine wpList_plain hgd fun K hK' => ?_
  obtain ⟨v', w', hrun, r1, r2⟩ := run_append_two (P := P) w t o.type base e i z size bytes ht hi hz hsize hby hzs hsz v n xs hown ao m c news hnil hsome hl hnews h1 h63 hbytes hbase
  unfold Oper.wp
  simp [execOp, ho, resolve, invoke, builtin, hs, hx, hrun, Result.andThen]
  exact hK' _ _ (h v' w' r1 r2)

def Hist (w : World) (B : Nat) (v : Value) (es : List Ev) : Prop := Own w B v es ∧ (es = [] → v = .slice none 0 0)

theorem own_cells5 {w : World} {B : Nat} {e : TypeId} {va : Option Addr} {n c : Nat} {xs : List Value} (h : w.ownsRow B e 5 (.slice va n c) n xs) : ∀ ad, va = some ad → ∀ j u, xs[j]? = some u → w.cell? (ad.add j) = some u := by
  intro ad had j u hu
  subst had
  rcases h.2 with ⟨h1, _⟩ | ⟨g, cap, cur, h1, _⟩
  · cases h1
  · simp only [Value.slice.injEq, Option.some.injEq] at h1
    obtain ⟨rfl, _, rfl⟩ := h1
    exact h.cells (g := g) rfl j u hu

theorem own_none5 {w : World} {B : Nat} {e : TypeId} {va : Option Addr} {n c : Nat} {xs : List Value} (h : w.ownsRow B e 5 (.slice va n c) n xs) : va = none → n = 0 := by
  intro hva
  subst hva
  rcases h.2 with ⟨h1, h2⟩ | ⟨g, cap, cur, h1, _⟩
  · exact h2
  · cases h1

def AddPost (w : World) (v : Value) (es : List Ev) (e : Ev) (r : Ending) (w' : World) : Prop :=
  Below w.heap.size w w' ∧ ((60 ≤ es.length ∧ r = .returned (.tuple #[v, .int .i64 10])) ∨ (es.length < 60 ∧ ∃ a c, r = .returned (.tuple #[.slice a (es.length + 1) c, .int .i64 0]) ∧ Hist w' w.heap.size (.slice a (es.length + 1) c) (es ++ [e])))

theorem Try.infoEv6 : (Try.prog.info? 71).map (fun i => (i.zero, i.size, i.bytes)) = some (some (.agg #[.int .u8 0, .int .u8 0, .int .u8 0, .int .i32 0, .int .i32 0]), 5, 12) := by kernel_rfl

theorem own_snoc6 {w : World} {B : Nat} {v : Value} {es : List Ev} {e : Ev} (h : w.ownsRow B 71 5 v (es.length + 1) (evCells es ++ evC e)) : Own w B v (es ++ [e]) := by
  unfold Own
  rw [evCells_append, List.length_append]
  simpa [evCells] using h

end Go.Proofs.Ytfdalbmopaemgab

namespace Go.Proofs.Ytfdalbmopaemgab
open Go.RowKit

/-! ### Begin, Commit, Abort, by the document: the events behind the call, the number, the error -/
def beginR (es : List Ev) (up : Int) : List Ev × Int × Int :=
  if up ≠ 0 ∧ openL es up = false then (es, 0, 5)
  else if 15 ≤ countL es then (es, 0, 10)
  else if 60 ≤ es.length then (es, 0, 10)
  else (es ++ [⟨1, (countL es : Int) + 1, up, 0, 0⟩], (countL es : Int) + 1, 0)

def endR (es : List Ev) (k t : Int) : List Ev × Int :=
  if openL es t = false then (es, 4)
  else if k = 5 ∧ childL es t = true then (es, 8)
  else if 60 ≤ es.length then (es, 10)
  else (es ++ [⟨k, t, 0, 0, 0⟩], 0)

/-- What comes out is the old list, or a new row. -/
def HistOut (w w' : World) (v v' : Value) (es es' : List Ev) : Prop := (v' = v ∧ es' = es) ∨ (Hist w' w.heap.size v' es')

def BeginPost (w : World) (v : Value) (es : List Ev) (up : Int) (r : Ending) (w' : World) : Prop :=
  Below w.heap.size w w' ∧ ∃ v', r = .returned (.tuple #[v', .int .u8 (beginR es up).2.1, .int .i64 (beginR es up).2.2]) ∧ HistOut w w' v v' es (beginR es up).1

def EndPost (w : World) (v : Value) (es : List Ev) (k t : Int) (r : Ending) (w' : World) : Prop :=
  Below w.heap.size w w' ∧ ∃ v', r = .returned (.tuple #[v', .int .i64 (endR es k t).2]) ∧ HistOut w w' v v' es (endR es k t).1

theorem Hist.slEv {w : World} {B : Nat} {v : Value} {es : List Ev} (h : Hist w B v es) : SlEv w v es := h.1.slEv
theorem Hist.below {w w' : World} {B : Nat} {v : Value} {es : List Ev} (h : Hist w B v es) (hb : Below w.heap.size w w') : Hist w' B v es := ⟨h.1.below hb, h.2⟩

end Go.Proofs.Ytfdalbmopaemgab

namespace Go.Proofs.Ytfdalbmopaemgab
open Go.RowKit

/-! ### Read, Write, Add, by the document -/
def othersL (es : List Ev) (k x : Int) : Nat := if k = 2 then (holdersL es x).2 else (holdersL es x).2 ||| (holdersL es x).1

def accEv (es : List Ev) (k t x v : Int) : Ev := ⟨k, t, x, if k = 2 then 0 else v, if k = 3 then 0 else isL es t x⟩
def accN (es : List Ev) (k t x v : Int) : Int := if k = 2 then isL es t x else if k = 3 then 0 else wrap32 (isL es t x + v)

def accessR (es : List Ev) (k t x v : Int) : List Ev × Int × Int :=
  if openL es t = false then (es, 0, 4)
  else if 4 ≤ x then (es, 0, 6)
  else if strangerL es t (othersL es k x) = true then (es, 0, 9)
  else if 60 ≤ es.length then (es, 0, 10)
  else (es ++ [accEv es k t x v], accN es k t x v, 0)

def AccessPost (w : World) (v0 : Value) (es : List Ev) (k t x v : Int) (r : Ending) (w' : World) : Prop :=
  Below w.heap.size w w' ∧ ∃ v', r = .returned (.tuple #[v', .int .i32 (accessR es k t x v).2.1, .int .i64 (accessR es k t x v).2.2]) ∧ HistOut w w' v0 v' es (accessR es k t x v).1

theorem holdersL_lt {es : List Ev} (h : Low15 es) (x : Int) : (holdersL es x).1 < 65536 ∧ (holdersL es x).2 < 65536 := by
  have := holdK_lt h x es.length (Nat.le_refl _)
  unfold holdK at this
  rw [List.take_length] at this
  exact this

end Go.Proofs.Ytfdalbmopaemgab
