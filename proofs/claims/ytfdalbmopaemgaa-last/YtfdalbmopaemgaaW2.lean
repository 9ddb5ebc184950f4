import Derived.Test.YtfdalbmopaemgaaW1
namespace Go.Proofs.Ytfdalbmopaemgaa
open Go.RowKit

/-! ### Events in memory -/
structure EvAt (w : World) (b o : Nat) (e : Ev) : Prop where
  c0 : w.cell? ⟨b, o, none⟩ = some (.int .u8 e.k)
  c1 : w.cell? ⟨b, o + 1, none⟩ = some (.int .u8 e.t)
  c2 : w.cell? ⟨b, o + 2, none⟩ = some (.int .u8 e.a)
  c3 : w.cell? ⟨b, o + 3, none⟩ = some (.int .i32 e.v)
  c4 : w.cell? ⟨b, o + 4, none⟩ = some (.int .i32 e.s)

def EvsAt (w : World) (b off : Nat) (es : List Ev) : Prop := ∀ (i : Nat) (h : i < es.length), EvAt w b (off + i * 5) es[i]

/-- The slice value v holds the events es. -/
def SlEv (w : World) (v : Value) (es : List Ev) : Prop :=
  (es = [] ∧ ∃ a c, v = .slice a 0 c) ∨ (∃ b off cap, v = .slice (some ⟨b, off, none⟩) es.length cap ∧ b < w.heap.size ∧ EvsAt w b off es)

theorem EvAt.below {w w' : World} {B b o : Nat} {e : Ev} (h : EvAt w b o e) (hB : b < B) (hb : Below B w w') : EvAt w' b o e :=
  ⟨by rw [bcells hb _ _ hB]; exact h.c0, by rw [bcells hb _ _ hB]; exact h.c1, by rw [bcells hb _ _ hB]; exact h.c2, by rw [bcells hb _ _ hB]; exact h.c3, by rw [bcells hb _ _ hB]; exact h.c4⟩

theorem EvsAt.below {w w' : World} {B b o : Nat} {es : List Ev} (h : EvsAt w b o es) (hB : b < B) (hb : Below B w w') : EvsAt w' b o es := fun i hi => (h i hi).below hB hb

theorem SlEv.below {w w' : World} {v : Value} {es : List Ev} (h : SlEv w v es) (hb : Below w.heap.size w w') : SlEv w' v es := by
  rcases h with ⟨h1, h2⟩ | ⟨b, off, cap, h1, h2, h3⟩
  · exact Or.inl ⟨h1, h2⟩
  · exact Or.inr ⟨b, off, cap, h1, Nat.lt_of_lt_of_le h2 hb.size, h3.below h2 hb⟩

/-! ### Print -/
def allKinds (es : List Ev) : Bool := es.all fun e => isKind e.k
def printT (es : List Ev) : List UInt8 := if 60 < es.length then [] else if allKinds es then printL es else []
def printE (es : List Ev) : Int := if 60 < es.length then 1 else if allKinds es then 0 else 3

theorem allKinds_take (es : List Ev) (k : Nat) (h : k < es.length) (ha : allKinds (es.take k) = true) (hk : isKind es[k].k = true) : allKinds (es.take (k + 1)) = true := by
  unfold allKinds at ha ⊢
  rw [List.take_succ_eq_append_getElem h, List.all_append, ha]
  simp [hk]

theorem allKinds_no (es : List Ev) (k : Nat) (h : k < es.length) (hk : isKind es[k].k = false) : allKinds es = false := by
  unfold allKinds
  rw [List.all_eq_false]
  exact ⟨es[k], List.getElem_mem _, by simp [hk]⟩

theorem letterL_no (k : Int) (h : isKind k = false) : letterL k = [] := by
  unfold isKind at h
  simp at h
  unfold letterL
  rw [if_neg (by omega), if_neg (by omega), if_neg (by omega), if_neg (by omega), if_neg (by omega), if_neg (by omega)]

theorem tup_str_int {a b : List UInt8} {n m : Int} (h : a = b) (h' : n = m) : Ending.returned (.tuple #[.string ⟨a.toArray⟩, .int .i64 n]) = .returned (.tuple #[.string ⟨b.toArray⟩, .int .i64 m]) := by rw [h, h']

theorem numbersL_len (e : Ev) (he : e.Ok) : (numbersL e).length ≤ 33 := by
  have := lineL_len e he
  unfold lineL at this
  simp only [List.length_append] at this
  omega

theorem text_step (es : List Ev) (k : Nat) (h : k < es.length) (c : UInt8) (ev : Ev) (he : es[k] = ev) (hc : letterL ev.k = [c]) :
    (⟨(printL (es.take k)).toArray⟩ ++ (⟨#[c]⟩ ++ ⟨(numbersL ev).toArray⟩ ++ ⟨#[10]⟩) : ByteArray) = ⟨(printL (es.take (k + 1))).toArray⟩ := by
  rw [List.take_succ_eq_append_getElem h, printL_snoc, he, lineL, hc]
  show (⟨(printL (es.take k)).toArray⟩ ++ (⟨[c].toArray⟩ ++ ⟨(numbersL ev).toArray⟩ ++ ⟨[10].toArray⟩) : ByteArray) = _
  rw [app_str, app_str, app_str]

end Go.Proofs.Ytfdalbmopaemgaa
