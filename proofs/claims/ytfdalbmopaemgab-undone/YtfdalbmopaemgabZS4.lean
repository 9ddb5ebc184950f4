import Derived.Test.YtfdalbmopaemgabZK9
import Derived.Test.YtfdalbmopaemgabZG1
import Derived.Laws.BitsAllLaws
namespace Go.Proofs.Ytfdalbmopaemgab
open Go.RowKit

/-! ### The document's own answers about a store -/
def holderG (h : List Ev) : Nat → Int → Int × Bool
  | 0, _ => (0, false)
  | n + 1, t => if t = 0 then (0, true) else if openL h t = true then (t, true) else if h.any (isC t) = false then (0, false) else holderG h n (parentL h t)

theorem tup_ib {k : IntKind} {a b : Int} {c d : Bool} (h : a = b) (h' : c = d) : Ending.returned (.tuple #[.int k a, .bool c]) = .returned (.tuple #[.int k b, .bool d]) := by rw [h, h']

end Go.Proofs.Ytfdalbmopaemgab

namespace Go.Proofs.Ytfdalbmopaemgab
open Go.RowKit

/-! ### Who holds an object: bit t for transaction t -/
def hstep (es : List Ev) (x : Int) (p : Nat × Nat) (e : Ev) : Nat × Nat :=
  if onObj e.k = true ∧ e.a = x ∧ (holderG es 16 e.t).1 ≠ 0 then (if e.k = 2 then (p.1 ||| 2 ^ (holderG es 16 e.t).1.toNat, p.2) else (p.1, p.2 ||| 2 ^ (holderG es 16 e.t).1.toNat)) else p

def holdersL (es : List Ev) (x : Int) : Nat × Nat := es.foldl (hstep es x) (0, 0)

/-- Only 1 to 15 are ever open. -/
def Low15 (es : List Ev) : Prop := ∀ t, openL es t = true → 1 ≤ t ∧ t ≤ 15

theorem holder_low {es : List Ev} (h : Low15 es) : ∀ n t, 0 ≤ (holderG es n t).1 ∧ (holderG es n t).1 ≤ 15
  | 0, t => by unfold holderG; simp
  | n + 1, t => by
    unfold holderG
    by_cases h0 : t = 0
    · rw [if_pos h0]; simp
    · rw [if_neg h0]
      by_cases h1 : openL es t = true
      · rw [if_pos h1]; have := h t h1; simp only; omega
      · rw [if_neg h1]
        by_cases h2 : es.any (isC t) = false
        · rw [if_pos h2]; simp
        · rw [if_neg h2]; exact holder_low h n _

theorem pow16 {t : Nat} (h : t ≤ 15) : 2 ^ t < 65536 := Nat.lt_of_le_of_lt (Nat.pow_le_pow_right (by omega) h) (by decide)

theorem or16 {a b : Nat} (ha : a < 65536) (hb : b < 65536) : a ||| b < 65536 := by
  have := Nat.or_lt_two_pow (n := 16) (x := a) (y := b) (by simpa using ha) (by simpa using hb)
  simpa using this

theorem hstep_lt {es : List Ev} (h : Low15 es) (x : Int) (p : Nat × Nat) (e : Ev) (h1 : p.1 < 65536) (h2 : p.2 < 65536) : (hstep es x p e).1 < 65536 ∧ (hstep es x p e).2 < 65536 := by
  have hl := holder_low h 16 e.t
  have hp := pow16 (t := (holderG es 16 e.t).1.toNat) (by omega)
  unfold hstep
  split
  · split
    · exact ⟨or16 h1 hp, h2⟩
    · exact ⟨h1, or16 h2 hp⟩
  · exact ⟨h1, h2⟩

/-- What has come together ahead of the event k. -/
def holdK (es : List Ev) (x : Int) (k : Nat) : Nat × Nat := (es.take k).foldl (hstep es x) (0, 0)

theorem holdK_succ (es : List Ev) (x : Int) (k : Nat) (hk : k < es.length) : holdK es x (k + 1) = hstep es x (holdK es x k) es[k] := by
  unfold holdK
  rw [List.take_succ_eq_append_getElem hk, List.foldl_append]
  rfl

theorem holdK_lt {es : List Ev} (h : Low15 es) (x : Int) : ∀ k, k ≤ es.length → (holdK es x k).1 < 65536 ∧ (holdK es x k).2 < 65536
  | 0, _ => by simp [holdK]
  | k + 1, hk => by
    rw [holdK_succ es x k (by omega)]
    have := holdK_lt h x k (by omega)
    exact hstep_lt h x _ _ this.1 this.2

theorem bit16 (a : Nat) (t : Int) (ha : a < 65536) (h0 : 0 ≤ t) (h1 : t ≤ 15) : bits BinOp.or IntKind.u16 (a : Int) (IntKind.u16.wrap (2 ^ t.toNat)) = ((a ||| 2 ^ t.toNat : Nat) : Int) := by
  have hp := pow16 (t := t.toNat) (by omega)
  have hw : IntKind.u16.wrap (2 ^ t.toNat) = ((2 ^ t.toNat : Nat) : Int) := by
    rw [show ((2 : Int) ^ t.toNat) = ((2 ^ t.toNat : Nat) : Int) by simp]
    generalize 2 ^ t.toNat = z at hp ⊢
    simp [IntKind.wrap, IntKind.bits, IntKind.signed]
    omega
  rw [hw]
  exact u16_or_nat a _ ha hp

theorem tup3u {a b c d e f : Int} (h : a = b) (h' : c = d) (h'' : e = f) : Ending.returned (.tuple #[.int .u16 a, .int .u16 c, .int .i64 e]) = .returned (.tuple #[.int .u16 b, .int .u16 d, .int .i64 f]) := by rw [h, h', h'']

end Go.Proofs.Ytfdalbmopaemgab

namespace Go.Proofs.Ytfdalbmopaemgab
open Go.RowKit

def strangerL (es : List Ev) (t : Int) (s : Nat) : Bool := (List.range 15).any fun i => s.testBit (i + 1) && !withinG es ((i + 1 : Nat) : Int) 16 t

theorem and16 (s n : Nat) (hs : s < 65536) : bits BinOp.and IntKind.u16 ((s : Int) / 2 ^ n) 1 = 1 ↔ s.testBit n = true := by
  have h1 : ((s : Int) / 2 ^ n) = ((s / 2 ^ n : Nat) : Int) := by simp
  have h2 : s / 2 ^ n < 65536 := Nat.lt_of_le_of_lt (Nat.div_le_self _ _) hs
  have h3 := u16_and_nat (s / 2 ^ n) 1 h2 (by omega)
  rw [h1, show (1 : Int) = ((1 : Nat) : Int) from rfl, h3, Nat.and_one_is_mod, Nat.testBit_eq_decide_div_mod_eq]
  simp
  omega

end Go.Proofs.Ytfdalbmopaemgab

namespace Go.Proofs.Ytfdalbmopaemgab
open Go.RowKit

/-- What an object is for a transaction, by the events ahead of the k-th. -/
def isHit (es : List Ev) (t x : Int) (e : Ev) : Bool := (e.k == 3 || e.k == 4) && (e.a == x) && ((holderG es 16 e.t).2 && withinG es (holderG es 16 e.t).1 16 t)
def madeBy (e : Ev) : Int := if e.k = 3 then e.v else wrap32 (e.s + e.v)

def isG (es : List Ev) (t x : Int) : Nat → Int
  | 0 => 0
  | k + 1 => match es[k]? with
    | none => isG es t x k
    | some e => if isHit es t x e = true then madeBy e else isG es t x k

def isL (es : List Ev) (t x : Int) : Int := isG es t x es.length

theorem isG_hit {es : List Ev} {t x : Int} {k : Nat} {e : Ev} (he : es[k]? = some e) (h : isHit es t x e = true) : isG es t x (k + 1) = madeBy e := by rw [isG, he]; simp only; rw [if_pos h]
theorem isG_miss {es : List Ev} {t x : Int} {k : Nat} {e : Ev} (he : es[k]? = some e) (h : isHit es t x e = false) : isG es t x (k + 1) = isG es t x k := by rw [isG, he]; simp only; rw [if_neg (by rw [h]; decide)]

end Go.Proofs.Ytfdalbmopaemgab
