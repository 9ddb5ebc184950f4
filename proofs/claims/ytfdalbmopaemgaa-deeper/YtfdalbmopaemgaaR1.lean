import Derived.Test.YtfdalbmopaemgaaSame
import Derived.Laws.BytesArg
namespace Go.Proofs.Ytfdalbmopaemgaa
open Go.RowKit

/-! ### The document's own texts: number, line, Print -/
theorem itoa_small (n : Nat) (h : n < 10) : Lib.itoa (n : Int) = [UInt8.ofNat (48 + n)] := by rw [itoa_pos, dec_small h]
theorem itoa_big (n : Nat) (h : ¬ n < 10) : Lib.itoa (n : Int) = Lib.itoa ((n / 10 : Nat) : Int) ++ [UInt8.ofNat (48 + n % 10)] := by rw [itoa_pos, itoa_pos, dec_big h]

theorem dig_add (d : Nat) : 48 + UInt8.ofNat d = UInt8.ofNat (48 + d) := by simp

theorem line_B (e : Ev) (h : e.k = 1) : lineL e ++ [10] = [66] ++ ([32] ++ Lib.itoa e.t) ++ ([32] ++ Lib.itoa e.a) ++ [10] := by
  simp [lineL, letterL, numbersL, numL, optL, nArg, nVal, nSeen, onObj, h]
theorem line_R (e : Ev) (h : e.k = 2) : lineL e ++ [10] = [82] ++ ([32] ++ Lib.itoa e.t) ++ ([32] ++ Lib.itoa e.a) ++ ([32] ++ Lib.itoa e.s) ++ [10] := by
  simp [lineL, letterL, numbersL, numL, optL, nArg, nVal, nSeen, onObj, h]
theorem line_W (e : Ev) (h : e.k = 3) : lineL e ++ [10] = [87] ++ ([32] ++ Lib.itoa e.t) ++ ([32] ++ Lib.itoa e.a) ++ ([32] ++ Lib.itoa e.v) ++ [10] := by
  simp [lineL, letterL, numbersL, numL, optL, nArg, nVal, nSeen, onObj, h]
theorem line_A (e : Ev) (h : e.k = 4) : lineL e ++ [10] = [65] ++ ([32] ++ Lib.itoa e.t) ++ ([32] ++ Lib.itoa e.a) ++ ([32] ++ Lib.itoa e.v) ++ ([32] ++ Lib.itoa e.s) ++ [10] := by
  simp [lineL, letterL, numbersL, numL, optL, nArg, nVal, nSeen, onObj, h]
theorem line_C (e : Ev) (h : e.k = 5) : lineL e ++ [10] = [67] ++ ([32] ++ Lib.itoa e.t) ++ [10] := by
  simp [lineL, letterL, numbersL, numL, optL, nArg, nVal, nSeen, onObj, h]
theorem line_X (e : Ev) (h : e.k = 6) : lineL e ++ [10] = [88] ++ ([32] ++ Lib.itoa e.t) ++ [10] := by
  simp [lineL, letterL, numbersL, numL, optL, nArg, nVal, nSeen, onObj, h]

theorem text_step2 (es : List Ev) (k : Nat) (h : k < es.length) (l : List UInt8) (ev : Ev) (he : es[k] = ev) (hl : lineL ev ++ [10] = l) :
    (⟨(printL (es.take k)).toArray⟩ ++ ⟨l.toArray⟩ : ByteArray) = ⟨(printL (es.take (k + 1))).toArray⟩ := by
  rw [List.take_succ_eq_append_getElem h, printL_snoc, he, hl, app_str]

end Go.Proofs.Ytfdalbmopaemgaa
