import Derived.Test.YtfdalbmopaemgaaW7
import Derived.Lib.Strings
namespace Go.Proofs.Ytfdalbmopaemgaa
open Go.RowKit

theorem Try.infoEv : (Try.prog.info? 23).map (fun i => (i.zero, i.size, i.bytes)) = some (some (.agg #[.int .u8 0, .int .u8 0, .int .u8 0, .int .i32 0, .int .i32 0]), 5, 12) := by kernel_rfl

theorem hidIt {p : Prop} (h : p) : Hid p := h

theorem parseG_fuel : ∀ (f g : Nat) (l : List UInt8) (acc : List Ev), l.length < f → l.length < g → parseG f l acc = parseG g l acc
  | 0, _, _, _, h, _ => by omega
  | _ + 1, 0, _, _, _, h => by omega
  | f + 1, g + 1, l, acc, h1, h2 => by
    unfold parseG
    by_cases hl : l = []
    · rw [if_pos hl, if_pos hl]
    · have hpos : 0 < l.length := List.length_pos_iff.2 hl
      rw [if_neg hl, if_neg hl]
      split
      · rfl
      · split
        · rfl
        · exact parseG_fuel f g _ _ (by simp; omega) (by simp; omega)

theorem upTo10_take (l : List UInt8) : l.take (upTo10 l).length = upTo10 l := by
  unfold upTo10
  exact List.prefix_iff_eq_take.1 (List.takeWhile_prefix _) |>.symm

/-- One line's step. -/
theorem parse_step (s : ByteArray) (p q : Nat) (acc : List Ev) (hp : p < s.size) (hq : p + (upTo10 (s.data.toList.drop p)).length = q) :
    (s.size ≤ q ∨ 60 ≤ acc.length → parseG (s.size + 1) (s.data.toList.drop p) acc = ([], 2, (acc.length : Int))) ∧
    (q < s.size → acc.length < 60 → lineOk (s.extract p q).data.toList = false → parseG (s.size + 1) (s.data.toList.drop p) acc = ([], 2, (acc.length : Int))) ∧
    (q < s.size → acc.length < 60 → lineOk (s.extract p q).data.toList = true → parseG (s.size + 1) (s.data.toList.drop p) acc = parseG (s.size + 1) (s.data.toList.drop (q + 1)) (acc ++ [lineEv (s.extract p q).data.toList])) := by
  have hsz : s.data.toList.length = s.size := by simp
  have hne : s.data.toList.drop p ≠ [] := by
    intro e
    have := congrArg List.length e
    rw [List.length_drop] at this
    simp at this
    omega
  have hex : (s.extract p q).data.toList = upTo10 (s.data.toList.drop p) := by
    rw [Lib.extract_data, show q - p = (upTo10 (s.data.toList.drop p)).length by omega, upTo10_take]
  have hlen : (s.data.toList.drop p).length = s.size - p := by rw [List.length_drop, hsz]
  rw [hex]
  unfold lineOk lineEv
  refine ⟨fun h => ?_, fun h1 h2 h3 => ?_, fun h1 h2 h3 => ?_⟩
  · have hle := upTo10_le (s.data.toList.drop p)
    rw [parseG, if_neg hne, if_pos (by omega)]
  · rw [parseG, if_neg hne, if_neg (by omega)]
    cases hp : parseLineL (upTo10 (s.data.toList.drop p)) with
    | none => rfl
    | some e => rw [hp] at h3; cases h3
  · rw [parseG, if_neg hne, if_neg (by omega)]
    cases hp : parseLineL (upTo10 (s.data.toList.drop p)) with
    | none => rw [hp] at h3; cases h3
    | some e =>
      simp only [Option.getD_some]
      rw [List.drop_drop, show p + ((upTo10 (s.data.toList.drop p)).length + 1) = q + 1 by omega]
      exact parseG_fuel _ _ _ _ (by rw [List.length_drop]; omega) (by rw [List.length_drop]; omega)

theorem extract_size (s : ByteArray) (p q : Nat) : (s.extract p q).size ≤ s.size := by
  have h := congrArg List.length (Lib.extract_data s p q)
  rw [List.length_take, List.length_drop, Array.length_toList, Array.length_toList] at h
  have h1 : (s.extract p q).data.size = (s.extract p q).size := rfl
  have h2 : s.data.size = s.size := rfl
  omega

theorem evC_new (w1 : World) (o : Obj) (T : TypeId) (ev : Ev) : ∀ j u, (evC ev)[j]? = some u → ((w1.alloc o).alloc (.cells #[.int .u8 ev.k, .int .u8 ev.t, .int .u8 ev.a, .int .i32 ev.v, .int .i32 ev.s] T)).cell? ((⟨w1.heap.size + 1, 0, none⟩ : Addr).add j) = some u := by
  intro j u hj
  have hlt : j < 5 := by
    have := (List.getElem?_eq_some_iff.1 hj).1
    simpa [evC] using this
  have hadd : (⟨w1.heap.size + 1, 0, none⟩ : Addr).add j = ⟨w1.heap.size + 1, j, none⟩ := by unfold Addr.add; split <;> simp_all
  rw [hadd]
  have hc : j = 0 ∨ j = 1 ∨ j = 2 ∨ j = 3 ∨ j = 4 := by omega
  rcases hc with rfl | rfl | rfl | rfl | rfl <;> simp [evC] at hj <;> subst hj <;> simp [go_sem]

theorem evC_one (ev : Ev) : ∀ u ∈ evC ev, u.oneCell' = true := by
  intro u hu
  simp [evC] at hu
  rcases hu with rfl | rfl | rfl | rfl | rfl <;> rfl

theorem tup3 {v : Value} {a b c d : Int} (h : a = b) (h' : c = d) : Ending.returned (.tuple #[v, .int .i64 a, .int .i64 c]) = .returned (.tuple #[v, .int .i64 b, .int .i64 d]) := by rw [h, h']

def ParsePost (w : World) (l : List UInt8) (r : Ending) (w' : World) : Prop :=
  ∃ v, r = .returned (.tuple #[v, .int .i64 (parseL l).2.1, .int .i64 (parseL l).2.2]) ∧ Own w' w.heap.size v (parseL l).1 ∧ Below w.heap.size w w'

end Go.Proofs.Ytfdalbmopaemgaa
