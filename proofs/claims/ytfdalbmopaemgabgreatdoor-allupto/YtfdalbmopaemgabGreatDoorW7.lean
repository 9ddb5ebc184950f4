import Derived.Test.YtfdalbmopaemgabGreatDoorW6
namespace Go.Proofs.YtfdalbmopaemgabGreatDoor
open Go.RowKit

/-! ### A list of events of the call's own -/
def evC (e : Ev) : List Value := [.int .u8 e.k, .int .u8 e.t, .int .u8 e.a, .int .i32 e.v, .int .i32 e.s]
def evCells : List Ev → List Value
  | [] => []
  | e :: l => evC e ++ evCells l

theorem evCells_append (l m : List Ev) : evCells (l ++ m) = evCells l ++ evCells m := by
  induction l with
  | nil => rfl
  | cons e l ih => simp [evCells, ih]

theorem evCells_length (l : List Ev) : (evCells l).length = l.length * 5 := by
  induction l with
  | nil => rfl
  | cons e l ih => simp [evCells, evC, ih]; omega

theorem evCells_at (l : List Ev) (i : Nat) (h : i < l.length) (f : Nat) (hf : f < 5) : (evCells l)[i * 5 + f]? = (evC l[i])[f]? := by
  induction l generalizing i with
  | nil => simp at h
  | cons e l ih =>
    cases i with
    | zero =>
      simp only [evCells, List.getElem_cons_zero, Nat.zero_mul, Nat.zero_add]
      rw [List.getElem?_append_left (by simp [evC]; omega)]
    | succ i =>
      simp only [evCells, List.getElem_cons_succ]
      rw [List.getElem?_append_right (by simp [evC]; omega)]
      rw [show (i + 1) * 5 + f - (evC e).length = i * 5 + f by simp [evC]; omega]
      exact ih i (by simpa using h)

/-- The value v is a list of the call's own (from block B on) that holds es. -/
def Own (w : World) (B : Nat) (v : Value) (es : List Ev) : Prop := w.ownsRow B 45 5 v es.length (evCells es)

theorem Own.nil (w : World) (B : Nat) : Own w B (.slice none 0 0) [] := World.ownsRow_nil w B _ 5

theorem Own.form {w : World} {B : Nat} {v : Value} {es : List Ev} (h : Own w B v es) : ∃ a cap, v = .slice a es.length cap := by
  rcases h.2 with ⟨rfl, h0⟩ | ⟨g, cap, cur, rfl, _⟩
  · exact ⟨none, 0, by rw [h0]⟩
  · exact ⟨_, cap, rfl⟩

theorem Own.below {w w' : World} {B : Nat} {v : Value} {es : List Ev} (h : Own w B v es) (hb : Below w.heap.size w w') : Own w' B v es := by
  refine ⟨h.1, ?_⟩
  rcases h.2 with hn | ⟨g, cap, cur, rfl, h1, h2, h3⟩
  · exact Or.inl hn
  · refine Or.inr ⟨g, cap, cur, rfl, h1, ?_, h3⟩
    rw [hb.block g (Array.getElem?_eq_some_iff.1 h2).1]
    exact h2

theorem Own.slEv {w : World} {B : Nat} {v : Value} {es : List Ev} (h : Own w B v es) : SlEv w v es := by
  by_cases hes : es = []
  · subst hes
    obtain ⟨a, cap, rfl⟩ := h.form
    exact Or.inl ⟨rfl, a, cap, rfl⟩
  · rcases h.2 with ⟨_, h0⟩ | ⟨g, cap, cur, rfl, h1, h2, h3⟩
    · exact absurd (List.length_eq_zero_iff.1 h0) hes
    · refine Or.inr ⟨g, 0, cap, rfl, (Array.getElem?_eq_some_iff.1 h2).1, fun i hi => ?_⟩
      have hc := World.ownsRow.cells h (g := g) rfl
      have hadd : ∀ j, (⟨g, 0, none⟩ : Addr).add j = ⟨g, j, none⟩ := fun j => by unfold Addr.add; split <;> simp_all
      have at_ : ∀ f, f < 5 → ∀ u, (evC es[i])[f]? = some u → w.cell? ⟨g, i * 5 + f, none⟩ = some u := fun f hf u hu => by
        have := hc (i * 5 + f) u (by rw [evCells_at es i hi f hf]; exact hu)
        rw [hadd] at this
        exact this
      simp only [Nat.zero_add]
      exact ⟨at_ 0 (by omega) _ rfl, at_ 1 (by omega) _ rfl, at_ 2 (by omega) _ rfl, at_ 3 (by omega) _ rfl, at_ 4 (by omega) _ rfl⟩

/-! ### lineEnd -/
theorem upTo10_len : ∀ (l : List UInt8) (j : Nat), j ≤ l.length → (∀ i (h : i < l.length), i < j → l[i] ≠ 10) → (j = l.length ∨ ∃ h : j < l.length, l[j] = 10) → (upTo10 l).length = j
  | [], j, h1, _, _ => by simp at h1; subst h1; rfl
  | c :: l, 0, _, _, h3 => by
    rcases h3 with h3 | ⟨_, h3⟩
    · simp at h3
    · simp at h3
      subst h3
      simp [upTo10]
  | c :: l, j + 1, h1, h2, h3 => by
    have hc : c ≠ 10 := by have := h2 0 (by simp) (by omega); simpa using this
    unfold upTo10
    rw [List.takeWhile_cons_of_pos (by simpa using hc), List.length_cons]
    have := upTo10_len l j (by simpa using h1) (fun i hi hij => by have := h2 (i + 1) (by simpa using hi) (by omega); simpa using this) (by
      rcases h3 with h3 | ⟨h', h3⟩
      · exact Or.inl (by simp at h3; omega)
      · exact Or.inr ⟨by simpa using h', by simpa using h3⟩)
    unfold upTo10 at this
    omega

theorem lineEnd_at (s : ByteArray) (p q : Nat) (h1 : p ≤ q) (h2 : q ≤ s.size) (h3 : ∀ i (h : i < s.size), p ≤ i → i < q → s[i] ≠ 10) (h4 : q = s.size ∨ ∃ h : q < s.size, s[q] = 10) : p + (upTo10 (s.data.toList.drop p)).length = q := by
  have hsz : s.data.toList.length = s.size := by simp
  have := upTo10_len (s.data.toList.drop p) (q - p) (by rw [List.length_drop]; omega) (fun i hi hij => by
    rw [List.getElem_drop]
    rw [List.length_drop] at hi
    exact h3 (p + i) (by omega) (by omega) (by omega)) (by
    rcases h4 with h4 | ⟨h, h4⟩
    · exact Or.inl (by rw [List.length_drop]; omega)
    · refine Or.inr ⟨by rw [List.length_drop]; omega, ?_⟩
      rw [List.getElem_drop]
      simp only [show p + (q - p) = q by omega]
      exact h4)
  omega

theorem byte_bne (c : UInt8) : ((c.toNat : Int) != 10) = true ↔ c ≠ 10 := by
  rw [bne_iff_ne]
  refine ⟨fun h e => h (by rw [e]; rfl), fun h e => h (UInt8.toNat_inj.1 (Int.ofNat_inj.1 e))⟩

set_option maxHeartbeats 400000 in
theorem lineEnd_any (s : ByteArray) (p : Nat) (w : World) (hs : s.size ≤ 9223372036854775000) (hp : p ≤ s.size) :
    Calls Tryz.prog 72 #[.string s, .int .i64 p] w fun r w' => r = .returned (.int .i64 (p + (upTo10 (s.data.toList.drop p)).length : Nat)) ∧ w' = w := by
  go_enter Tryz.func72, Tryz.ntmps72
  go_wp2
  go_loop [5] (fun v => ∃ q : Nat, p ≤ q ∧ q ≤ s.size ∧ (∀ i (h : i < s.size), p ≤ i → i < q → s[i] ≠ 10) ∧ v = .int .i64 q) (fun v => s.size - (intOf v).toNat)
  case atStart => exact ⟨p, Nat.le_refl _, hp, fun i _ h1 h2 => by omega, rfl⟩
  case round =>
    obtain ⟨q, h1, h2, h3, rfl⟩ := hrel
    have H3 : Hid (∀ i (h : i < s.size), p ≤ i → i < q → s[i] ≠ 10) := h3
    clear h3
    by_cases hlt : q < s.size
    · have hlt' : (q : Int) < (s.size : Int) := by omega
      cases hb : ((s[q].toNat : Int) != 10) with
      | true =>
        go_wp2
        go_round
        case rel =>
          refine ⟨q + 1, by omega, by omega, fun i hi h4 h5 => ?_, by go_num⟩
          by_cases e : i = q
          · subst e; exact (byte_bne _).1 hb
          · exact H3.out i hi h4 (by omega)
        case measure => simp [intOf]; omega
      | false =>
        go_wp2
        go_ret
        refine ⟨ret_int ?_, rfl⟩
        have e10 : s[q] = 10 := by
          by_cases e : s[q] = 10
          · exact e
          · have := (byte_bne _).2 e
            rw [hb] at this
            cases this
        have := lineEnd_at s p q h1 h2 H3.out (Or.inr ⟨hlt, e10⟩)
        omega
    · have hge : ¬ (q : Int) < (s.size : Int) := by omega
      go_wp2
      go_ret
      have := lineEnd_at s p q h1 h2 H3.out (Or.inl (by omega))
      exact ⟨ret_int (by omega), rfl⟩

theorem parseLine_all (s : ByteArray) (w : World) (hs : s.size ≤ 9223372036854775000) :
    Calls Tryz.prog 73 #[.string s] w fun r w' => r = .returned (.tuple #[evV (lineEv s.data.toList), .bool (lineOk s.data.toList)]) ∧ Below w.heap.size w w' := by
  by_cases h0 : 0 < s.size
  · exact parseLine_any s w hs h0
  · have e : s = ⟨#[]⟩ := by
      apply ByteArray.ext
      apply Array.eq_empty_of_size_eq_zero
      have : s.data.size = s.size := rfl
      omega
    subst e
    exact parseLine_empty w

end Go.Proofs.YtfdalbmopaemgabGreatDoor
