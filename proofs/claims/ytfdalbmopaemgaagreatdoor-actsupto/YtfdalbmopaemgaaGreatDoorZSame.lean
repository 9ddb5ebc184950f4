import Derived.Test.YtfdalbmopaemgaaGreatDoorZW6
import Derived.Lib.Strings
namespace Go.Proofs.YtfdalbmopaemgaaGreatDoor
open Go.RowKit

/-! ### A list of events of the call's own -/
def evC (e : Ev) : List Value := [.int .u8 e.k, .int .u8 e.t, .int .u8 e.a, .int .i32 e.v, .int .i32 e.s]
def evCells : List Ev → List Value
  | [] => []
  | e :: l => evC e ++ evCells l

theorem evCells_append (l m : List Ev) : evCells (l ++ m) = evCells l ++ evCells m := by
  induction l with
  | nil => rfl
  | cons e l ih => simp [evCells, ih]

theorem evCells_length (l : List Ev) : (evCells l).length = l.length * 5 := by
  induction l with
  | nil => rfl
  | cons e l ih => simp [evCells, evC, ih]; omega

theorem evCells_at (l : List Ev) (i : Nat) (h : i < l.length) (f : Nat) (hf : f < 5) : (evCells l)[i * 5 + f]? = (evC l[i])[f]? := by
  induction l generalizing i with
  | nil => simp at h
  | cons e l ih =>
    cases i with
    | zero =>
      simp only [evCells, List.getElem_cons_zero, Nat.zero_mul, Nat.zero_add]
      rw [List.getElem?_append_left (by simp [evC]; omega)]
    | succ i =>
      simp only [evCells, List.getElem_cons_succ]
      rw [List.getElem?_append_right (by simp [evC]; omega)]
      rw [show (i + 1) * 5 + f - (evC e).length = i * 5 + f by simp [evC]; omega]
      exact ih i (by simpa using h)

/-- The value v is a list of the call's own (from block B on) that holds es. -/
def Own (w : World) (B : Nat) (v : Value) (es : List Ev) : Prop := w.ownsRow B 41 5 v es.length (evCells es)

theorem Own.nil (w : World) (B : Nat) : Own w B (.slice none 0 0) [] := World.ownsRow_nil w B _ 5

theorem Own.form {w : World} {B : Nat} {v : Value} {es : List Ev} (h : Own w B v es) : ∃ a cap, v = .slice a es.length cap := by
  rcases h.2 with ⟨rfl, h0⟩ | ⟨g, cap, cur, rfl, _⟩
  · exact ⟨none, 0, by rw [h0]⟩
  · exact ⟨_, cap, rfl⟩

theorem Own.below {w w' : World} {B : Nat} {v : Value} {es : List Ev} (h : Own w B v es) (hb : Below w.heap.size w w') : Own w' B v es := by
  refine ⟨h.1, ?_⟩
  rcases h.2 with hn | ⟨g, cap, cur, rfl, h1, h2, h3⟩
  · exact Or.inl hn
  · refine Or.inr ⟨g, cap, cur, rfl, h1, ?_, h3⟩
    rw [hb.block g (Array.getElem?_eq_some_iff.1 h2).1]
    exact h2

theorem Own.slEv {w : World} {B : Nat} {v : Value} {es : List Ev} (h : Own w B v es) : SlEv w v es := by
  by_cases hes : es = []
  · subst hes
    obtain ⟨a, cap, rfl⟩ := h.form
    exact Or.inl ⟨rfl, a, cap, rfl⟩
  · rcases h.2 with ⟨_, h0⟩ | ⟨g, cap, cur, rfl, h1, h2, h3⟩
    · exact absurd (List.length_eq_zero_iff.1 h0) hes
    · refine Or.inr ⟨g, 0, cap, rfl, (Array.getElem?_eq_some_iff.1 h2).1, fun i hi => ?_⟩
      have hc := World.ownsRow.cells h (g := g) rfl
      have hadd : ∀ j, (⟨g, 0, none⟩ : Addr).add j = ⟨g, j, none⟩ := fun j => by unfold Addr.add; split <;> simp_all
      have at_ : ∀ f, f < 5 → ∀ u, (evC es[i])[f]? = some u → w.cell? ⟨g, i * 5 + f, none⟩ = some u := fun f hf u hu => by
        have := hc (i * 5 + f) u (by rw [evCells_at es i hi f hf]; exact hu)
        rw [hadd] at this
        exact this
      simp only [Nat.zero_add]
      exact ⟨at_ 0 (by omega) _ rfl, at_ 1 (by omega) _ rfl, at_ 2 (by omega) _ rfl, at_ 3 (by omega) _ rfl, at_ 4 (by omega) _ rfl⟩

/-! ### lineEnd -/
theorem upTo10_len : ∀ (l : List UInt8) (j : Nat), j ≤ l.length → (∀ i (h : i < l.length), i < j → l[i] ≠ 10) → (j = l.length ∨ ∃ h : j < l.length, l[j] = 10) → (upTo10 l).length = j
  | [], j, h1, _, _ => by simp at h1; subst h1; rfl
  | c :: l, 0, _, _, h3 => by
    rcases h3 with h3 | ⟨_, h3⟩
    · simp at h3
    · simp at h3
      subst h3
      simp [upTo10]
  | c :: l, j + 1, h1, h2, h3 => by
    have hc : c ≠ 10 := by have := h2 0 (by simp) (by omega); simpa using this
    unfold upTo10
    rw [List.takeWhile_cons_of_pos (by simpa using hc), List.length_cons]
    have := upTo10_len l j (by simpa using h1) (fun i hi hij => by have := h2 (i + 1) (by simpa using hi) (by omega); simpa using this) (by
      rcases h3 with h3 | ⟨h', h3⟩
      · exact Or.inl (by simp at h3; omega)
      · exact Or.inr ⟨by simpa using h', by simpa using h3⟩)
    unfold upTo10 at this
    omega

theorem lineEnd_at (s : ByteArray) (p q : Nat) (h1 : p ≤ q) (h2 : q ≤ s.size) (h3 : ∀ i (h : i < s.size), p ≤ i → i < q → s[i] ≠ 10) (h4 : q = s.size ∨ ∃ h : q < s.size, s[q] = 10) : p + (upTo10 (s.data.toList.drop p)).length = q := by
  have hsz : s.data.toList.length = s.size := by simp
  have := upTo10_len (s.data.toList.drop p) (q - p) (by rw [List.length_drop]; omega) (fun i hi hij => by
    rw [List.getElem_drop]
    rw [List.length_drop] at hi
    exact h3 (p + i) (by omega) (by omega) (by omega)) (by
    rcases h4 with h4 | ⟨h, h4⟩
    · exact Or.inl (by rw [List.length_drop]; omega)
    · refine Or.inr ⟨by rw [List.length_drop]; omega, ?_⟩
      rw [List.getElem_drop]
      simp only [show p + (q - p) = q by omega]
      exact h4)
  omega

theorem byte_bne (c : UInt8) : ((c.toNat : Int) != 10) = true ↔ c ≠ 10 := by
  rw [bne_iff_ne]
  refine ⟨fun h e => h (by rw [e]; rfl), fun h e => h (UInt8.toNat_inj.1 (Int.ofNat_inj.1 e))⟩

set_option maxHeartbeats 400000 in
theorem lineEnd_any (s : ByteArray) (p : Nat) (w : World) (hs : s.size ≤ 9223372036854775000) (hp : p ≤ s.size) :
    Calls Tryz.prog 77 #[.string s, .int .i64 p] w fun r w' => r = .returned (.int .i64 (p + (upTo10 (s.data.toList.drop p)).length : Nat)) ∧ w' = w := by
  go_enter Tryz.func77, Tryz.ntmps77
  go_wp2
  go_loop [5] (fun v => ∃ q : Nat, p ≤ q ∧ q ≤ s.size ∧ (∀ i (h : i < s.size), p ≤ i → i < q → s[i] ≠ 10) ∧ v = .int .i64 q) (fun v => s.size - (intOf v).toNat)
  case atStart => exact ⟨p, Nat.le_refl _, hp, fun i _ h1 h2 => by omega, rfl⟩
  case round =>
    obtain ⟨q, h1, h2, h3, rfl⟩ := hrel
    have H3 : Hid (∀ i (h : i < s.size), p ≤ i → i < q → s[i] ≠ 10) := h3
    clear h3
    by_cases hlt : q < s.size
    · have hlt' : (q : Int) < (s.size : Int) := by omega
      cases hb : ((s[q].toNat : Int) != 10) with
      | true =>
        go_wp2
        go_round
        case rel =>
          refine ⟨q + 1, by omega, by omega, fun i hi h4 h5 => ?_, by go_num⟩
          by_cases e : i = q
          · subst e; exact (byte_bne _).1 hb
          · exact H3.out i hi h4 (by omega)
        case measure => simp [intOf]; omega
      | false =>
        go_wp2
        go_ret
        refine ⟨ret_int ?_, rfl⟩
        have e10 : s[q] = 10 := by
          by_cases e : s[q] = 10
          · exact e
          · have := (byte_bne _).2 e
            rw [hb] at this
            cases this
        have := lineEnd_at s p q h1 h2 H3.out (Or.inr ⟨hlt, e10⟩)
        omega
    · have hge : ¬ (q : Int) < (s.size : Int) := by omega
      go_wp2
      go_ret
      have := lineEnd_at s p q h1 h2 H3.out (Or.inl (by omega))
      exact ⟨ret_int (by omega), rfl⟩

theorem parseLine_all (s : ByteArray) (w : World) (hs : s.size ≤ 9223372036854775000) :
    Calls Tryz.prog 78 #[.string s] w fun r w' => r = .returned (.tuple #[evV (lineEv s.data.toList), .bool (lineOk s.data.toList)]) ∧ Below w.heap.size w w' := by
  by_cases h0 : 0 < s.size
  · exact parseLine_any s w hs h0
  · have e : s = ⟨#[]⟩ := by
      apply ByteArray.ext
      apply Array.eq_empty_of_size_eq_zero
      have : s.data.size = s.size := rfl
      omega
    subst e
    exact parseLine_empty w

end Go.Proofs.YtfdalbmopaemgaaGreatDoor

namespace Go.Proofs.YtfdalbmopaemgaaGreatDoor
open Go.RowKit

theorem Tryz.infoEv : (Tryz.prog.info? 41).map (fun i => (i.zero, i.size, i.bytes)) = some (some (.agg #[.int .u8 0, .int .u8 0, .int .u8 0, .int .i32 0, .int .i32 0]), 5, 12) := by kernel_rfl

theorem hidIt {p : Prop} (h : p) : Hid p := h

theorem parseG_fuel : ∀ (f g : Nat) (l : List UInt8) (acc : List Ev), l.length < f → l.length < g → parseG f l acc = parseG g l acc
  | 0, _, _, _, h, _ => by omega
  | _ + 1, 0, _, _, _, h => by omega
  | f + 1, g + 1, l, acc, h1, h2 => by
    unfold parseG
    by_cases hl : l = []
    · rw [if_pos hl, if_pos hl]
    · have hpos : 0 < l.length := List.length_pos_iff.2 hl
      rw [if_neg hl, if_neg hl]
      split
      · rfl
      · split
        · rfl
        · exact parseG_fuel f g _ _ (by simp; omega) (by simp; omega)

theorem upTo10_take (l : List UInt8) : l.take (upTo10 l).length = upTo10 l := by
  unfold upTo10
  exact List.prefix_iff_eq_take.1 (List.takeWhile_prefix _) |>.symm

/-- One line's step. -/
theorem parse_step (s : ByteArray) (p q : Nat) (acc : List Ev) (hp : p < s.size) (hq : p + (upTo10 (s.data.toList.drop p)).length = q) :
    (s.size ≤ q ∨ 60 ≤ acc.length → parseG (s.size + 1) (s.data.toList.drop p) acc = ([], 2, (acc.length : Int))) ∧
    (q < s.size → acc.length < 60 → lineOk (s.extract p q).data.toList = false → parseG (s.size + 1) (s.data.toList.drop p) acc = ([], 2, (acc.length : Int))) ∧
    (q < s.size → acc.length < 60 → lineOk (s.extract p q).data.toList = true → parseG (s.size + 1) (s.data.toList.drop p) acc = parseG (s.size + 1) (s.data.toList.drop (q + 1)) (acc ++ [lineEv (s.extract p q).data.toList])) := by
  have hsz : s.data.toList.length = s.size := by simp
  have hne : s.data.toList.drop p ≠ [] := by
    intro e
    have := congrArg List.length e
    rw [List.length_drop] at this
    simp at this
    omega
  have hex : (s.extract p q).data.toList = upTo10 (s.data.toList.drop p) := by
    rw [Lib.extract_data, show q - p = (upTo10 (s.data.toList.drop p)).length by omega, upTo10_take]
  have hlen : (s.data.toList.drop p).length = s.size - p := by rw [List.length_drop, hsz]
  rw [hex]
  unfold lineOk lineEv
  refine ⟨fun h => ?_, fun h1 h2 h3 => ?_, fun h1 h2 h3 => ?_⟩
  · have hle := upTo10_le (s.data.toList.drop p)
    rw [parseG, if_neg hne, if_pos (by omega)]
  · rw [parseG, if_neg hne, if_neg (by omega)]
    cases hp : parseLineL (upTo10 (s.data.toList.drop p)) with
    | none => rfl
    | some e => rw [hp] at h3; cases h3
  · rw [parseG, if_neg hne, if_neg (by omega)]
    cases hp : parseLineL (upTo10 (s.data.toList.drop p)) with
    | none => rw [hp] at h3; cases h3
    | some e =>
      simp only [Option.getD_some]
      rw [List.drop_drop, show p + ((upTo10 (s.data.toList.drop p)).length + 1) = q + 1 by omega]
      exact parseG_fuel _ _ _ _ (by rw [List.length_drop]; omega) (by rw [List.length_drop]; omega)

theorem lineEnd_q (s : ByteArray) (p q : Nat) (hq : p + (upTo10 (s.data.toList.drop p)).length = q) (w : World) (hs : s.size ≤ 9223372036854775000) (hp : p ≤ s.size) :
    Calls Tryz.prog 77 #[.string s, .int .i64 p] w fun r w' => r = .returned (.int .i64 q) ∧ w' = w := by
  have := lineEnd_any s p w hs hp
  rw [hq] at this
  exact this

theorem extract_size (s : ByteArray) (p q : Nat) : (s.extract p q).size ≤ s.size := by
  have h := congrArg List.length (Lib.extract_data s p q)
  rw [List.length_take, List.length_drop, Array.length_toList, Array.length_toList] at h
  have h1 : (s.extract p q).data.size = (s.extract p q).size := rfl
  have h2 : s.data.size = s.size := rfl
  omega

theorem parseLine_q (s : ByteArray) (p q : Nat) (w : World) (hs : s.size ≤ 9223372036854775000) :
    Calls Tryz.prog 78 #[.string (s.extract p q)] w fun r w' => ∃ (ev : Ev) (ok : Bool), r = .returned (.tuple #[evV ev, .bool ok]) ∧ Below w.heap.size w w' ∧ Hid (lineEv (s.extract p q).data.toList = ev ∧ lineOk (s.extract p q).data.toList = ok) := by
  refine (parseLine_all (s.extract p q) w (Nat.le_trans (extract_size s p q) hs)).mono ?_
  rintro r w' ⟨rfl, hb⟩
  exact ⟨_, _, rfl, hb, rfl, rfl⟩

theorem evC_new (w1 : World) (o : Obj) (T : TypeId) (ev : Ev) : ∀ j u, (evC ev)[j]? = some u → ((w1.alloc o).alloc (.cells #[.int .u8 ev.k, .int .u8 ev.t, .int .u8 ev.a, .int .i32 ev.v, .int .i32 ev.s] T)).cell? ((⟨w1.heap.size + 1, 0, none⟩ : Addr).add j) = some u := by
  intro j u hj
  have hlt : j < 5 := by
    have := (List.getElem?_eq_some_iff.1 hj).1
    simpa [evC] using this
  have hadd : (⟨w1.heap.size + 1, 0, none⟩ : Addr).add j = ⟨w1.heap.size + 1, j, none⟩ := by unfold Addr.add; split <;> simp_all
  rw [hadd]
  have hc : j = 0 ∨ j = 1 ∨ j = 2 ∨ j = 3 ∨ j = 4 := by omega
  rcases hc with rfl | rfl | rfl | rfl | rfl <;> simp [evC] at hj <;> subst hj <;> simp [go_sem]

theorem evC_one (ev : Ev) : ∀ u ∈ evC ev, u.oneCell' = true := by
  intro u hu
  simp [evC] at hu
  rcases hu with rfl | rfl | rfl | rfl | rfl <;> rfl

theorem tup3 {v : Value} {a b c d : Int} (h : a = b) (h' : c = d) : Ending.returned (.tuple #[v, .int .i64 a, .int .i64 c]) = .returned (.tuple #[v, .int .i64 b, .int .i64 d]) := by rw [h, h']

def ParsePost (w : World) (l : List UInt8) (r : Ending) (w' : World) : Prop :=
  ∃ v, r = .returned (.tuple #[v, .int .i64 (parseL l).2.1, .int .i64 (parseL l).2.2]) ∧ Own w' w.heap.size v (parseL l).1 ∧ Below w.heap.size w w'

set_option maxRecDepth 100000 in
set_option maxHeartbeats 1000000 in
theorem hparse_any (s : ByteArray) (w : World) (hs : s.size ≤ 9223372036854775000) :
    Calls Tryz.prog 52 #[.string s] w (ParsePost w s.data.toList) := by
  have hsz : s.data.toList.length = s.size := by simp
  by_cases hl : 2100 < s.size
  · have hl' : (2100 : Int) < (s.size : Int) := by omega
    have hP : parseL s.data.toList = ([], 1, 0) := by unfold parseL; rw [if_pos (by omega)]
    have HP : Hid (parseL s.data.toList = ([], 1, 0)) := hP
    clear hP hsz
    go_enter Tryz.func52, Tryz.ntmps52
    go_wp2
    go_ret3
    exact ⟨.slice none 0 0, tup3 (by rw [HP.out]) (by rw [HP.out]), by rw [HP.out]; exact Own.nil _ _, Below.refl _ _⟩
  · have hl' : ¬ (2100 : Int) < (s.size : Int) := by omega
    have hP : parseL s.data.toList = parseG (s.size + 1) (s.data.toList.drop 0) [] := by unfold parseL; rw [if_neg (by omega), List.drop_zero, hsz]
    have HP : Hid (parseL s.data.toList = parseG (s.size + 1) (s.data.toList.drop 0) []) := hP
    clear hP hsz
    obtain ⟨i0, hi, hz0, hz1, hz2⟩ := info_parts Tryz.infoEv
    have HI : Hid (Tryz.prog.info? 41 = some i0) := hi
    have HZ0 : Hid (i0.zero = some (.agg #[.int .u8 0, .int .u8 0, .int .u8 0, .int .i32 0, .int .i32 0])) := hz0
    have HZ1 : Hid (i0.size = 5) := hz1
    have HZ2 : Hid (i0.bytes = 12) := hz2
    clear hi hz0 hz1 hz2
    go_enter Tryz.func52, Tryz.ntmps52
    go_wp2
    go_loopw [5, 6] (fun h st wr => ∃ (acc : List Ev) (p : Nat), p ≤ s.size ∧ st = .int .i64 p ∧ acc.length ≤ 60 ∧ Own wr w.heap.size h acc ∧ Below w.heap.size w wr ∧ Hid (parseL s.data.toList = parseG (s.size + 1) (s.data.toList.drop p) acc)) (fun _ st _ => s.size - (intOf st).toNat)
    case atStart => exact ⟨[], 0, by omega, rfl, by simp, Own.nil _ _, Below.refl _ _, HP⟩
    case round =>
      obtain ⟨acc, p, hp, rfl, hacc, hown, hnx, HQ⟩ := hrel
      obtain ⟨a, cap, rfl⟩ := hown.form
      by_cases hlt : p < s.size
      · have hlt' : (p : Int) < (s.size : Int) := by omega
        obtain ⟨q, hq⟩ : ∃ q, p + (upTo10 (s.data.toList.drop p)).length = q := ⟨_, rfl⟩
        have HS := parse_step s p q acc hlt hq
        have HSS := hidIt HS
        have hqp : p ≤ q := by omega
        have hqs : q ≤ s.size := by
          have := upTo10_le (s.data.toList.drop p)
          have hsz : s.data.toList.length = s.size := by simp
          rw [List.length_drop] at this
          omega
        have HQQ : Hid (p + (upTo10 (s.data.toList.drop p)).length = q) := hq
        clear HS hq
        by_cases hx : s.size ≤ q ∨ 60 ≤ acc.length
        · have HF : Hid (parseL s.data.toList = ([], 2, (acc.length : Int))) := by
            show _ = _
            rw [HQ.out, HSS.out.1 hx]
          by_cases hq' : s.size ≤ q
          · have hx1 : (s.size : Int) ≤ (q : Int) := by omega
            clear hx
            go_wp2_with (go_at_call 77; refine (lineEnd_q s p q HQQ.out _ hs hp).mono ?_; rintro r w' ⟨rfl, rfl⟩)
            go_ret3
            exact ⟨.slice none 0 0, tup3 (by rw [HF.out]) (by rw [HF.out]), by rw [HF.out]; exact Own.nil _ _, hnx⟩
          · have hx1 : (q : Int) < (s.size : Int) := by omega
            have hx2 : (60 : Int) ≤ (acc.length : Int) := by omega
            clear hx
            go_wp2_with (go_at_call 77; refine (lineEnd_q s p q HQQ.out _ hs hp).mono ?_; rintro r w' ⟨rfl, rfl⟩)
            go_ret3
            exact ⟨.slice none 0 0, tup3 (by rw [HF.out]) (by rw [HF.out]), by rw [HF.out]; exact Own.nil _ _, hnx⟩
        · have hx1 : (q : Int) < (s.size : Int) := by omega
          have hx2 : (acc.length : Int) < 60 := by omega
          have hx3 : decide ((60 : Int) ≤ (acc.length : Int)) = false := by simp; omega
          have HX := hidIt hx
          clear hx
          go_wp2_with (go_at_call 77; refine (lineEnd_q s p q HQQ.out _ hs hp).mono ?_; rintro r w' ⟨rfl, rfl⟩)
          refine (parseLine_q s p q _ hs).mono ?_
          rintro r w1 ⟨ev, ok, rfl, hb, HE⟩
          have hw1 : w.heap.size ≤ w1.heap.size := Nat.le_trans hnx.size hb.size
          cases ok
          · have HF : Hid (parseL s.data.toList = ([], 2, (acc.length : Int))) := by
              show _ = _
              rw [HQ.out, HSS.out.2.1 (by omega) (by omega) HE.out.2]
            go_wp2
            go_ret3
            exact ⟨.slice none 0 0, tup3 (by rw [HF.out]) (by rw [HF.out]), by rw [HF.out]; exact Own.nil _ _, (hnx.trans (hb.mono hnx.size)).alloc hw1 _⟩
          · have hown1 := hown.below hb
            go_wp2_with (at_builtin; refine wpList_append_own _ rfl _ _ 31 rfl w.heap.size 41 i0 (.agg #[.int .u8 0, .int .u8 0, .int .u8 0, .int .i32 0, .int .i32 0]) 5 12 Tryz.underlying31 HI.out HZ0.out HZ1.out HZ2.out rfl (by decide) _ _ _ rfl (World.ownsRow.alloc (World.ownsRow.alloc hown1 _) _) ⟨w1.heap.size + 1, 0, none⟩ 1 1 (evC ev) rfl rfl ?c1 ?c2 ?c3 ?c4 ?c5 ?_)
            case c1 => exact evC_new w1 _ _ ev
            case c2 => exact evC_one ev
            case c3 => unfold maxLen; omega
            case c4 => omega
            case c5 => simp; omega
            · intro v' w2 hown' hgrow _
              have HF : Hid (parseL s.data.toList = parseG (s.size + 1) (s.data.toList.drop (q + 1)) (acc ++ [ev])) := by
                show _ = _
                rw [HQ.out, HSS.out.2.2 (by omega) (by omega) HE.out.2, HE.out.1]
              have hnx2 : Below w.heap.size w w2 := by
                refine Below.grown (((hnx.trans (hb.mono hnx.size)).alloc hw1 _).alloc (by simp; omega) _) hgrow (by simp; omega) (fun k hk => ?_)
                exact (World.ownsRow.lt hown k hk).1
              have hown2 : Own w2 w.heap.size v' (acc ++ [ev]) := by
                unfold Own
                rw [evCells_append, List.length_append]
                simpa [evCells] using hown'
              clear hown' hgrow
              go_wp2
              go_roundw
              case rel => exact ⟨acc ++ [ev], q + 1, by omega, by go_num, by simp; omega, hown2, hnx2, HF⟩
              case measure => simp [intOf]; omega
      · have hge : ¬ (p : Int) < (s.size : Int) := by omega
        have HF : Hid (parseL s.data.toList = (acc, 0, 0)) := by
          show _ = _
          rw [HQ.out, List.drop_eq_nil_of_le (by simp; omega)]
          rfl
        go_wp2
        go_ret3
        exact ⟨.slice a acc.length cap, tup3 (by rw [HF.out]) (by rw [HF.out]), by rw [HF.out]; exact hown, hnx⟩

set_option maxHeartbeats 400000 in
theorem parse_all (s : ByteArray) (w : World) (hs : s.size ≤ 9223372036854775000) :
    Calls Tryz.prog 28 #[.string s] w (ParsePost w s.data.toList) := by
  go_enter Tryz.func28, Tryz.ntmps28
  go_wp2_with (go_at_call 52; refine (hparse_any s _ hs).mono ?_; rintro r w1 ⟨v, rfl, h1, h2⟩)
  go_ret3
  exact ⟨v, rfl, h1, h2⟩

end Go.Proofs.YtfdalbmopaemgaaGreatDoor

namespace Go.Proofs.YtfdalbmopaemgaaGreatDoor
open Go.RowKit

/-! ### sameEvents -/
set_option maxHeartbeats 1000000 in
theorem same_any (b1 o1 c1 b2 o2 c2 : Nat) (es : List Ev) (w : World) (h1 : EvsAt w b1 o1 es) (h2 : EvsAt w b2 o2 es) (hm : es.length ≤ 9223372036854775000) :
    Calls Tryz.prog 30 #[.slice (some ⟨b1, o1, none⟩) es.length c1, .slice (some ⟨b2, o2, none⟩) es.length c2] w fun r w' => r = .returned (.bool true) ∧ ∃ n, w' = w.drewN n := by
  go_enter Tryz.func30, Tryz.ntmps30
  go_wp2
  go_loopw [5] (fun i wr => ∃ k : Nat, k ≤ es.length ∧ i = .int .i64 k ∧ ∃ n, wr = w.drewN n) (fun i _ => es.length - (intOf i).toNat)
  case atStart => exact ⟨0, by omega, rfl, 0, rfl⟩
  case round =>
    obtain ⟨k, hk, rfl, n, rfl⟩ := hrel
    by_cases hlt : k < es.length
    · obtain ⟨x0, x1, x2, x3, x4⟩ := h1 k hlt
      obtain ⟨y0, y1, y2, y3, y4⟩ := h2 k hlt
      have hlt' : (k : Int) < (es.length : Int) := by omega
      have hk0 : (0 : Int) ≤ (k : Int) := by omega
      generalize es[k] = e at *
      go_wp2_with fail
      go_quiet (fail)
      go_wp2
      go_roundw
      case rel => exact ⟨k + 1, by omega, by go_num, _, rfl⟩
      case measure => simp [intOf]; omega
    · have hge : ¬ (k : Int) < (es.length : Int) := by omega
      go_wp2
      go_ret
      exact ⟨rfl, n, rfl⟩

set_option maxHeartbeats 400000 in
theorem same_nil (a b : Option Addr) (c d : Nat) (w : World) :
    Calls Tryz.prog 30 #[.slice a 0 c, .slice b 0 d] w fun r w' => r = .returned (.bool true) ∧ ∃ n, w' = w.drewN n := by
  go_enter Tryz.func30, Tryz.ntmps30
  go_wp2
  go_loop [5] (fun i => i = .int .i64 0) (fun _ => 0)
  case atStart => rfl
  case round =>
    obtain rfl := hrel
    go_wp2
    go_ret
    exact ⟨rfl, 0, rfl⟩

theorem same_all (u v : Value) (es : List Ev) (w : World) (h1 : SlEv w u es) (h2 : SlEv w v es) (hm : es.length ≤ 9223372036854775000) :
    Calls Tryz.prog 30 #[u, v] w fun r w' => r = .returned (.bool true) ∧ ∃ n, w' = w.drewN n := by
  rcases h1 with ⟨rfl, a, c, rfl⟩ | ⟨b, off, cap, rfl, _, h3⟩
  · rcases h2 with ⟨_, a', c', rfl⟩ | ⟨b, off, cap, rfl, _, _⟩
    · exact same_nil a a' c c' w
    · exact same_nil a _ c cap w
  · rcases h2 with ⟨rfl, a', c', rfl⟩ | ⟨b', off', cap', rfl, _, h4⟩
    · exact same_nil _ a' cap c' w
    · exact same_any b off cap b' off' cap' es w h3 h4 hm

end Go.Proofs.YtfdalbmopaemgaaGreatDoor
