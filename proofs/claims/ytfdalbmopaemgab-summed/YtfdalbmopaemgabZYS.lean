import Derived.Test.YtfdalbmopaemgabZY2
import Derived.Test.YtfdalbmopaemgabZX4
import Derived.Test.YtfdalbmopaemgabRows
namespace Go.Proofs.Ytfdalbmopaemgab
open Go.ChangeShapes Go.WideShapes Go.ChangeAt Go.WideMaps Go.WideElems Go.RowKit Go.Deep

/-- A list of numbers that came in. -/
theorem ints_of_trod2 {H : Type} {enc : TypeId × Value → H} {w : World} {base : Nat} {held : Bool} {fuel : Nat} {v : Value} {x : DataW H × List MemPlace}
    (h : DataW.trod enc Try.prog w base (fun _ => true) held fuel 56 [v] = some x) : ∃ ls : List Int, SlI w v ls ∧ (∀ n ∈ ls, -2147483648 ≤ n ∧ n ≤ 2147483647) ∧ ls.length ≤ 9223372036854775807 := by
  rcases open_slice Try.underlying56 h with ⟨h0, _⟩ | ⟨a, len, cap, m, n, D, Pl, h0, hb, hl, hm, hmm, _, hx⟩
  · simp only [List.cons.injEq, and_true] at h0
    exact ⟨[], Or.inl ⟨rfl, none, 0, h0⟩, fun e he => (by cases he), by simp⟩
  · simp only [List.cons.injEq, and_true] at h0
    simp only [if_true] at hmm
    have c5 : Try.prog.cellsOf 21 = 1 := by kernel_rfl
    rw [c5] at hx
    have hex : ∀ i, ∃ e : Int, i < len → (w.cells? base (a.add (i * 1)) 1 = some [.int .i32 e] ∧ (-2147483648 ≤ e ∧ e ≤ 2147483647)) := by
      intro i
      by_cases hi : i < len
      · obtain ⟨cs', h1, h2⟩ := hx i (by omega)
        obtain ⟨k, e0, _, w0⟩ := DataW.trod_int Try.underlying21 h2
        subst e0
        exact ⟨k, fun _ => ⟨h1, bounds_i32 w0⟩⟩
      · exact ⟨0, fun h => absurd h hi⟩
    obtain ⟨f, hf⟩ := Classical.axiomOfChoice hex
    have hlen : ((List.range len).map f).length = len := by simp
    have hcell : ∀ i, i < len → w.cell? (a.add i) = some (.int .i32 (f i)) := fun i hi => by
      have h1 := (hf i hi).1
      unfold World.cells? at h1
      split at h1
      · obtain ⟨u, hu, hw⟩ := Lib.mapM_at h1 0 0 (by simp)
        have he : (a.add (i * 1)).add 0 = a.add i := by simp [Addr.add]
        rw [he] at hw
        simp only [List.getElem?_cons_zero, Option.some.injEq] at hu
        rw [hw, hu]
      · cases h1
    refine ⟨(List.range len).map f, ?_, ?_, by rw [hlen]; unfold maxLen at *; omega⟩
    · by_cases hz : len = 0
      · subst hz
        exact Or.inl ⟨rfl, some a, cap, h0⟩
      · obtain ⟨b, o, spot⟩ := a
        have hspot : spot = none := by simpa [Addr.add] using World.cell?_spot (hcell 0 (by omega))
        subst hspot
        refine Or.inr ⟨b, o, cap, by rw [hlen]; exact h0, ?_, fun i hi => ?_⟩
        · have := hcell 0 (by omega)
          rw [Addr.add_mid] at this
          exact World.block_lt_of_cell? w ⟨b, o + 0, none⟩ this
        · rw [hlen] at hi
          have := hcell i hi
          rw [Addr.add_mid] at this
          rw [this]
          simp
    · intro e he
      simp only [List.mem_map, List.mem_range] at he
      obtain ⟨i, hi, rfl⟩ := he
      exact (hf i hi).2

theorem bools_of_trod {H : Type} {enc : TypeId × Value → H} {w : World} {base : Nat} {held : Bool} {fuel : Nat} {v : Value} {x : DataW H × List MemPlace}
    (h : DataW.trod enc Try.prog w base (fun _ => true) held fuel 57 [v] = some x) : ∃ bs : List Bool, SlB w v bs ∧ bs.length ≤ 9223372036854775807 := by
  rcases open_slice Try.underlying57 h with ⟨h0, _⟩ | ⟨a, len, cap, m, n, D, Pl, h0, hb, hl, hm, hmm, _, hx⟩
  · simp only [List.cons.injEq, and_true] at h0
    exact ⟨[], Or.inl ⟨rfl, none, 0, h0⟩, by simp⟩
  · simp only [List.cons.injEq, and_true] at h0
    simp only [if_true] at hmm
    have c5 : Try.prog.cellsOf 4 = 1 := by kernel_rfl
    rw [c5] at hx
    have hex : ∀ i, ∃ e : Bool, i < len → w.cells? base (a.add (i * 1)) 1 = some [.bool e] := by
      intro i
      by_cases hi : i < len
      · obtain ⟨cs', h1, h2⟩ := hx i (by omega)
        obtain ⟨k, e0, _⟩ := DataW.trod_bool Try.underlying4 h2
        subst e0
        exact ⟨k, fun _ => h1⟩
      · exact ⟨false, fun h => absurd h hi⟩
    obtain ⟨f, hf⟩ := Classical.axiomOfChoice hex
    have hlen : ((List.range len).map f).length = len := by simp
    have hcell : ∀ i, i < len → w.cell? (a.add i) = some (.bool (f i)) := fun i hi => by
      have h1 := hf i hi
      unfold World.cells? at h1
      split at h1
      · obtain ⟨u, hu, hw⟩ := Lib.mapM_at h1 0 0 (by simp)
        have he : (a.add (i * 1)).add 0 = a.add i := by simp [Addr.add]
        rw [he] at hw
        simp only [List.getElem?_cons_zero, Option.some.injEq] at hu
        rw [hw, hu]
      · cases h1
    refine ⟨(List.range len).map f, ?_, by rw [hlen]; unfold maxLen at *; omega⟩
    by_cases hz : len = 0
    · subst hz
      exact Or.inl ⟨rfl, some a, cap, h0⟩
    · obtain ⟨b, o, spot⟩ := a
      have hspot : spot = none := by simpa [Addr.add] using World.cell?_spot (hcell 0 (by omega))
      subst hspot
      refine Or.inr ⟨b, o, cap, by rw [hlen]; exact h0, ?_, fun i hi => ?_⟩
      · have := hcell 0 (by omega)
        rw [Addr.add_mid] at this
        exact World.block_lt_of_cell? w ⟨b, o + 0, none⟩ this
      · rw [hlen] at hi
        have := hcell i hi
        rw [Addr.add_mid] at this
        rw [this]
        simp

set_option maxRecDepth 100000 in
theorem summed_lifted (os : Os) (started : os.Started) (H : Type) (enc : TypeId × Value → H) :
    ReturnsInHanded {} Try.checked os 5 .any (Rows.summedSpec.pre6 enc Try.prog Try.f5 Rows.summedRow.domain false) (Rows.summedSpec.post enc Try.prog Try.f5 false true false false) := by
  refine returnsInHanded_of_change (C := Try.checked) ownX started (by kernel_rfl) Try.func5
    (ChangeSpec.witness6 (enc := enc) (C := Try.checked) false ⟨#[], #[.slice none 0 0, .slice none 0 0], []⟩ 8 (by kernel_rfl) (by kernel_rfl) (by kernel_rfl) (by kernel_rfl)) ?_
  intro W base args ds gs before hval0 hW _ _
  have hval : ∀ (j : Nat) t v, Try.f5.params[j]? = some t → args[j]? = some v → Value.okWide Try.prog W .any base t v := hval0
  have hW' := hW
  obtain ⟨p, q, hA0, hV, rfl, hfz, hnd⟩ := hW
  have hA : DataW.TrodAll enc Try.prog W 0 (fun _ => true) true Try.f5.params.toList args.toList ds p := hA0
  rw [Try.params5] at hA hval
  obtain ⟨v0, vs0, d0, ds0, p0, q0, hargs, rfl, rfl, h0, r0⟩ := trodAll_cons hA
  obtain ⟨v1, vs1, d1, ds1, p1, q1, rfl, rfl, rfl, h1, r1⟩ := trodAll_cons r0
  obtain ⟨rfl, rfl, rfl⟩ := trodAll_nil r1
  obtain rfl : args = #[v0, v1] := by cases args; simp_all
  obtain ⟨rfl, rfl⟩ := trodVars_none hV
  obtain ⟨fuel, hf⟩ := id h0
  obtain ⟨fuel1, hf1⟩ := id h1
  obtain ⟨a0, len, cap, rfl⟩ := okWide_slice Try.underlying56 (hval 0 56 v0 rfl rfl)
  obtain ⟨a1, len1, cap1, rfl⟩ := okWide_slice Try.underlying57 (hval 1 57 v1 rfl rfl)
  obtain ⟨ls, hs, hl, hm⟩ := ints_of_trod2 (by simpa [Value.cells] using hf)
  obtain ⟨ls1, hs1, _⟩ := bools_of_trod (by simpa [Value.cells] using hf1)
  clear hA0 hval0 hf hf1
  have hlt : ∀ x ∈ p0, x.block < W.heap.size := fun x hx => hW'.lt x (by simp [hx])
  have hlt1 : ∀ x ∈ p1, x.block < W.heap.size := fun x hx => hW'.lt x (by simp [hx])
  refine (summed_walk _ _ ls ls1 W hs hs1 hl hm).mono fun e W' ⟨he, hnx⟩ => ?_
  subst he
  refine ⟨_, rfl, _, _, _, [], p0 ++ (p1 ++ []), [], hW', ?_, ?_, rfl, hnx.frame _, fun h => (by cases h)⟩
  · exact trodAll_cons_mk (shut_bool Try.underlying4 _) trodAll_mk0
  · exact trodAll_cons_mk (Below.trod (by kernel_rfl) (by kernel_rfl) (of_decide_eq_true (by kernel_rfl)) h0 hnx hlt) (trodAll_cons_mk (Below.trod (by kernel_rfl) (by kernel_rfl) (of_decide_eq_true (by kernel_rfl)) h1 hnx hlt1) trodAll_mk0)

theorem summed_said : Rows.SummedSaid :=
  OpenClaim.holds_of_wide 5 Try.f5 rfl rfl rfl rfl rfl rfl rfl ⟨rfl, rfl, rfl, rfl, rfl⟩ rfl rfl rfl rfl rfl (by kernel_rfl) Try.func5 (by kernel_rfl)
    (of_decide_eq_true (by kernel_rfl)) (by unfold Func.isWrapper; first | (rw [if_pos (by decide +kernel)]; kernel_rfl) | (rw [if_neg (by decide +kernel)]; exact ⟨rfl, rfl⟩))
    (fun os started H enc _ => summed_lifted os started H enc)

end Go.Proofs.Ytfdalbmopaemgab
