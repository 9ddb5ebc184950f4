import Derived.Test.YtfdalbmopaemgaaZX2
import Derived.Test.YtfdalbmopaemgaaZG6
import Derived.Test.YtfdalbmopaemgaaZK9
namespace Go.Proofs.Ytfdalbmopaemgaa
open Go.RowKit

/-! ### The numbers of a store's events are in their bounds -/
theorem wrap32_in (z : Int) : -2147483648 ≤ wrap32 z ∧ wrap32 z ≤ 2147483647 := by unfold wrap32; omega

theorem isL_in {es : List Ev} (h : ∀ e ∈ es, e.Ok) (t x : Int) : -2147483648 ≤ isL es t x ∧ isL es t x ≤ 2147483647 := by
  have main : ∀ k, -2147483648 ≤ isG es t x k ∧ isG es t x k ≤ 2147483647 := by
    intro k
    induction k with
    | zero => unfold isG; omega
    | succ k ih =>
      unfold isG
      cases he : es[k]? with
      | none => exact ih
      | some e =>
        simp only
        by_cases hh : isHit es t x e = true
        · rw [if_pos hh]
          unfold madeBy
          have := h e (List.mem_of_getElem? he)
          by_cases h3 : e.k = 3
          · rw [if_pos h3]; exact ⟨this.v0, this.v1⟩
          · rw [if_neg h3]; exact wrap32_in _
        · rw [if_neg hh]; exact ih
  exact main es.length

theorem ok_snoc {es : List Ev} (h : ∀ e ∈ es, e.Ok) {e : Ev} (he : e.Ok) : ∀ x ∈ es ++ [e], x.Ok := fun x hx => by
  rw [List.mem_append, List.mem_singleton] at hx
  rcases hx with hx | rfl
  · exact h x hx
  · exact he

theorem begin_ok {es : List Ev} (h : ∀ e ∈ es, e.Ok) (up : Nat) (hu : up ≤ 255) : ∀ e ∈ (beginR es (up : Int)).1, e.Ok := by
  unfold beginR
  split
  · exact h
  · split
    · exact h
    · split
      · exact h
      · refine ok_snoc h ?_
        constructor <;> simp only <;> omega

theorem end_ok {es : List Ev} (h : ∀ e ∈ es, e.Ok) (k : Int) (hk : k = 5 ∨ k = 6) (t : Nat) (ht : t ≤ 255) : ∀ e ∈ (endR es k (t : Int)).1, e.Ok := by
  unfold endR
  split
  · exact h
  · split
    · exact h
    · split
      · exact h
      · refine ok_snoc h ?_
        constructor <;> simp only <;> omega

theorem access_ok {es : List Ev} (h : ∀ e ∈ es, e.Ok) (k : Int) (hk : k = 2 ∨ k = 3 ∨ k = 4) (t x : Nat) (v : Int) (ht : t ≤ 255) (hx : x ≤ 255) (h0 : -2147483648 ≤ v) (h1 : v ≤ 2147483647) : ∀ e ∈ (accessR es k (t : Int) (x : Int) v).1, e.Ok := by
  have hi := isL_in h (t : Int) (x : Int)
  unfold accessR
  split
  · exact h
  · split
    · exact h
    · split
      · exact h
      · split
        · exact h
        · refine ok_snoc h ?_
          unfold accEv
          constructor <;> simp only
          all_goals first | omega | (split <;> omega)

theorem actR_ok {es : List Ev} (h : ∀ e ∈ es, e.Ok) (d : StD) (hd : d.Ok) : ∀ e ∈ actR es d, e.Ok := by
  unfold actR
  split
  · exact begin_ok h d.t hd.t
  · split
    · exact access_ok h 2 (by omega) d.t d.x 0 hd.t hd.x (by omega) (by omega)
    · split
      · exact access_ok h 3 (by omega) d.t d.x d.v hd.t hd.x hd.v0 hd.v1
      · split
        · exact access_ok h 4 (by omega) d.t d.x d.v hd.t hd.x hd.v0 hd.v1
        · split
          · exact end_ok h 5 (by omega) d.t hd.t
          · split
            · exact end_ok h 6 (by omega) d.t hd.t
            · exact h

theorem actsR_ok : ∀ (ds : List StD) (es : List Ev), (∀ e ∈ es, e.Ok) → (∀ d ∈ ds, d.Ok) → ∀ e ∈ actsR es ds, e.Ok
  | [], es, h, _ => h
  | d :: ds, es, h, hd => by
    show ∀ e ∈ actsR (actR es d) ds, e.Ok
    exact actsR_ok ds _ (actR_ok h d (hd d (List.mem_cons_self ..))) (fun x hx => hd x (List.mem_cons_of_mem _ hx))

theorem StC.len {w : World} {b : Nat} {es : List Ev} (h : StC w b es) : es.length ≤ 60 := by
  obtain ⟨_, _, _, _, _, h⟩ := h
  exact h

theorem StC.rinv {w : World} {b : Nat} {es : List Ev} (h : StC w b es) : ∃ T W, RInv es T W := by
  obtain ⟨T, W, _, q, _, _⟩ := h
  exact ⟨T, W, q.r⟩

/-! ### Serial -/
set_option maxRecDepth 100000 in
set_option maxHeartbeats 4000000 in
theorem serial_walk (v : Value) (ds : List StD) (w : World) (hs : SlSt w w.heap.size v ds) (hok : ∀ d ∈ ds, d.Ok) (hmax : ds.length ≤ 9223372036854775807) :
    Calls Try.prog 5 #[v] w fun r w' => r = .returned (.bool true) ∧ Below w.heap.size w w' := by
  have heq := Try.eqVals
  obtain ⟨a, c, rfl⟩ := hs.form
  have HS := hidIt hs
  have HOK := hidIt hok
  have HEO : Hid (∀ e ∈ actsR [] ds, e.Ok) := actsR_ok ds [] (fun e he => (by cases he)) hok
  clear hs hok
  go_enter Try.func5, Try.ntmps5
  go_wp2_with fail
  refine (known_any _).mono ?_
  rintro r w1 ⟨rfl, hb1⟩
  go_wp2_with fail
  refine (new_any w1).mono ?_
  rintro r w2 ⟨rfl, h2, hb2⟩
  have HB2 : Hid (Below w.heap.size w w2) := hb1.trans (hb2.mono hb1.size)
  have HA := hidIt (acts_any w1.heap.size w.heap.size (.slice a ds.length c) ds.length ds [] w2 h2 (HS.out.stay HB2.out.size (fun k hk _ => HB2.out.block k hk)) hb1.size HOK.out hmax)
  rw [List.take_of_length_le (Nat.le_refl _)] at HA
  have hsz1 := hb1.size
  clear h2 hb1 hb2
  go_wp2_with fail
  refine HA.out.mono ?_
  rintro r w3 ⟨rfl, h3⟩
  have HB3 : Hid (Below w.heap.size w w3) := h3.2.low HB2.out hsz1 HB2.out.size
  have HST := hidIt h3.1
  clear h3
  obtain ⟨T, W, hr⟩ := HST.out.rinv
  obtain ⟨hck, V, hrp, hV⟩ := hr.serial
  have HCK := hidIt hck
  have HRP := hidIt hrp
  have HVV := hidIt hV
  have HLEN := hidIt HST.out.len
  clear hr hck hrp hV
  generalize actsR [] ds = es at HST HCK HRP HVV HLEN HEO
  go_wp2_with fail
  refine (ghistory w1.heap.size es w3 HST.out).mono ?_
  rintro r w4 ⟨hv, rfl, ho, hb4⟩
  obtain ⟨ha, hc, rfl⟩ := ho.form
  have HOW := hidIt ho
  have HST4 := hidIt (HST.out.of_heap (hb4.block _ HST.out.lt) hb4.size)
  have HB4 : Hid (Below w.heap.size w w4) := HB3.out.trans (hb4.mono HB3.out.size)
  clear ho hb4
  go_wp2_with fail
  refine (gvalues w1.heap.size es w4 HST4.out).mono ?_
  rintro r w5 ⟨rfl, hb5⟩
  have hba : Below w5.heap.size w5 (w5.alloc (.cells #[.int .i32 (isL es 0 0), .int .i32 (isL es 0 1), .int .i32 (isL es 0 2), .int .i32 (isL es 0 3)] 26)) := (Below.refl _ _).alloc (Nat.le_refl _) _
  have HB5 : Hid (Below w.heap.size w (w5.alloc (.cells #[.int .i32 (isL es 0 0), .int .i32 (isL es 0 1), .int .i32 (isL es 0 2), .int .i32 (isL es 0 3)] 26))) := (HB4.out.trans (hb5.mono HB4.out.size)).trans (hba.mono (HB4.out.trans (hb5.mono HB4.out.size)).size)
  have HOW5 := hidIt ((HOW.out.below hb5).below hba)
  clear hb5 hba HOW
  go_wp2_with fail
  refine (check_all (.slice ha es.length hc) es _ HOW5.out.slEv HEO.out (by have := HLEN.out; omega)).mono ?_
  rintro r w6 ⟨rfl, hb6⟩
  rw [HCK.out]
  have HOW6 := hidIt (HOW5.out.below hb6)
  have HB6 : Hid (Below w.heap.size w w6) := HB5.out.trans (hb6.mono HB5.out.size)
  have HRC : Hid (Calls Try.prog 7 #[.slice ha es.length hc] w6 fun r w' => r = .returned (.tuple #[.int .i64 (-1), .agg #[.int .i32 (isL es 0 0), .int .i32 (isL es 0 1), .int .i32 (isL es 0 2), .int .i32 (isL es 0 3)], .int .i64 0]) ∧ Below w6.heap.size w6 w') := by
    have := replay_all (.slice ha es.length hc) es w6 HOW6.out.slEv HEO.out (by have := HLEN.out; omega)
    unfold RePost at this
    rw [HRP.out] at this
    simp only at this
    unfold valsV at this
    rw [HVV.out 0, HVV.out 1, HVV.out 2, HVV.out 3] at this
    exact this
  have hsz5 : w5.heap.size < w6.heap.size := by have := hb6.size; simp at this; omega
  have v0 : w6.cell? ⟨w5.heap.size, 0, none⟩ = some (.int .i32 (isL es 0 0)) := by rw [World.cell?_of_block (a := ⟨w5.heap.size, 0, none⟩) (hb6.block _ (by simp))]; simp [go_sem]
  have v1 : w6.cell? ⟨w5.heap.size, 1, none⟩ = some (.int .i32 (isL es 0 1)) := by rw [World.cell?_of_block (a := ⟨w5.heap.size, 1, none⟩) (hb6.block _ (by simp))]; simp [go_sem]
  have v2 : w6.cell? ⟨w5.heap.size, 2, none⟩ = some (.int .i32 (isL es 0 2)) := by rw [World.cell?_of_block (a := ⟨w5.heap.size, 2, none⟩) (hb6.block _ (by simp))]; simp [go_sem]
  have v3 : w6.cell? ⟨w5.heap.size, 3, none⟩ = some (.int .i32 (isL es 0 3)) := by rw [World.cell?_of_block (a := ⟨w5.heap.size, 3, none⟩) (hb6.block _ (by simp))]; simp [go_sem]
  clear hb6
  go_wp2_with fail
  refine HRC.out.mono ?_
  rintro r w7 ⟨rfl, hb7⟩
  rw [← World.cell?_of_block (w' := w7) (a := ⟨w5.heap.size, 0, none⟩) (hb7.block _ hsz5)] at v0
  rw [← World.cell?_of_block (w' := w7) (a := ⟨w5.heap.size, 1, none⟩) (hb7.block _ hsz5)] at v1
  rw [← World.cell?_of_block (w' := w7) (a := ⟨w5.heap.size, 2, none⟩) (hb7.block _ hsz5)] at v2
  rw [← World.cell?_of_block (w' := w7) (a := ⟨w5.heap.size, 3, none⟩) (hb7.block _ hsz5)] at v3
  have hsz7 : w5.heap.size < w7.heap.size := Nat.lt_of_lt_of_le hsz5 hb7.size
  have HB7 : Hid (Below w.heap.size w w7) := HB6.out.trans (hb7.mono HB6.out.size)
  have HB8 : Hid (∀ c, Below w.heap.size w (w7.alloc c)) := fun c => HB7.out.trans ((Below.refl _ _).alloc HB7.out.size c)
  clear hb7 HRC HVV HRP HCK
  generalize isL es 0 0 = i0 at v0
  generalize isL es 0 1 = i1 at v1
  generalize isL es 0 2 = i2 at v2
  generalize isL es 0 3 = i3 at v3
  go_wp2_with fail
  go_ret
  exact ⟨ret_bool (by simp), HB8.out _⟩

end Go.Proofs.Ytfdalbmopaemgaa
