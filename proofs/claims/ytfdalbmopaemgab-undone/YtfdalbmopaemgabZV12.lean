import Derived.Test.YtfdalbmopaemgabZV11
namespace Go.Proofs.Ytfdalbmopaemgab
open Go.RowKit

/-! ### The store as the document's reader calls it -/
theorem StP.go {w w' w'' : World} {b : Nat} {es : List Ev} (h : FrB w w' b) (h' : StP w' b es w'') : StP w b es w'' := ⟨h'.1, h.trans h'.2⟩

set_option maxHeartbeats 1000000 in
theorem gbegin (b p : Nat) (es : List Ev) (w : World) (h : StC w b es) (hp : p ≤ 255) :
    Calls Try.prog 18 #[.pointer (some ⟨b, 0, none⟩), .int .u8 (p : Int)] w fun r w' => r = .returned (.tuple #[.int .u8 (beginR es (p : Int)).2.1, .int .i64 (beginR es (p : Int)).2.2]) ∧ StP w b (beginR es (p : Int)).1 w' := by
  have HC := hidIt (sbegin_any b p es w h hp)
  clear h
  generalize beginR es (p : Int) = x at HC ⊢
  go_enter Try.func18, Try.ntmps18
  go_wp2_with fail
  refine HC.out.mono ?_
  rintro r w1 ⟨rfl, hst⟩
  go_wp2_with fail
  go_ret2
  exact ⟨rfl, hst⟩

set_option maxHeartbeats 1000000 in
theorem gread (b t x : Nat) (es : List Ev) (w : World) (h : StC w b es) (ht : t ≤ 255) (hx : x ≤ 255) :
    Calls Try.prog 13 #[.pointer (some ⟨b, 0, none⟩), .int .u8 (t : Int), .int .u8 (x : Int)] w fun r w' => r = .returned (.tuple #[.int .i32 (accessR es 2 (t : Int) (x : Int) 0).2.1, .int .i64 (accessR es 2 (t : Int) (x : Int) 0).2.2]) ∧ StP w b (accessR es 2 (t : Int) (x : Int) 0).1 w' := by
  have HC := hidIt (sread_any b t x es w h ht hx)
  clear h
  generalize accessR es 2 (t : Int) (x : Int) 0 = y at HC ⊢
  go_enter Try.func13, Try.ntmps13
  go_wp2_with fail
  refine HC.out.mono ?_
  rintro r w1 ⟨rfl, hst⟩
  go_wp2_with fail
  go_ret2
  exact ⟨rfl, hst⟩

set_option maxHeartbeats 1000000 in
theorem gwrite (b t x : Nat) (v : Int) (es : List Ev) (w : World) (h : StC w b es) (ht : t ≤ 255) (hx : x ≤ 255) :
    Calls Try.prog 14 #[.pointer (some ⟨b, 0, none⟩), .int .u8 (t : Int), .int .u8 (x : Int), .int .i32 v] w fun r w' => r = .returned (.int .i64 (accessR es 3 (t : Int) (x : Int) v).2.2) ∧ StP w b (accessR es 3 (t : Int) (x : Int) v).1 w' := by
  have HC := hidIt (swrite_any b t x v es w h ht hx)
  clear h
  generalize accessR es 3 (t : Int) (x : Int) v = y at HC ⊢
  go_enter Try.func14, Try.ntmps14
  go_wp2_with fail
  refine HC.out.mono ?_
  rintro r w1 ⟨rfl, hst⟩
  go_wp2_with fail
  go_ret
  exact ⟨rfl, hst⟩

set_option maxHeartbeats 1000000 in
theorem gadd (b t x : Nat) (v : Int) (es : List Ev) (w : World) (h : StC w b es) (ht : t ≤ 255) (hx : x ≤ 255) :
    Calls Try.prog 15 #[.pointer (some ⟨b, 0, none⟩), .int .u8 (t : Int), .int .u8 (x : Int), .int .i32 v] w fun r w' => r = .returned (.tuple #[.int .i32 (accessR es 4 (t : Int) (x : Int) v).2.1, .int .i64 (accessR es 4 (t : Int) (x : Int) v).2.2]) ∧ StP w b (accessR es 4 (t : Int) (x : Int) v).1 w' := by
  have HC := hidIt (sadd_any b t x v es w h ht hx)
  clear h
  generalize accessR es 4 (t : Int) (x : Int) v = y at HC ⊢
  go_enter Try.func15, Try.ntmps15
  go_wp2_with fail
  refine HC.out.mono ?_
  rintro r w1 ⟨rfl, hst⟩
  go_wp2_with fail
  go_ret2
  exact ⟨rfl, hst⟩

set_option maxHeartbeats 1000000 in
theorem gcommit (b t : Nat) (es : List Ev) (w : World) (h : StC w b es) (ht : t ≤ 255) :
    Calls Try.prog 16 #[.pointer (some ⟨b, 0, none⟩), .int .u8 (t : Int)] w fun r w' => r = .returned (.int .i64 (endR es 5 (t : Int)).2) ∧ StP w b (endR es 5 (t : Int)).1 w' := by
  have HC := hidIt (scommit_any b t es w h ht)
  clear h
  generalize endR es 5 (t : Int) = y at HC ⊢
  go_enter Try.func16, Try.ntmps16
  go_wp2_with fail
  refine HC.out.mono ?_
  rintro r w1 ⟨rfl, hst⟩
  go_wp2_with fail
  go_ret
  exact ⟨rfl, hst⟩

set_option maxHeartbeats 1000000 in
theorem gabort (b t : Nat) (es : List Ev) (w : World) (h : StC w b es) (ht : t ≤ 255) :
    Calls Try.prog 17 #[.pointer (some ⟨b, 0, none⟩), .int .u8 (t : Int)] w fun r w' => r = .returned (.int .i64 (endR es 6 (t : Int)).2) ∧ StP w b (endR es 6 (t : Int)).1 w' := by
  have HC := hidIt (sabort_any b t es w h ht)
  clear h
  generalize endR es 6 (t : Int) = y at HC ⊢
  go_enter Try.func17, Try.ntmps17
  go_wp2_with fail
  refine HC.out.mono ?_
  rintro r w1 ⟨rfl, hst⟩
  go_wp2_with fail
  go_ret
  exact ⟨rfl, hst⟩

set_option maxHeartbeats 1000000 in
theorem gholders (b x : Nat) (es : List Ev) (w : World) (h : StC w b es) (hx : x ≤ 255) :
    Calls Try.prog 22 #[.pointer (some ⟨b, 0, none⟩), .int .u8 (x : Int)] w fun r w' => r = .returned (.tuple #[.int .u16 ((holdA es (x : Int)).1 : Int), .int .u16 ((holdA es (x : Int)).2.1 : Int), .int .i64 (holdA es (x : Int)).2.2]) ∧ ∃ n, w' = w.drewN n := by
  have HC := hidIt (sholders_any b x es w h hx)
  clear h
  generalize holdA es (x : Int) = y at HC ⊢
  go_enter Try.func22, Try.ntmps22
  go_wp2_with fail
  refine HC.out.mono ?_
  rintro r w1 ⟨rfl, hst⟩
  go_wp2_with fail
  go_ret3
  exact ⟨rfl, hst⟩

set_option maxHeartbeats 1000000 in
theorem gvalues (b : Nat) (es : List Ev) (w : World) (h : StC w b es) :
    Calls Try.prog 23 #[.pointer (some ⟨b, 0, none⟩)] w fun r w' => r = .returned (valsV fun i => isL es 0 (i : Int)) ∧ Below w.heap.size w w' := by
  have hb0 : Below w.heap.size w (w.alloc (.cells #[.int .i32 0, .int .i32 0, .int .i32 0, .int .i32 0] 53)) := (Below.refl _ _).alloc (Nat.le_refl _) _
  have HC := hidIt (svalues_any b es (w.alloc (.cells #[.int .i32 0, .int .i32 0, .int .i32 0, .int .i32 0] 53)) (h.of_heap (hb0.block b h.lt) hb0.size))
  have HV := hidIt (vat_new w 53)
  clear h
  go_enter Try.func23, Try.ntmps23
  go_wp2_with fail
  refine HC.out.mono ?_
  rintro r w1 ⟨rfl, hb1⟩
  have hvr := HV.out.below hb1
  have q0 := hvr.cell 0 (by omega)
  have q1 := hvr.cell 1 (by omega)
  have q2 := hvr.cell 2 (by omega)
  have q3 := hvr.cell 3 (by omega)
  have f0 := hvr.fz
  have HB : Hid (Below w.heap.size w w1) := hb0.trans (hb1.mono (by simp))
  clear hvr hb1
  go_wp2_with fail
  exact bodyPost_ret (v := valsV fun i => isL es 0 (i : Int)) (by simp [results, Try.results23, go_sem, q0, q1, q2, q3]) rfl ⟨rfl, set4_below HB.out _ (Nat.le_refl _) _ _ _ _⟩

set_option maxHeartbeats 1000000 in
theorem ghistory (b : Nat) (es : List Ev) (w : World) (h : StC w b es) :
    Calls Try.prog 11 #[.pointer (some ⟨b, 0, none⟩)] w fun r w' => ∃ v, r = .returned v ∧ Own w' w.heap.size v es ∧ Below w.heap.size w w' := by
  have HC := hidIt (shistory_any b es w h)
  clear h
  go_enter Try.func11, Try.ntmps11
  go_wp2_with fail
  refine HC.out.mono ?_
  rintro r w1 ⟨v, rfl, h1, h2⟩
  obtain ⟨a, c, rfl⟩ := h1.form
  go_wp2_with fail
  go_ret
  exact ⟨_, rfl, h1, h2⟩

end Go.Proofs.Ytfdalbmopaemgab
