import Derived.Test.YtfdalbmopaemgaaGreatDoorZV11
import Derived.Test.YtfdalbmopaemgaaGreatDoorZU8
import Derived.Test.YtfdalbmopaemgaaGreatDoorZT1
import Derived.Test.YtfdalbmopaemgaaGreatDoorRows
import Derived.Test.YtfdalbmopaemgaaGreatDoorZW3
import Derived.ProofKit
import Derived.LaidMore
import Derived.OpenShut
import Derived.Stop.Joined
import Derived.Lib.LaidTab
import Derived.Test.YtfdalbmopaemgaaGreatDoorZSame
import Derived.Deep.Slices
namespace Go.Proofs.YtfdalbmopaemgaaGreatDoor
open Go.RowKit

/-! ### The store as the document's reader calls it -/
theorem StP.go {w w' w'' : World} {b : Nat} {es : List Ev} (h : FrB w w' b) (h' : StP w' b es w'') : StP w b es w'' := ⟨h'.1, h.trans h'.2⟩

set_option maxHeartbeats 1000000 in
theorem gbegin (b p : Nat) (es : List Ev) (w : World) (h : StC w b es) (hp : p ≤ 255) :
    Calls Tryz.prog 40 #[.pointer (some ⟨b, 0, none⟩), .int .u8 (p : Int)] w fun r w' => r = .returned (.tuple #[.int .u8 (beginR es (p : Int)).2.1, .int .i64 (beginR es (p : Int)).2.2]) ∧ StP w b (beginR es (p : Int)).1 w' := by
  have HC := hidIt (sbegin_any b p es w h hp)
  clear h
  generalize beginR es (p : Int) = x at HC ⊢
  go_enter Tryz.func40, Tryz.ntmps40
  go_wp2_with fail
  refine HC.out.mono ?_
  rintro r w1 ⟨rfl, hst⟩
  go_wp2_with fail
  go_ret2
  exact ⟨rfl, hst⟩

set_option maxHeartbeats 1000000 in
theorem gread (b t x : Nat) (es : List Ev) (w : World) (h : StC w b es) (ht : t ≤ 255) (hx : x ≤ 255) :
    Calls Tryz.prog 42 #[.pointer (some ⟨b, 0, none⟩), .int .u8 (t : Int), .int .u8 (x : Int)] w fun r w' => r = .returned (.tuple #[.int .i32 (accessR es 2 (t : Int) (x : Int) 0).2.1, .int .i64 (accessR es 2 (t : Int) (x : Int) 0).2.2]) ∧ StP w b (accessR es 2 (t : Int) (x : Int) 0).1 w' := by
  have HC := hidIt (sread_any b t x es w h ht hx)
  clear h
  generalize accessR es 2 (t : Int) (x : Int) 0 = y at HC ⊢
  go_enter Tryz.func42, Tryz.ntmps42
  go_wp2_with fail
  refine HC.out.mono ?_
  rintro r w1 ⟨rfl, hst⟩
  go_wp2_with fail
  go_ret2
  exact ⟨rfl, hst⟩

set_option maxHeartbeats 1000000 in
theorem gwrite (b t x : Nat) (v : Int) (es : List Ev) (w : World) (h : StC w b es) (ht : t ≤ 255) (hx : x ≤ 255) :
    Calls Tryz.prog 44 #[.pointer (some ⟨b, 0, none⟩), .int .u8 (t : Int), .int .u8 (x : Int), .int .i32 v] w fun r w' => r = .returned (.int .i64 (accessR es 3 (t : Int) (x : Int) v).2.2) ∧ StP w b (accessR es 3 (t : Int) (x : Int) v).1 w' := by
  have HC := hidIt (swrite_any b t x v es w h ht hx)
  clear h
  generalize accessR es 3 (t : Int) (x : Int) v = y at HC ⊢
  go_enter Tryz.func44, Tryz.ntmps44
  go_wp2_with fail
  refine HC.out.mono ?_
  rintro r w1 ⟨rfl, hst⟩
  go_wp2_with fail
  go_ret
  exact ⟨rfl, hst⟩

set_option maxHeartbeats 1000000 in
theorem gadd (b t x : Nat) (v : Int) (es : List Ev) (w : World) (h : StC w b es) (ht : t ≤ 255) (hx : x ≤ 255) :
    Calls Tryz.prog 45 #[.pointer (some ⟨b, 0, none⟩), .int .u8 (t : Int), .int .u8 (x : Int), .int .i32 v] w fun r w' => r = .returned (.tuple #[.int .i32 (accessR es 4 (t : Int) (x : Int) v).2.1, .int .i64 (accessR es 4 (t : Int) (x : Int) v).2.2]) ∧ StP w b (accessR es 4 (t : Int) (x : Int) v).1 w' := by
  have HC := hidIt (sadd_any b t x v es w h ht hx)
  clear h
  generalize accessR es 4 (t : Int) (x : Int) v = y at HC ⊢
  go_enter Tryz.func45, Tryz.ntmps45
  go_wp2_with fail
  refine HC.out.mono ?_
  rintro r w1 ⟨rfl, hst⟩
  go_wp2_with fail
  go_ret2
  exact ⟨rfl, hst⟩

set_option maxHeartbeats 1000000 in
theorem gcommit (b t : Nat) (es : List Ev) (w : World) (h : StC w b es) (ht : t ≤ 255) :
    Calls Tryz.prog 46 #[.pointer (some ⟨b, 0, none⟩), .int .u8 (t : Int)] w fun r w' => r = .returned (.int .i64 (endR es 5 (t : Int)).2) ∧ StP w b (endR es 5 (t : Int)).1 w' := by
  have HC := hidIt (scommit_any b t es w h ht)
  clear h
  generalize endR es 5 (t : Int) = y at HC ⊢
  go_enter Tryz.func46, Tryz.ntmps46
  go_wp2_with fail
  refine HC.out.mono ?_
  rintro r w1 ⟨rfl, hst⟩
  go_wp2_with fail
  go_ret
  exact ⟨rfl, hst⟩

set_option maxHeartbeats 1000000 in
theorem gabort (b t : Nat) (es : List Ev) (w : World) (h : StC w b es) (ht : t ≤ 255) :
    Calls Tryz.prog 48 #[.pointer (some ⟨b, 0, none⟩), .int .u8 (t : Int)] w fun r w' => r = .returned (.int .i64 (endR es 6 (t : Int)).2) ∧ StP w b (endR es 6 (t : Int)).1 w' := by
  have HC := hidIt (sabort_any b t es w h ht)
  clear h
  generalize endR es 6 (t : Int) = y at HC ⊢
  go_enter Tryz.func48, Tryz.ntmps48
  go_wp2_with fail
  refine HC.out.mono ?_
  rintro r w1 ⟨rfl, hst⟩
  go_wp2_with fail
  go_ret
  exact ⟨rfl, hst⟩

set_option maxHeartbeats 1000000 in
theorem gholders (b x : Nat) (es : List Ev) (w : World) (h : StC w b es) (hx : x ≤ 255) :
    Calls Tryz.prog 35 #[.pointer (some ⟨b, 0, none⟩), .int .u8 (x : Int)] w fun r w' => r = .returned (.tuple #[.int .u16 ((holdA es (x : Int)).1 : Int), .int .u16 ((holdA es (x : Int)).2.1 : Int), .int .i64 (holdA es (x : Int)).2.2]) ∧ ∃ n, w' = w.drewN n := by
  have HC := hidIt (sholders_any b x es w h hx)
  clear h
  generalize holdA es (x : Int) = y at HC ⊢
  go_enter Tryz.func35, Tryz.ntmps35
  go_wp2_with fail
  refine HC.out.mono ?_
  rintro r w1 ⟨rfl, hst⟩
  go_wp2_with fail
  go_ret3
  exact ⟨rfl, hst⟩

set_option maxHeartbeats 1000000 in
theorem gvalues (b : Nat) (es : List Ev) (w : World) (h : StC w b es) :
    Calls Tryz.prog 37 #[.pointer (some ⟨b, 0, none⟩)] w fun r w' => r = .returned (valsV fun i => isL es 0 (i : Int)) ∧ Below w.heap.size w w' := by
  have hb0 : Below w.heap.size w (w.alloc (.cells #[.int .i32 0, .int .i32 0, .int .i32 0, .int .i32 0] 58)) := (Below.refl _ _).alloc (Nat.le_refl _) _
  have HC := hidIt (svalues_any b es (w.alloc (.cells #[.int .i32 0, .int .i32 0, .int .i32 0, .int .i32 0] 58)) (h.of_heap (hb0.block b h.lt) hb0.size))
  have HV := hidIt (vat_new w 58)
  clear h
  go_enter Tryz.func37, Tryz.ntmps37
  go_wp2_with fail
  refine HC.out.mono ?_
  rintro r w1 ⟨rfl, hb1⟩
  have hvr := HV.out.below hb1
  have q0 := hvr.cell 0 (by omega)
  have q1 := hvr.cell 1 (by omega)
  have q2 := hvr.cell 2 (by omega)
  have q3 := hvr.cell 3 (by omega)
  have f0 := hvr.fz
  have HB : Hid (Below w.heap.size w w1) := hb0.trans (hb1.mono (by simp))
  clear hvr hb1
  go_wp2_with fail
  exact bodyPost_ret (v := valsV fun i => isL es 0 (i : Int)) (by simp [results, Tryz.results37, go_sem, q0, q1, q2, q3]) rfl ⟨rfl, set4_below HB.out _ (Nat.le_refl _) _ _ _ _⟩

set_option maxHeartbeats 1000000 in
theorem ghistory (b : Nat) (es : List Ev) (w : World) (h : StC w b es) :
    Calls Tryz.prog 39 #[.pointer (some ⟨b, 0, none⟩)] w fun r w' => ∃ v, r = .returned v ∧ Own w' w.heap.size v es ∧ Below w.heap.size w w' := by
  have HC := hidIt (shistory_any b es w h)
  clear h
  go_enter Tryz.func39, Tryz.ntmps39
  go_wp2_with fail
  refine HC.out.mono ?_
  rintro r w1 ⟨v, rfl, h1, h2⟩
  obtain ⟨a, c, rfl⟩ := h1.form
  go_wp2_with fail
  go_ret
  exact ⟨_, rfl, h1, h2⟩

end Go.Proofs.YtfdalbmopaemgaaGreatDoor

namespace Go.Proofs.YtfdalbmopaemgaaGreatDoor
open Go.RowKit

/-! ### The landed store does as is asked -/
def StX (w : World) (F : Nat → Prop) (p : Value) (es : List Ev) : Prop := ∃ b, p = .pointer (some ⟨b, 0, none⟩) ∧ (∀ k, F k ↔ k = b) ∧ StC w b es

theorem StX.act {w w' : World} {F : Nat → Prop} {b : Nat} {es' : List Ev} (hF : ∀ k, F k ↔ k = b) (h : StP w b es' w') : ActP StX w F (.pointer (some ⟨b, 0, none⟩)) es' w' :=
  ⟨F, ⟨b, rfl, hF, h.1⟩, fun k hk hf => h.2.rest k hk (fun e => hf ((hF k).2 e)), fun _ hk => Or.inl hk, h.2.below⟩

theorem StX.ok : StOk StX where
  form := fun ⟨b, hp, _, _⟩ => ⟨b, hp⟩
  frame := fun w' ⟨b, hp, hF, h⟩ hh hz => ⟨b, hp, hF, h.of_heap (hh b ((hF b).2 rfl)) hz⟩
  lt := fun ⟨_, _, hF, h⟩ k hk => by rw [(hF k).1 hk]; exact h.lt
  low := fun ⟨_, _, _, h⟩ => by obtain ⟨_, _, _, q, _, _⟩ := h; exact low15 q.r.s.jj
  len := fun ⟨_, _, _, h⟩ => by obtain ⟨_, _, _, _, _, h⟩ := h; exact h
  begin_ := fun up hu ⟨b, hp, hF, h⟩ => by subst hp; exact (gbegin b up _ _ h hu).mono fun r w' ⟨h1, h2⟩ => ⟨h1, StX.act hF h2⟩
  read := fun t x ht hx ⟨b, hp, hF, h⟩ => by subst hp; exact (gread b t x _ _ h ht hx).mono fun r w' ⟨h1, h2⟩ => ⟨h1, StX.act hF h2⟩
  write := fun t x v ht hx _ _ ⟨b, hp, hF, h⟩ => by subst hp; exact (gwrite b t x v _ _ h ht hx).mono fun r w' ⟨h1, h2⟩ => ⟨h1, StX.act hF h2⟩
  add := fun t x v ht hx _ _ ⟨b, hp, hF, h⟩ => by subst hp; exact (gadd b t x v _ _ h ht hx).mono fun r w' ⟨h1, h2⟩ => ⟨h1, StX.act hF h2⟩
  commit := fun t ht ⟨b, hp, hF, h⟩ => by subst hp; exact (gcommit b t _ _ h ht).mono fun r w' ⟨h1, h2⟩ => ⟨h1, StX.act hF h2⟩
  abort := fun t ht ⟨b, hp, hF, h⟩ => by subst hp; exact (gabort b t _ _ h ht).mono fun r w' ⟨h1, h2⟩ => ⟨h1, StX.act hF h2⟩

theorem StX.ask : StAsk StX where
  holders := fun {w} {F} {p} {es} x hx ⟨b, hp, hF, h⟩ => by
    subst hp
    refine (gholders b x es w h hx).mono fun r w' ⟨h1, n, h2⟩ => ⟨h1, ?_⟩
    subst h2
    exact StX.act hF ⟨h.drewN n, ⟨below_drewN (Below.refl _ _) n, fun _ _ _ => rfl⟩⟩
  values := fun {w} {F} {p} {es} ⟨b, hp, hF, h⟩ => by
    subst hp
    refine (gvalues b es w h).mono fun r w' ⟨h1, h2⟩ => ⟨h1, ?_⟩
    exact StX.act hF ⟨h.of_heap (h2.block b h.lt) h2.size, FrB.new b h2⟩

theorem StX.new : StNew StX := fun w => (new_any w).mono fun r w' ⟨h1, h2, h3⟩ =>
  ⟨w.heap.size, fun k => k = w.heap.size, h1, ⟨w.heap.size, rfl, fun _ => Iff.rfl, h2⟩, fun k hk => by rw [hk]; exact Nat.le_refl _, h3⟩

theorem StX.hist : StHist StX := fun w F p es ⟨b, hp, hF, h⟩ => by
  subst hp
  refine (ghistory b es w h).mono fun r w' ⟨v, h1, h2, h3⟩ => ⟨v, F, h1, h2, fun g hg hf => ?_, ⟨b, rfl, hF, h.of_heap (h3.block b h.lt) h3.size⟩, fun k hk _ => h3.block k hk, fun _ hk => Or.inl hk, h3.mono (Nat.zero_le _)⟩
  have h4 := (World.ownsRow.lt h2 g hg).1
  rw [(hF g).1 hf] at h4
  have := h.lt
  omega

end Go.Proofs.YtfdalbmopaemgaaGreatDoor

namespace Go.Proofs.YtfdalbmopaemgaaGreatDoor
open Go.RowKit

set_option maxHeartbeats 400000 in
theorem acts_walk (v : Value) (ds : List OpD) (w : World) (hs : SlOp w v ds) (hok : ∀ d ∈ ds, (∃ es, OpOk w w.heap.size d es) ∧ OpB d) (hmax : ds.length ≤ 1048576) (ht : Tab w) :
    Calls Tryz.prog 7 #[v] w fun r w' => r = .returned (.bool true) ∧ Below w.heap.size w w' := by
  have HU : Hid (∀ w', Below w.heap.size w w' → Calls Tryz.prog 9 #[v, .int .i64 5, .int .i64 11] w' fun r w'' => r = .returned (.int .i64 (-1)) ∧ Below w.heap.size w w'') := fun w' hb =>
    (upTo_gall StX.ok 5 11 (by decide) (stepG_high StX.ok StX.ask StX.new StX.hist 5 11 (by decide)) v ds w' (hs.stay hb) (fun d hd => by obtain ⟨⟨es, h1⟩, h2⟩ := hok d hd; exact ⟨⟨es, (h1.stay hb).wide hb.size⟩, h2⟩) hmax (ht.below ht.2 hb)).mono fun r w'' ⟨h1, h2⟩ => ⟨h1, hb.trans (h2.mono hb.size)⟩
  obtain ⟨a, c, rfl⟩ := hs.form
  clear hs hok
  go_enter Tryz.func7, Tryz.ntmps7
  go_wp2_with fail
  refine (made_any StX.ok StX.new w).mono ?_
  rintro r w1 ⟨rfl, hb1⟩
  have HC := hidIt (HU.out w1 hb1)
  clear hb1
  go_wp2_with fail
  refine HC.out.mono ?_
  rintro r w2 ⟨rfl, hb2⟩
  go_wp2_with fail
  go_ret
  exact ⟨rfl, hb2⟩

set_option maxHeartbeats 400000 in
theorem asks_walk (v : Value) (ds : List OpD) (w : World) (hs : SlOp w v ds) (hok : ∀ d ∈ ds, (∃ es, OpOk w w.heap.size d es) ∧ OpB d) (hmax : ds.length ≤ 1048576) (ht : Tab w) :
    Calls Tryz.prog 8 #[v] w fun r w' => r = .returned (.bool true) ∧ Below w.heap.size w w' := by
  have HU : Hid (∀ w', Below w.heap.size w w' → Calls Tryz.prog 9 #[v, .int .i64 12, .int .i64 14] w' fun r w'' => r = .returned (.int .i64 (-1)) ∧ Below w.heap.size w w'') := fun w' hb =>
    (upTo_gall StX.ok 12 14 (by decide) (stepG_high StX.ok StX.ask StX.new StX.hist 12 14 (by decide)) v ds w' (hs.stay hb) (fun d hd => by obtain ⟨⟨es, h1⟩, h2⟩ := hok d hd; exact ⟨⟨es, (h1.stay hb).wide hb.size⟩, h2⟩) hmax (ht.below ht.2 hb)).mono fun r w'' ⟨h1, h2⟩ => ⟨h1, hb.trans (h2.mono hb.size)⟩
  obtain ⟨a, c, rfl⟩ := hs.form
  clear hs hok
  go_enter Tryz.func8, Tryz.ntmps8
  go_wp2_with fail
  refine (made_any StX.ok StX.new w).mono ?_
  rintro r w1 ⟨rfl, hb1⟩
  have HC := hidIt (HU.out w1 hb1)
  clear hb1
  go_wp2_with fail
  refine HC.out.mono ?_
  rintro r w2 ⟨rfl, hb2⟩
  go_wp2_with fail
  go_ret
  exact ⟨rfl, hb2⟩

end Go.Proofs.YtfdalbmopaemgaaGreatDoor

namespace Go.Proofs.YtfdalbmopaemgaaGreatDoor
open Go.ChangeShapes Go.WideShapes Go.ChangeAt Go.WideMaps Go.WideElems Go.RowKit

theorem own : ownKnob Tryz.prog.godebug = none := by kernel_rfl
theorem gPow : Tryz.prog.globalNamed "internal/strconv.uint64pow10" = some 0 := by kernel_rfl
theorem gB32 : Tryz.prog.globalNamed "math/bits.deBruijn32tab" = some 1 := by kernel_rfl
theorem gB64 : Tryz.prog.globalNamed "math/bits.deBruijn64tab" = some 2 := by kernel_rfl
theorem tPow : (Tryz.prog.globals[0]?).map (·.type) = some 162 := by kernel_rfl

/-- What the rows list. -/
def laid3 : List (String × DataW Unit) := [("math/bits.deBruijn32tab", Rows.laid_math_bits_deBruijn32tab), ("math/bits.deBruijn64tab", Rows.laid_math_bits_deBruijn64tab), ("internal/strconv.uint64pow10", Rows.laid_internal_strconv_uint64pow10)]

/-- The door's own heap meets the condition. -/
theorem door_met (os : Os) (args : Array Value) : laidMetH Tryz.prog laid3 ((World.doorLaid Tryz.prog 400 os).forCall (fun _ _ => 0) ⟨#[], args, []⟩).memory :=
  laidMetH_of_parts3 (fuel := 8) (laidMet_of_run' 8 (by kernel_rfl) (by kernel_rfl)) (by kernel_rfl) (by kernel_rfl)

theorem pow_data : (Rows.laid_internal_strconv_uint64pow10 : DataW Unit) = Lib.tabData .u64 Lib.pow10Tab := by kernel_rfl

theorem var_lt {P : Program} {W : World} {name : String} {g : Nat} {cs : Array Value} (hg : P.globalNamed name = some g) (h : W.var? P name = some cs) : g < W.heap.size := by
  unfold World.var? at h
  rw [hg, Option.bind_some] at h
  by_cases hlt : g < W.heap.size
  · exact hlt
  · rw [Array.getElem?_eq_none (by omega)] at h
    cases h

/-- What the condition gives the walks. -/
theorem tab_of_laid {W : World} (h : laidMetH Tryz.prog laid3 W) : Tab W := by
  rw [MakeChecks.laidMetH_plain _ _ _ (by kernel_rfl)] at h
  obtain ⟨ps, ⟨g0, t0, cs0, f0, p0, q0, hg0, ht0, hv0, hd0, ⟨g1, t1, cs1, f1, p1, q1, hg1, ht1, hv1, hd1, ⟨g2, t2, cs2, f2, p2, q2, hg2, ht2, hv2, hd2, _, _⟩, _⟩, _⟩, _, _⟩ := h
  have hlt := var_lt gB64 hv1
  obtain rfl := Option.some.inj (gPow.symm.trans hg2)
  obtain rfl := Option.some.inj (tPow.symm.trans ht2)
  refine ⟨?_, hlt⟩
  unfold Lib.TabIs
  rw [pow_data] at hd2
  rw [hv2, ← Lib.cells_of_tab Tryz.underlying162 Tryz.underlying155 (by kernel_rfl) (by kernel_rfl) hd2]

end Go.Proofs.YtfdalbmopaemgaaGreatDoor

namespace Go.Proofs.YtfdalbmopaemgaaGreatDoor
open Go.ChangeShapes Go.WideShapes Go.ChangeAt Go.WideMaps Go.WideElems Go.RowKit Go.Deep

set_option maxRecDepth 100000 in
/-- What reads as an event holds one. -/
theorem ev_of_trod {H : Type} {enc : TypeId × Value → H} {w : World} {base : Nat} {spare : Nat → Bool} {held : Bool} {fuel : Nat} {cs : List Value} {x : DataW H × List MemPlace}
    (h : DataW.trod enc Tryz.prog w base spare held fuel 41 cs = some x) : ∃ e : Ev, cs = evC e ∧ e.Ok := by
  obtain ⟨xs, n, _, _, hl, hlen, hf⟩ := DataW.trod_struct Tryz.underlying41 h
  have c5 : Tryz.prog.cellsOf 41 = 5 := by kernel_rfl
  have c1 : Tryz.prog.cellsOf 5 = 1 := by kernel_rfl
  have c2 : Tryz.prog.cellsOf 21 = 1 := by kernel_rfl
  rw [c5] at hl
  match cs, hl, xs, hlen, hf with
  | [a0, a1, a2, a3, a4], _, [y0, y1, y2, y3, y4], _, hf =>
    have f0 : DataW.trod enc Tryz.prog w base spare held n 5 [a0] = some y0 := by simpa [c1] using hf 0 _ rfl
    have f1 : DataW.trod enc Tryz.prog w base spare held n 5 [a1] = some y1 := by simpa [c1] using hf 1 _ rfl
    have f2 : DataW.trod enc Tryz.prog w base spare held n 5 [a2] = some y2 := by simpa [c1] using hf 2 _ rfl
    have f3 : DataW.trod enc Tryz.prog w base spare held n 21 [a3] = some y3 := by simpa [c2] using hf 3 _ rfl
    have f4 : DataW.trod enc Tryz.prog w base spare held n 21 [a4] = some y4 := by simpa [c2] using hf 4 _ rfl
    obtain ⟨k, e0, _, w0⟩ := DataW.trod_int Tryz.underlying5 f0
    obtain ⟨t, e1, _, w1⟩ := DataW.trod_int Tryz.underlying5 f1
    obtain ⟨a, e2, _, w2⟩ := DataW.trod_int Tryz.underlying5 f2
    obtain ⟨v, e3, _, w3⟩ := DataW.trod_int Tryz.underlying21 f3
    obtain ⟨s, e4, _, w4⟩ := DataW.trod_int Tryz.underlying21 f4
    simp at e0 e1 e2 e3 e4
    subst e0 e1 e2 e3 e4
    have b0 := bounds_u8 w0
    have b1 := bounds_u8 w1
    have b2 := bounds_u8 w2
    have b3 := bounds_i32 w3
    have b4 := bounds_i32 w4
    exact ⟨⟨k, t, a, v, s⟩, rfl, ⟨b0.1, b0.2, b1.1, b1.2, b2.1, b2.2, b3.1, b3.2, b4.1, b4.2⟩⟩

theorem evAt_of_cells {w : World} {base : Nat} {a : Addr} {e : Ev} (h : w.cells? base a 5 = some (evC e)) : ∃ b o, a = ⟨b, o, none⟩ ∧ EvAt w b o e := by
  have hc : ∀ i, i < 5 → w.cell? (a.add i) = (evC e)[i]? := by
    intro i hi
    unfold World.cells? at h
    split at h
    · obtain ⟨u, hu, hw⟩ := Lib.mapM_at h i i (by simp [hi])
      rw [hu, hw]
    · cases h
  obtain ⟨b, o, spot⟩ := a
  have hspot : spot = none := by simpa [Addr.add] using World.cell?_spot (show w.cell? _ = some (.int .u8 e.k) from hc 0 (by omega))
  subst hspot
  refine ⟨b, o, rfl, ⟨?_, ?_, ?_, ?_, ?_⟩⟩
  · simpa [Addr.add, evC] using hc 0 (by omega)
  · simpa [Addr.add, evC] using hc 1 (by omega)
  · simpa [Addr.add, evC] using hc 2 (by omega)
  · simpa [Addr.add, evC] using hc 3 (by omega)
  · simpa [Addr.add, evC] using hc 4 (by omega)

/-- A list of events that came in. -/
theorem evs_of_trod {H : Type} {enc : TypeId × Value → H} {w : World} {base : Nat} {held : Bool} {fuel : Nat} {v : Value} {x : DataW H × List MemPlace}
    (h : DataW.trod enc Tryz.prog w base (fun _ => true) held fuel 31 [v] = some x) : ∃ es : List Ev, SlEv w v es ∧ (∀ e ∈ es, e.Ok) ∧ es.length ≤ maxLen := by
  rcases open_slice Tryz.underlying31 h with ⟨h0, _⟩ | ⟨a, len, cap, m, n, D, Pl, h0, hb, hl, hm, hmm, _, hx⟩
  · simp only [List.cons.injEq, and_true] at h0
    exact ⟨[], Or.inl ⟨rfl, none, 0, h0⟩, fun e he => (by cases he), by simp [maxLen]⟩
  · simp only [List.cons.injEq, and_true] at h0
    simp only [if_true] at hmm
    have c5 : Tryz.prog.cellsOf 41 = 5 := by kernel_rfl
    rw [c5] at hx
    have hex : ∀ i, ∃ e : Ev, i < len → (w.cells? base (a.add (i * 5)) 5 = some (evC e) ∧ e.Ok) := by
      intro i
      by_cases hi : i < len
      · obtain ⟨cs', h1, h2⟩ := hx i (by omega)
        obtain ⟨e, rfl, he⟩ := ev_of_trod h2
        exact ⟨e, fun _ => ⟨h1, he⟩⟩
      · exact ⟨⟨0, 0, 0, 0, 0⟩, fun h => absurd h hi⟩
    obtain ⟨f, hf⟩ := Classical.axiomOfChoice hex
    have hlen : ((List.range len).map f).length = len := by simp
    refine ⟨(List.range len).map f, ?_, ?_, by rw [hlen]; omega⟩
    · by_cases hz : len = 0
      · subst hz
        exact Or.inl ⟨rfl, some a, cap, h0⟩
      · obtain ⟨b, o, hab, _⟩ := evAt_of_cells (hf 0 (by omega)).1
        have ha : a = ⟨b, o, none⟩ := by simpa [Addr.add] using hab
        subst ha
        refine Or.inr ⟨b, o, cap, by rw [hlen]; exact h0, ?_, fun i hi => ?_⟩
        · have := World.cells?_block (hf 0 (by omega)).1 (by omega)
          simpa [Addr.add] using this
        · rw [hlen] at hi
          obtain ⟨b', o', hab', hev⟩ := evAt_of_cells (hf i hi).1
          rw [Go.WideShapes.add_plain] at hab'
          simp only [Addr.mk.injEq] at hab'
          obtain ⟨rfl, rfl, _⟩ := hab'
          simpa using hev
    · intro e he
      simp only [List.mem_map, List.mem_range] at he
      obtain ⟨i, hi, rfl⟩ := he
      exact (hf i hi).2

end Go.Proofs.YtfdalbmopaemgaaGreatDoor
