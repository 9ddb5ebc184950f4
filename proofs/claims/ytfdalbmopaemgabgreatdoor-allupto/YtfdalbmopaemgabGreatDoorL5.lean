import Derived.Test.YtfdalbmopaemgabGreatDoorL4
namespace Go.Proofs.YtfdalbmopaemgabGreatDoor
open Go.RowKit

/-- A step of a script: its seven parts. -/
structure OpD where
  k : Int
  n : Int
  t : Int
  x : Int
  v : Int
  hv : Value
  s : ByteArray

abbrev opV (o : OpD) : Value := .agg #[.int .i64 o.k, .int .i64 o.n, .int .u8 o.t, .int .u8 o.x, .int .i32 o.v, o.hv, .string o.s]
abbrev opC (o : OpD) : Obj := .cells #[.int .i64 o.k, .int .i64 o.n, .int .u8 o.t, .int .u8 o.x, .int .i32 o.v, o.hv, .string o.s] 33

/-- What is known of a step: its list of events, and that nothing in it is too great. -/
structure OpOk (w : World) (B : Nat) (o : OpD) (es : List Ev) : Prop where
  sl : SlEv w o.hv es
  ok : ∀ e ∈ es, e.Ok
  len : es.length ≤ 1048576
  str : o.s.size ≤ 1048576
  lt : es ≠ [] → ∀ g, o.hv.ownBlock = some g → g < B
  k0 : -9223372036854775808 ≤ o.k
  k1 : o.k ≤ 9223372036854775807
  cap : ∀ a n c, o.hv = .slice a n c → n ≤ c

theorem OpOk.stay {w w' : World} {B : Nat} {o : OpD} {es : List Ev} (h : OpOk w B o es) (hb : Below B w w') : OpOk w' B o es := by
  refine ⟨?_, h.ok, h.len, h.str, h.lt, h.k0, h.k1, h.cap⟩
  by_cases he : es = []
  · subst he
    rcases h.sl with h1 | ⟨b, off, c, h1, _, _⟩
    · exact Or.inl h1
    · exact Or.inl ⟨rfl, _, c, h1⟩
  · exact h.sl.of_heap hb.size fun g hg _ => hb.block g (h.lt he g hg)

def StepPost (w : World) (B wb : Nat) (H : Nat) (r : Ending) (w' : World) : Prop :=
  r = .returned (.bool true) ∧ ∃ hv' hs', Inv w' B wb hv' hs' ∧ hs'.length ≤ H + 4 ∧ Below B w w'

theorem slice_form {w : World} {v : Value} {es : List Ev} (h : SlEv w v es) : ∃ a c, v = .slice a es.length c := by
  rcases h with ⟨rfl, a, c, rfl⟩ | ⟨b, off, c, rfl, _, _⟩
  · exact ⟨a, c, rfl⟩
  · exact ⟨_, c, rfl⟩

theorem bcell7 {W w1 : World} {b : Nat} {B : Nat} {c0 c1 c2 c3 c4 c5 c6 : Value} {T : TypeId} (hb : Below B (W.alloc (.cells #[c0, c1, c2, c3, c4, c5, c6] T)) w1) (hB : W.heap.size < B) (e : b = W.heap.size) : w1.cell? ⟨b, 0, none⟩ = some c0 ∧ w1.cell? ⟨b, 5, none⟩ = some c5 ∧ w1.cell? ⟨b, 6, none⟩ = some c6 := by
  subst e
  refine ⟨?_, ?_, ?_⟩ <;> rw [bcells hb _ _ hB] <;> simp [go_sem]

set_option maxRecDepth 100000 in
set_option maxHeartbeats 2000000 in
theorem printed_any (B wb : Nat) (hv : Value) (hs : List (Value × Int)) (o : OpD) (es : List Ev) (w : World) (h : Inv w B wb hv hs) (hop : OpOk w B o es) (hH : hs.length ≤ 10000000) (ht : Tab w) :
    Calls Tryz.prog 10 #[.pointer (some ⟨wb, 0, none⟩), opV o] w (StepPost w B wb hs.length) := by
  obtain ⟨ok, on, ot, ox, ov, ohv, os⟩ := o
  obtain ⟨ha, hc, hvf⟩ := slice_form hop.sl
  simp only at hvf
  subst hvf
  have HI := hidIt h
  have HOP := hidIt hop
  have hlen := hop.len
  have hBw : B ≤ w.heap.size := Nat.le_trans h.base (Nat.le_of_lt h.wb_lt)
  have hbx := (Below.refl w.heap.size w).alloc (Nat.le_refl _) (opC ⟨ok, on, ot, ox, ov, .slice ha es.length hc, os⟩)
  clear h hop
  have hl0 : (0 : Int) ≤ (es.length : Int) := by omega
  have hl1 : (es.length : Int) ≤ ((es.length + 8 : Nat) : Int) := by omega
  go_enter Tryz.func10, Tryz.ntmps10
  go_wp2_with fail
  refine (handed_any _ es _ (HOP.out.sl.below hbx) hlen).mono ?_
  rintro r w1 ⟨g, rfl, hg, hrow, hb1⟩
  have hb1' : Below w.heap.size w w1 := hbx.trans (hb1.mono (by simp))
  obtain ⟨z0, z5, z6⟩ := bcell7 hb1 (by simp) rfl
  have hz1 : w.heap.size < w1.heap.size := by have := hb1.size; simp at this; omega
  go_wp2_with fail
  refine (print_all _ es _ (Row.prefix hrow).slEv HOP.out.ok (by omega) (ht.below ht.2 hb1')).mono ?_
  rintro r w2 ⟨rfl, hb2⟩
  obtain ⟨pt, hpt⟩ : ∃ pt, printT es = pt := ⟨_, rfl⟩
  obtain ⟨pe, hpe⟩ : ∃ pe, printE es = pe := ⟨_, rfl⟩
  have HPT := hidIt hpt
  have HPE := hidIt hpe
  rw [hpt, hpe]
  clear hpt hpe
  have y5 : w2.cell? ⟨w.heap.size, 5, none⟩ = some (.slice ha es.length hc) := by rw [bcells hb2 _ _ hz1]; exact z5
  have hb2' : Below w.heap.size w w2 := hb1'.trans (hb2.mono hb1'.size)
  clear z0 z5 z6
  go_wp2_with fail
  refine (refPrint_all _ es _ (HOP.out.sl.below hb2') HOP.out.ok (by omega)).mono ?_
  rintro r w3 ⟨rfl, hb3⟩
  rw [HPT.out, HPE.out]
  have hz2 : w.heap.size < w2.heap.size := Nat.lt_of_lt_of_le hz1 hb2.size
  have x5 : w3.cell? ⟨w.heap.size, 5, none⟩ = some (.slice ha es.length hc) := by rw [bcells hb3 _ _ hz2]; exact y5
  have hb3' : Below w.heap.size w w3 := hb2'.trans (hb3.mono hb2'.size)
  have hrow3 : Row w3 g (es.length + 8) (es ++ List.replicate 8 byEv) := (hrow.below hb2 hrow.lt).below hb3 (Nat.lt_of_lt_of_le hrow.lt hb2.size)
  clear y5
  go_wp2_with fail
  refine (still_any _ es g _ (HOP.out.sl.below hb3') hlen hrow3).mono ?_
  rintro r w4 ⟨rfl, hb4⟩
  have hb4' : Below w.heap.size w w4 := hb3'.trans (hb4.mono hb3'.size)
  have hrow4 : Row w4 g (es.length + 8) (es ++ List.replicate 8 byEv) := hrow3.below hb4 hrow3.lt
  have hgw : w.heap.size ≤ g := by simp at hg; omega
  have hlen8 : (es ++ List.replicate 8 byEv).length = es.length + 8 := by simp
  have hkeep := keep_row B wb hv hs g (es.length + 8) (es ++ List.replicate 8 byEv) w4 (HI.out.below hb4') hrow4 (Nat.le_trans hBw hgw) (by have := HI.out.wb_lt; omega) (fun e => by have := (HI.out.hv_lt g e).2; omega) (fun x hx e => by have := ((HI.out.each x hx).lt g e).2; omega) (by rw [hlen8]; omega) hH
  rw [hlen8] at hkeep
  have HK := hidIt hkeep
  clear x5 hkeep hlen8
  go_wp2_with fail
  refine HK.out.mono ?_
  rintro r w5 ⟨rfl, hv', hs', hi5, hl5, hb5⟩
  have HR := hidIt (And.intro hi5 (And.intro hl5 hb5))
  clear hi5 hl5 hb5
  go_wp2_with fail
  go_ret
  refine ⟨ret_bool (by simp), hv', hs', HR.out.1, by have := HR.out.2.1; omega, (hb4'.mono hBw).trans HR.out.2.2⟩

end Go.Proofs.YtfdalbmopaemgabGreatDoor
