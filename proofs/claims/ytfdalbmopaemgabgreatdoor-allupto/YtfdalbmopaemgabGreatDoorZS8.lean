import Derived.Test.YtfdalbmopaemgabGreatDoorZS4
import Derived.Test.YtfdalbmopaemgabGreatDoorZG5
namespace Go.Proofs.YtfdalbmopaemgabGreatDoor
open Go.RowKit

def valsK (es : List Ev) (k : Nat) : Nat → Int := fun i => if i < k then isL es 0 (i : Int) else 0

theorem valsK_succ (es : List Ev) (k : Nat) : upd (valsK es k) k (isL es 0 (k : Int)) = valsK es (k + 1) := by
  funext i
  unfold upd valsK
  by_cases e : i = k
  · subst e; rw [if_pos rfl, if_pos (by omega)]
  · rw [if_neg e]
    by_cases h : i < k
    · rw [if_pos h, if_pos (by omega)]
    · rw [if_neg h, if_neg (by omega)]

set_option maxRecDepth 100000 in
set_option maxHeartbeats 2000000 in
theorem refValues (v : Value) (es : List Ev) (w : World) (hs : SlEv w v es) (hm : es.length ≤ 1048576) :
    Calls Tryz.prog 33 #[v] w fun r w' => r = .returned (valsV fun i => isL es 0 (i : Int)) ∧ Below w.heap.size w w' := by
  have HS := hidIt hs
  obtain ⟨ad, c, rfl⟩ := slice_form hs
  clear hs
  have hb0 : Below w.heap.size w (w.alloc (.cells #[.int .i32 0, .int .i32 0, .int .i32 0, .int .i32 0] 72)) := (Below.refl _ _).alloc (Nat.le_refl _) _
  have hb1 : Below (w.heap.size + 1) (w.alloc (.cells #[.int .i32 0, .int .i32 0, .int .i32 0, .int .i32 0] 72)) ((w.alloc (.cells #[.int .i32 0, .int .i32 0, .int .i32 0, .int .i32 0] 72)).alloc (.cells #[.int .i32 0, .int .i32 0, .int .i32 0, .int .i32 0] 72)) := (Below.refl _ _).alloc (by simp) _
  have hvr := (vat_new w 72).below (w' := (w.alloc (.cells #[.int .i32 0, .int .i32 0, .int .i32 0, .int .i32 0] 72)).alloc (.cells #[.int .i32 0, .int .i32 0, .int .i32 0, .int .i32 0] 72)) (by simpa using hb1)
  have hvv := vat_new (w.alloc (.cells #[.int .i32 0, .int .i32 0, .int .i32 0, .int .i32 0] 72)) 72
  rw [World.size_alloc] at hvv
  have HST : Hid (VAt ((w.alloc (.cells #[.int .i32 0, .int .i32 0, .int .i32 0, .int .i32 0] 72)).alloc (.cells #[.int .i32 0, .int .i32 0, .int .i32 0, .int .i32 0] 72)) (w.heap.size + 1) (valsK es 0)) := by
    have h7 : valsK es 0 = fun _ => 0 := by funext i; unfold valsK; rw [if_neg (by omega)]
    show VAt _ _ _
    rw [h7]
    exact hvv
  have HVR := hidIt hvr
  have HBB : Hid (Below w.heap.size w ((w.alloc (.cells #[.int .i32 0, .int .i32 0, .int .i32 0, .int .i32 0] 72)).alloc (.cells #[.int .i32 0, .int .i32 0, .int .i32 0, .int .i32 0] 72))) := hb0.trans (hb1.mono (by omega))
  clear hb0 hb1 hvr hvv
  go_enter Tryz.func33, Tryz.ntmps33
  go_wp2_with fail
  go_loopw [4] (fun i wr => ∃ k : Nat, k ≤ 4 ∧ i = .int .i64 k ∧ VAt wr (w.heap.size + 1) (valsK es k) ∧ VAt wr w.heap.size (fun _ => 0) ∧ Below w.heap.size w wr) (fun i _ => 4 - (intOf i).toNat)
  case atStart => exact ⟨0, by omega, rfl, HST.out, HVR.out, HBB.out⟩
  case round =>
    clear HST HVR HBB
    obtain ⟨k, hk, rfl, hva, hvr, hnx⟩ := hrel
    by_cases hlt : k < 4
    · have hlt' : (k : Int) < 4 := by omega
      have hk0 : (0 : Int) ≤ (k : Int) := by omega
      have HC := hidIt (refIs _ es 0 (k : Int) wr (HS.out.below hnx) hm)
      have HVA := hidIt hva
      have HVR := hidIt hvr
      clear hva hvr
      go_wp2_with fail
      refine HC.out.mono ?_
      rintro r w1 ⟨rfl, hb1⟩
      have HA1 := hidIt (HVA.out.below hb1)
      have c1 := HA1.out.cell k hlt
      have f1 := HA1.out.fz k
      have hset := HA1.out.set k hlt (isL es 0 (k : Int))
      rw [valsK_succ] at hset
      have HSET := hidIt hset
      have HR1 : Hid (VAt (w1.setCell ⟨w.heap.size + 1, k, none⟩ (.int .i32 (isL es 0 (k : Int)))) w.heap.size fun _ => 0) := (HVR.out.below hb1).of_heap (Below.heap_setCell _ ⟨w.heap.size + 1, k, none⟩ _ _ (by simp)) (by simp)
      have HB1 : Hid (Below w.heap.size w (w1.setCell ⟨w.heap.size + 1, k, none⟩ (.int .i32 (isL es 0 (k : Int))))) := (hnx.trans (hb1.mono hnx.size)).setCell (p := ⟨w.heap.size + 1, k, none⟩) (by simp) _
      clear hset
      go_wp2_with fail
      go_roundw
      case rel => exact ⟨k + 1, by omega, by go_num, HSET.out, HR1.out, HB1.out⟩
      case measure => simp [intOf]; omega
    · have hge : ¬ (k : Int) < 4 := by omega
      have hk4 : k = 4 := by omega
      subst hk4
      have c0 := hva.cell 0 (by omega)
      have c1 := hva.cell 1 (by omega)
      have c2 := hva.cell 2 (by omega)
      have c3 := hva.cell 3 (by omega)
      have q0 := hvr.cell 0 (by omega)
      have q1 := hvr.cell 1 (by omega)
      have q2 := hvr.cell 2 (by omega)
      have q3 := hvr.cell 3 (by omega)
      have f0 := hvr.fz
      clear hva hvr
      go_wp2_with fail
      exact bodyPost_ret (v := valsV fun i => isL es 0 (i : Int)) (by simp [results, Tryz.results33, go_sem, q0, q1, q2, q3, valsK]) rfl ⟨rfl, set4_below hnx _ (Nat.le_refl _) _ _ _ _⟩

end Go.Proofs.YtfdalbmopaemgabGreatDoor

namespace Go.Proofs.YtfdalbmopaemgabGreatDoor
open Go.RowKit

/-! ### A history is written down -/
theorem wpList_append_any {P : Program} (w : World) {ops : Array Oper} {rest : List Oper} {o : Oper} {a : Act} {Q : Exit → Act → World → Prop} (hgd : o.guard = none) (s x : Operand) (t : TypeId)
    (ho : o.op = .call { callee := .builtin .append, args := #[s, x], argTypes := #[t, t] })
    (base : Nat) (e : TypeId) (i : TypeInfo) (z : Value) (size bytes : Nat) (ht : P.underlying t = some (.slice e)) (hi : P.info? e = some i) (hz : i.zero = some z)
    (hsize : i.size = size) (hby : i.bytes = bytes) (hzs : z.cells.size = size) (hsz : 0 < size)
    (v : Value) (n : Nat) (xs : List Value) (hs : a.eval s = v) (hown : w.ownsRow base e size v n xs)
    (ao : Option Addr) (m c : Nat) (news : List Value) (hx : a.eval x = .slice ao m c) (hnil : m = 0 → ao = none ∧ c = 0) (hsome : ao = none → m = 0) (hl : news.length = m * size)
    (hnews : ∀ ad, ao = some ad → ∀ j u, news[j]? = some u → w.cell? (ad.add j) = some u) (h1 : ∀ u ∈ news, u.oneCell' = true)
    (h63 : n + m ≤ maxLen) (hbytes : (n + m) * bytes ≤ 140737488355328) (hbase : base ≤ w.heap.size)
    (h : ∀ v' w', w'.ownsRow base e size v' (n + m) (xs ++ news) → AppPost0 w w' v v' m → wpList P ops Q rest (a.put o.dst v') w') : wpList P ops Q (o :: rest) a w := by
  refine wpList_plain hgd fun K hK' => ?_
  obtain ⟨v', w', hrun, r1, r2⟩ := run_append_two (P := P) w t o.type base e i z size bytes ht hi hz hsize hby hzs hsz v n xs hown ao m c news hnil hsome hl hnews h1 h63 hbytes hbase
  unfold Oper.wp
  simp [execOp, ho, resolve, invoke, builtin, hs, hx, hrun, Result.andThen]
  exact hK' _ _ (h v' w' r1 r2)

def Hist (w : World) (B : Nat) (v : Value) (es : List Ev) : Prop := Own w B v es ∧ (es = [] → v = .slice none 0 0)

theorem own_cells5 {w : World} {B : Nat} {e : TypeId} {va : Option Addr} {n c : Nat} {xs : List Value} (h : w.ownsRow B e 5 (.slice va n c) n xs) : ∀ ad, va = some ad → ∀ j u, xs[j]? = some u → w.cell? (ad.add j) = some u := by
  intro ad had j u hu
  subst had
  rcases h.2 with ⟨h1, _⟩ | ⟨g, cap, cur, h1, _⟩
  · cases h1
  · simp only [Value.slice.injEq, Option.some.injEq] at h1
    obtain ⟨rfl, _, rfl⟩ := h1
    exact h.cells (g := g) rfl j u hu

theorem own_none5 {w : World} {B : Nat} {e : TypeId} {va : Option Addr} {n c : Nat} {xs : List Value} (h : w.ownsRow B e 5 (.slice va n c) n xs) : va = none → n = 0 := by
  intro hva
  subst hva
  rcases h.2 with ⟨h1, h2⟩ | ⟨g, cap, cur, h1, _⟩
  · exact h2
  · cases h1

def AddPost (w : World) (v : Value) (es : List Ev) (e : Ev) (r : Ending) (w' : World) : Prop :=
  Below w.heap.size w w' ∧ ((60 ≤ es.length ∧ r = .returned (.tuple #[v, .int .i64 10])) ∨ (es.length < 60 ∧ ∃ a c, r = .returned (.tuple #[.slice a (es.length + 1) c, .int .i64 0]) ∧ Hist w' w.heap.size (.slice a (es.length + 1) c) (es ++ [e])))

theorem Tryz.infoEv6 : (Tryz.prog.info? 45).map (fun i => (i.zero, i.size, i.bytes)) = some (some (.agg #[.int .u8 0, .int .u8 0, .int .u8 0, .int .i32 0, .int .i32 0]), 5, 12) := by kernel_rfl

theorem own_snoc6 {w : World} {B : Nat} {v : Value} {es : List Ev} {e : Ev} (h : w.ownsRow B 45 5 v (es.length + 1) (evCells es ++ evC e)) : Own w B v (es ++ [e]) := by
  unfold Own
  rw [evCells_append, List.length_append]
  simpa [evCells] using h

set_option maxRecDepth 100000 in
set_option maxHeartbeats 2000000 in
theorem refAdd (v : Value) (es : List Ev) (k t a vv s : Int) (B : Nat) (w : World) (h : Hist w B v es) (hm : es.length ≤ 1048576) :
    Calls Tryz.prog 61 #[v, evV ⟨k, t, a, vv, s⟩] w (AddPost w v es ⟨k, t, a, vv, s⟩) := by
  obtain ⟨hown, hnil⟩ := h
  obtain ⟨ha, hc, rfl⟩ := hown.form
  have hbx : Below w.heap.size w (w.alloc (.cells #[.int .u8 k, .int .u8 t, .int .u8 a, .int .i32 vv, .int .i32 s] 45)) := (Below.refl _ _).alloc (Nat.le_refl _) _
  by_cases h60 : 60 ≤ es.length
  · have h60' : (60 : Int) ≤ (es.length : Int) := by omega
    go_enter Tryz.func61, Tryz.ntmps61
    go_wp2_with fail
    go_ret2
    exact ⟨hbx, Or.inl ⟨h60, rfl⟩⟩
  · have h60' : ¬ (60 : Int) ≤ (es.length : Int) := by omega
    have hown1 := hown.below hbx
    have HN1 : Hid (es.length = 0 → ha = none ∧ hc = 0) := fun h0 => by
      have hn := hnil (List.length_eq_zero_iff.1 h0)
      simp only [Value.slice.injEq] at hn
      exact ⟨hn.1, hn.2.2⟩
    have HN2 : Hid (ha = none → es.length = 0) := own_none5 hown1
    have HN3 := hidIt (own_cells5 hown1)
    have HL5 := hidIt (evCells_length es)
    obtain ⟨i0, hi, hz0, hz1, hz2⟩ := info_parts Tryz.infoEv6
    have HI := hidIt hi
    have HZ0 := hidIt hz0
    have HZ1 := hidIt hz1
    have HZ2 := hidIt hz2
    clear hi hz0 hz1 hz2 hnil hown hown1
    go_enter Tryz.func61, Tryz.ntmps61
    go_wp2_with (at_builtin; refine wpList_append_any _ rfl _ _ 31 rfl w.heap.size 45 i0 (.agg #[.int .u8 0, .int .u8 0, .int .u8 0, .int .i32 0, .int .i32 0]) 5 12 Tryz.underlying31 HI.out HZ0.out HZ1.out HZ2.out rfl (by decide) (.slice none 0 0) 0 [] rfl (World.ownsRow_nil _ _ _ _) ha es.length hc (evCells es) rfl HN1.out HN2.out HL5.out HN3.out (evCells_one es) ?c1 ?c2 ?c3 ?_)
    case c1 => unfold maxLen; omega
    case c2 => omega
    intro v1 w1 hown1 happ1
    have hb1 : Below w.heap.size w w1 := hbx.trans ((happ1.below (B := w.heap.size + 1) (fun g hg => by simp [Value.ownBlock] at hg) (by simp)).mono (by omega))
    have hev : EvAt w1 w.heap.size 0 ⟨k, t, a, vv, s⟩ := EvAt.of_heap (w := w.alloc (.cells #[.int .u8 k, .int .u8 t, .int .u8 a, .int .i32 vv, .int .i32 s] 45)) ⟨by simp [go_sem], by simp [go_sem], by simp [go_sem], by simp [go_sem], by simp [go_sem]⟩ (happ1.block _ (by simp) (by simp [Value.ownBlock]))
    obtain ⟨y0, y1, y2, y3, y4⟩ := hev
    simp only [Nat.zero_add] at y0 y1 y2 y3 y4
    have hlt1 : w.heap.size < w1.heap.size := by have := happ1.size; simp at this; omega
    obtain ⟨a1, c1, rfl⟩ := ownsRow_form hown1
    clear happ1
    go_wp2_with (at_builtin; refine wpList_append_own _ rfl _ _ 31 rfl w.heap.size 45 i0 (.agg #[.int .u8 0, .int .u8 0, .int .u8 0, .int .i32 0, .int .i32 0]) 5 12 Tryz.underlying31 HI.out HZ0.out HZ1.out HZ2.out rfl (by decide) _ _ _ rfl (World.ownsRow.alloc hown1 _) ⟨w1.heap.size, 0, none⟩ 1 1 (evC ⟨k, t, a, vv, s⟩) rfl rfl ?d1 ?d2 ?d3 ?d4 ?d5 ?_)
    case d1 => exact evC_new1 w1 _ ⟨k, t, a, vv, s⟩
    case d2 => exact evC_one _
    case d3 => unfold maxLen; omega
    case d4 => omega
    case d5 => simp; omega
    intro v2 w2 hown2 hgrow2 _
    have hb2 : Below w.heap.size w w2 := by
      refine Below.grown (hb1.alloc hb1.size _) hgrow2 (by simp; omega) (fun j hj => ?_)
      exact (World.ownsRow.lt hown1 j hj).1
    obtain ⟨a2, c2, rfl⟩ := ownsRow_form hown2
    have HR := hidIt (And.intro hb2 (own_snoc6 hown2))
    clear hown1 hown2 hgrow2 hb2
    go_wp2_with fail
    go_ret2
    exact ⟨HR.out.1, Or.inr ⟨by omega, a2, c2, rfl, HR.out.2, fun q => by simp at q⟩⟩

end Go.Proofs.YtfdalbmopaemgabGreatDoor

namespace Go.Proofs.YtfdalbmopaemgabGreatDoor
open Go.RowKit

/-! ### Begin, Commit, Abort, by the document: the events behind the call, the number, the error -/
def beginR (es : List Ev) (up : Int) : List Ev × Int × Int :=
  if up ≠ 0 ∧ openL es up = false then (es, 0, 5)
  else if 15 ≤ countL es then (es, 0, 10)
  else if 60 ≤ es.length then (es, 0, 10)
  else (es ++ [⟨1, (countL es : Int) + 1, up, 0, 0⟩], (countL es : Int) + 1, 0)

def endR (es : List Ev) (k t : Int) : List Ev × Int :=
  if openL es t = false then (es, 4)
  else if k = 5 ∧ childL es t = true then (es, 8)
  else if 60 ≤ es.length then (es, 10)
  else (es ++ [⟨k, t, 0, 0, 0⟩], 0)

/-- What comes out is the old list, or a new row. -/
def HistOut (w w' : World) (v v' : Value) (es es' : List Ev) : Prop := (v' = v ∧ es' = es) ∨ (Hist w' w.heap.size v' es')

def BeginPost (w : World) (v : Value) (es : List Ev) (up : Int) (r : Ending) (w' : World) : Prop :=
  Below w.heap.size w w' ∧ ∃ v', r = .returned (.tuple #[v', .int .u8 (beginR es up).2.1, .int .i64 (beginR es up).2.2]) ∧ HistOut w w' v v' es (beginR es up).1

def EndPost (w : World) (v : Value) (es : List Ev) (k t : Int) (r : Ending) (w' : World) : Prop :=
  Below w.heap.size w w' ∧ ∃ v', r = .returned (.tuple #[v', .int .i64 (endR es k t).2]) ∧ HistOut w w' v v' es (endR es k t).1

theorem Hist.slEv {w : World} {B : Nat} {v : Value} {es : List Ev} (h : Hist w B v es) : SlEv w v es := h.1.slEv
theorem Hist.below {w w' : World} {B : Nat} {v : Value} {es : List Ev} (h : Hist w B v es) (hb : Below w.heap.size w w') : Hist w' B v es := ⟨h.1.below hb, h.2⟩

set_option maxRecDepth 100000 in
set_option maxHeartbeats 2000000 in
theorem refBegin (v : Value) (es : List Ev) (up : Int) (B : Nat) (w : World) (h : Hist w B v es) (hm : es.length ≤ 1048576) :
    Calls Tryz.prog 36 #[v, .int .u8 up] w (BeginPost w v es up) := by
  have HH := hidIt h
  obtain ⟨ha, hc, rfl⟩ := h.1.form
  obtain ⟨o, ho⟩ : ∃ o, openL es up = o := ⟨_, rfl⟩
  have HOP := hidIt (refOpen _ es up w h.slEv hm)
  rw [ho] at HOP
  have HCN := hidIt (refCount _ es w h.slEv hm)
  clear h
  by_cases h5 : up ≠ 0 ∧ o = false
  · have hup : (up != 0) = true := by simpa using h5.1
    have HN : Hid (beginR es up = (es, 0, 5)) := by show _ = _; unfold beginR; rw [if_pos ⟨h5.1, by rw [ho]; exact h5.2⟩]
    obtain rfl := h5.2
    clear h5 ho
    go_enter Tryz.func36, Tryz.ntmps36
    go_wp2_with (go_at_call 59; refine HOP.out.mono ?_; rintro r w1 ⟨rfl, rfl⟩)
    go_ret3
    exact ⟨Below.refl _ _, .slice ha es.length hc, by rw [HN.out]; rfl, Or.inl ⟨rfl, by rw [HN.out]⟩⟩
  · have HB1 : Hid (beginR es up = if 15 ≤ countL es then (es, 0, 10) else if 60 ≤ es.length then (es, 0, 10) else (es ++ [⟨1, (countL es : Int) + 1, up, 0, 0⟩], (countL es : Int) + 1, 0)) := by show _ = _; unfold beginR; rw [if_neg (by rw [ho]; exact h5)]
    have hg : ((up != 0) = false) ∨ ((up != 0) = true ∧ o = true) := by
      by_cases hz : up = 0
      · exact Or.inl (by simpa using hz)
      · refine Or.inr ⟨by simpa using hz, ?_⟩
        cases o with
        | true => rfl
        | false => exact absurd ⟨hz, rfl⟩ h5
    clear h5 ho
    obtain ⟨n, hn⟩ : ∃ n, countL es = n := ⟨_, rfl⟩
    rw [hn] at HCN HB1
    have hnl : n ≤ es.length := by rw [← hn]; exact countL_le es
    clear hn
    by_cases h15 : 15 ≤ n
    · have h15' : (15 : Int) ≤ (n : Int) := by omega
      have HN : Hid (beginR es up = (es, 0, 10)) := by show _ = _; rw [HB1.out, if_pos h15]
      rcases hg with hg | ⟨hg, rfl⟩
      all_goals
        go_enter Tryz.func36, Tryz.ntmps36
        go_wp2_with (first | (go_at_call 59; refine HOP.out.mono ?_; rintro r w1 ⟨rfl, rfl⟩) | (go_at_call 60; refine HCN.out.mono ?_; rintro r w1 ⟨rfl, rfl⟩))
        go_ret3
        exact ⟨Below.refl _ _, .slice ha es.length hc, by rw [HN.out]; rfl, Or.inl ⟨rfl, by rw [HN.out]⟩⟩
    · have h15' : ¬ (15 : Int) ≤ (n : Int) := by omega
      have hn0 : (0 : Int) ≤ (n : Int) := by omega
      have HAD := hidIt (refAdd _ es 1 ((n : Int) + 1) up 0 0 B w HH.out hm)
      by_cases h60 : 60 ≤ es.length
      · have HN : Hid (beginR es up = (es, 0, 10)) := by show _ = _; rw [HB1.out, if_neg h15, if_pos h60]
        rcases hg with hg | ⟨hg, rfl⟩
        all_goals
          go_enter Tryz.func36, Tryz.ntmps36
          go_wp2_with (first | (go_at_call 59; refine HOP.out.mono ?_; rintro r w1 ⟨rfl, rfl⟩) | (go_at_call 60; refine HCN.out.mono ?_; rintro r w1 ⟨rfl, rfl⟩))
          refine HAD.out.mono ?_
          rintro r w2 ⟨hb2, ⟨_, rfl⟩ | ⟨hq, _⟩⟩
          · go_wp2_with fail
            go_ret3
            exact ⟨hb2, .slice ha es.length hc, by rw [HN.out]; rfl, Or.inl ⟨rfl, by rw [HN.out]⟩⟩
          · omega
      · have HN : Hid (beginR es up = (es ++ [⟨1, (n : Int) + 1, up, 0, 0⟩], (n : Int) + 1, 0)) := by show _ = _; rw [HB1.out, if_neg h15, if_neg h60]
        rcases hg with hg | ⟨hg, rfl⟩
        all_goals
          go_enter Tryz.func36, Tryz.ntmps36
          go_wp2_with (first | (go_at_call 59; refine HOP.out.mono ?_; rintro r w1 ⟨rfl, rfl⟩) | (go_at_call 60; refine HCN.out.mono ?_; rintro r w1 ⟨rfl, rfl⟩))
          refine HAD.out.mono ?_
          rintro r w2 ⟨hb2, ⟨hq, _⟩ | ⟨_, a2, c2, rfl, hh2⟩⟩
          · omega
          · have HR := hidIt (And.intro hb2 hh2)
            clear hb2 hh2
            go_wp2_with fail
            go_ret3
            exact ⟨HR.out.1, .slice a2 (es.length + 1) c2, by rw [HN.out]; rfl, Or.inr (by rw [HN.out]; exact HR.out.2)⟩

set_option maxRecDepth 100000 in
set_option maxHeartbeats 2000000 in
theorem refEnd (v : Value) (es : List Ev) (k t : Int) (B : Nat) (w : World) (h : Hist w B v es) (hm : es.length ≤ 1048576) :
    Calls Tryz.prog 42 #[v, .int .u8 k, .int .u8 t] w (EndPost w v es k t) := by
  have HH := hidIt h
  obtain ⟨ha, hc, rfl⟩ := h.1.form
  obtain ⟨o, ho⟩ : ∃ o, openL es t = o := ⟨_, rfl⟩
  have HOP := hidIt (refOpen _ es t w h.slEv hm)
  rw [ho] at HOP
  obtain ⟨ch, hch⟩ : ∃ o, childL es t = o := ⟨_, rfl⟩
  have HCH := hidIt (refChild _ es t w h.slEv hm)
  rw [hch] at HCH
  clear h
  cases o with
  | false =>
    have HN : Hid (endR es k t = (es, 4)) := by show _ = _; unfold endR; rw [if_pos ho]
    clear ho hch
    go_enter Tryz.func42, Tryz.ntmps42
    go_wp2_with (go_at_call 59; refine HOP.out.mono ?_; rintro r w1 ⟨rfl, rfl⟩)
    go_ret2
    exact ⟨Below.refl _ _, .slice ha es.length hc, by rw [HN.out]; rfl, Or.inl ⟨rfl, by rw [HN.out]⟩⟩
  | true =>
    have HE1 : Hid (endR es k t = if k = 5 ∧ ch = true then (es, 8) else if 60 ≤ es.length then (es, 10) else (es ++ [⟨k, t, 0, 0, 0⟩], 0)) := by show _ = _; unfold endR; rw [if_neg (by rw [ho]; decide), hch]
    clear ho hch
    by_cases h8 : k = 5 ∧ ch = true
    · have hk5 : (k == 5) = true := by simpa using h8.1
      have HN : Hid (endR es k t = (es, 8)) := by show _ = _; rw [HE1.out, if_pos h8]
      obtain rfl := h8.2
      clear h8
      go_enter Tryz.func42, Tryz.ntmps42
      go_wp2_with (first | (go_at_call 59; refine HOP.out.mono ?_; rintro r w1 ⟨rfl, rfl⟩) | (go_at_call 67; refine HCH.out.mono ?_; rintro r w1 ⟨rfl, rfl⟩))
      go_ret2
      exact ⟨Below.refl _ _, .slice ha es.length hc, by rw [HN.out]; rfl, Or.inl ⟨rfl, by rw [HN.out]⟩⟩
    · have hg : ((k == 5) = false) ∨ ((k == 5) = true ∧ ch = false) := by
        by_cases hz : k = 5
        · refine Or.inr ⟨by simpa using hz, ?_⟩
          cases ch with
          | false => rfl
          | true => exact absurd ⟨hz, rfl⟩ h8
        · exact Or.inl (by simpa using hz)
      rw [if_neg h8] at HE1
      clear h8
      have HAD := hidIt (refAdd _ es k t 0 0 0 B w HH.out hm)
      by_cases h60 : 60 ≤ es.length
      · have HN : Hid (endR es k t = (es, 10)) := by show _ = _; rw [HE1.out, if_pos h60]
        rcases hg with hg | ⟨hg, rfl⟩
        all_goals
          go_enter Tryz.func42, Tryz.ntmps42
          go_wp2_with (first | (go_at_call 59; refine HOP.out.mono ?_; rintro r w1 ⟨rfl, rfl⟩) | (go_at_call 67; refine HCH.out.mono ?_; rintro r w1 ⟨rfl, rfl⟩))
          refine HAD.out.mono ?_
          rintro r w2 ⟨hb2, ⟨_, rfl⟩ | ⟨hq, _⟩⟩
          · go_wp2_with fail
            go_ret2
            exact ⟨hb2, .slice ha es.length hc, by rw [HN.out]; rfl, Or.inl ⟨rfl, by rw [HN.out]⟩⟩
          · omega
      · have HN : Hid (endR es k t = (es ++ [⟨k, t, 0, 0, 0⟩], 0)) := by show _ = _; rw [HE1.out, if_neg h60]
        rcases hg with hg | ⟨hg, rfl⟩
        all_goals
          go_enter Tryz.func42, Tryz.ntmps42
          go_wp2_with (first | (go_at_call 59; refine HOP.out.mono ?_; rintro r w1 ⟨rfl, rfl⟩) | (go_at_call 67; refine HCH.out.mono ?_; rintro r w1 ⟨rfl, rfl⟩))
          refine HAD.out.mono ?_
          rintro r w2 ⟨hb2, ⟨hq, _⟩ | ⟨_, a2, c2, rfl, hh2⟩⟩
          · omega
          · have HR := hidIt (And.intro hb2 hh2)
            clear hb2 hh2
            go_wp2_with fail
            go_ret2
            exact ⟨HR.out.1, .slice a2 (es.length + 1) c2, by rw [HN.out]; rfl, Or.inr (by rw [HN.out]; exact HR.out.2)⟩

end Go.Proofs.YtfdalbmopaemgabGreatDoor

namespace Go.Proofs.YtfdalbmopaemgabGreatDoor
open Go.RowKit

/-! ### Read, Write, Add, by the document -/
def othersL (es : List Ev) (k x : Int) : Nat := if k = 2 then (holdersL es x).2 else (holdersL es x).2 ||| (holdersL es x).1

def accEv (es : List Ev) (k t x v : Int) : Ev := ⟨k, t, x, if k = 2 then 0 else v, if k = 3 then 0 else isL es t x⟩
def accN (es : List Ev) (k t x v : Int) : Int := if k = 2 then isL es t x else if k = 3 then 0 else wrap32 (isL es t x + v)

def accessR (es : List Ev) (k t x v : Int) : List Ev × Int × Int :=
  if openL es t = false then (es, 0, 4)
  else if 4 ≤ x then (es, 0, 6)
  else if strangerL es t (othersL es k x) = true then (es, 0, 9)
  else if 60 ≤ es.length then (es, 0, 10)
  else (es ++ [accEv es k t x v], accN es k t x v, 0)

def AccessPost (w : World) (v0 : Value) (es : List Ev) (k t x v : Int) (r : Ending) (w' : World) : Prop :=
  Below w.heap.size w w' ∧ ∃ v', r = .returned (.tuple #[v', .int .i32 (accessR es k t x v).2.1, .int .i64 (accessR es k t x v).2.2]) ∧ HistOut w w' v0 v' es (accessR es k t x v).1

theorem holdersL_lt {es : List Ev} (h : Low15 es) (x : Int) : (holdersL es x).1 < 65536 ∧ (holdersL es x).2 < 65536 := by
  have := holdK_lt h x es.length (Nat.le_refl _)
  unfold holdK at this
  rw [List.take_length] at this
  exact this

set_option maxRecDepth 100000 in
set_option maxHeartbeats 1000000 in
theorem refHolders_bad (v : Value) (es : List Ev) (x : Int) (w : World) (hs : SlEv w v es) (hx : 4 ≤ x) :
    Calls Tryz.prog 31 #[v, .int .u8 x] w fun r w' => r = .returned (.tuple #[.int .u16 0, .int .u16 0, .int .i64 6]) ∧ w' = w := by
  obtain ⟨ad, c, rfl⟩ := slice_form hs
  clear hs
  go_enter Tryz.func31, Tryz.ntmps31
  go_wp2_with fail
  go_ret3
  exact ⟨rfl, rfl⟩

set_option maxRecDepth 100000 in
set_option maxHeartbeats 4000000 in
theorem refRead (v0 : Value) (es : List Ev) (t x vv : Int) (B : Nat) (w : World) (h : Hist w B v0 es) (hm : es.length ≤ 1048576) (hlow : Low15 es) :
    Calls Tryz.prog 38 #[v0, .int .u8 2, .int .u8 t, .int .u8 x, .int .i32 vv] w (AccessPost w v0 es 2 t x vv) := by
  have HH := hidIt h
  obtain ⟨ha, hc, rfl⟩ := h.1.form
  obtain ⟨o, ho⟩ : ∃ o, openL es t = o := ⟨_, rfl⟩
  have HOP := hidIt (refOpen _ es t w h.slEv hm)
  rw [ho] at HOP
  have HSL := hidIt h.slEv
  clear h
  cases o with
  | false =>
    have HN : Hid (accessR es 2 t x vv = (es, 0, 4)) := by show _ = _; unfold accessR; rw [if_pos ho]
    clear ho
    go_enter Tryz.func38, Tryz.ntmps38
    go_wp2_with (go_at_call 59; refine HOP.out.mono ?_; rintro r w1 ⟨rfl, rfl⟩)
    go_ret3
    exact ⟨Below.refl _ _, .slice ha es.length hc, by rw [HN.out]; rfl, Or.inl ⟨rfl, by rw [HN.out]⟩⟩
  | true =>
    by_cases hx : 4 ≤ x
    · have HN : Hid (accessR es 2 t x vv = (es, 0, 6)) := by show _ = _; unfold accessR; rw [if_neg (by rw [ho]; decide), if_pos hx]
      have HHO := hidIt (refHolders_bad _ es x w HSL.out hx)
      clear ho
      go_enter Tryz.func38, Tryz.ntmps38
      go_wp2_with (first | (go_at_call 59; refine HOP.out.mono ?_; rintro r w1 ⟨rfl, rfl⟩) | (go_at_call 31; refine HHO.out.mono ?_; rintro r w1 ⟨rfl, rfl⟩))
      go_ret3
      exact ⟨Below.refl _ _, .slice ha es.length hc, by rw [HN.out]; rfl, Or.inl ⟨rfl, by rw [HN.out]⟩⟩
    · have HHO := hidIt (refHolders _ es x w HSL.out hm (by omega) hlow)
      have hlt := holdersL_lt hlow x
      have hst := refStranger _ es t ((holdersL es x).2) w HSL.out hm (hlt.2)
      have HAR : Hid (accessR es 2 t x vv = if strangerL es t ((holdersL es x).2) = true then (es, 0, 9) else if 60 ≤ es.length then (es, 0, 10) else (es ++ [⟨2, t, x, 0, (isL es t x)⟩], isL es t x, 0)) := by show _ = _; unfold accessR; rw [if_neg (by rw [ho]; decide), if_neg hx]; rfl
      obtain ⟨⟨am, rm⟩, hho⟩ : ∃ y, holdersL es x = y := ⟨_, rfl⟩
      rw [hho] at HHO hlt hst HAR
      simp only at HHO hlt hst HAR
      obtain ⟨sb, hsb⟩ : ∃ y, strangerL es t (rm) = y := ⟨_, rfl⟩
      rw [hsb] at hst HAR
      have HST := hidIt hst
      have HIS := hidIt (refIs _ es t x w HSL.out hm)
      clear hho hsb hst ho hlow hx hlt
      cases sb with
      | true =>
        have HN : Hid (accessR es 2 t x vv = (es, 0, 9)) := by show _ = _; rw [HAR.out, if_pos rfl]
        go_enter Tryz.func38, Tryz.ntmps38
        go_wp2_with (first | (go_at_call 59; refine HOP.out.mono ?_; rintro r w1 ⟨rfl, rfl⟩) | (go_at_call 31; refine HHO.out.mono ?_; rintro r w1 ⟨rfl, rfl⟩) | (go_at_call 63; refine HST.out.mono ?_; rintro r w1 ⟨rfl, rfl⟩))
        go_ret3
        exact ⟨Below.refl _ _, .slice ha es.length hc, by rw [HN.out]; rfl, Or.inl ⟨rfl, by rw [HN.out]⟩⟩
      | false =>
        obtain ⟨seen, hseen⟩ : ∃ y, isL es t x = y := ⟨_, rfl⟩
        rw [hseen] at HIS HAR
        clear hseen
        go_enter Tryz.func38, Tryz.ntmps38
        go_wp2_with (first | (go_at_call 59; refine HOP.out.mono ?_; rintro r w1 ⟨rfl, rfl⟩) | (go_at_call 31; refine HHO.out.mono ?_; rintro r w1 ⟨rfl, rfl⟩) | (go_at_call 63; refine HST.out.mono ?_; rintro r w1 ⟨rfl, rfl⟩))
        refine HIS.out.mono ?_
        rintro r w2 ⟨rfl, hb2⟩
        have hbe : Below w2.heap.size w2 (w2.alloc (.cells #[.int .u8 2, .int .u8 t, .int .u8 x, .int .i32 0, .int .i32 seen] 45)) := (Below.refl _ _).alloc (Nat.le_refl _) _
        have HAD := hidIt (refAdd _ es 2 t x 0 seen B _ ((HH.out.below hb2).below hbe) hm)
        have HB3 := hidIt (hb2.trans (hbe.mono hb2.size))
        clear hbe
        go_wp2_with fail
        refine HAD.out.mono ?_
        rintro r w3 ⟨hb3, ⟨h60, rfl⟩ | ⟨h60, a2, c2, rfl, hh2⟩⟩
        · have HN : Hid (accessR es 2 t x vv = (es, 0, 10)) := by show _ = _; rw [HAR.out, if_neg (by decide), if_pos h60]
          go_wp2_with fail
          go_ret3
          exact ⟨HB3.out.trans (hb3.mono HB3.out.size), .slice ha es.length hc, by rw [HN.out]; rfl, Or.inl ⟨rfl, by rw [HN.out]⟩⟩
        · have HN : Hid (accessR es 2 t x vv = (es ++ [⟨2, t, x, 0, seen⟩], seen, 0)) := by show _ = _; rw [HAR.out, if_neg (by decide), if_neg (by omega)]
          have HR := hidIt hh2
          clear hh2
          go_wp2_with fail
          go_ret3
          exact ⟨HB3.out.trans (hb3.mono HB3.out.size), .slice a2 (es.length + 1) c2, by rw [HN.out]; rfl, Or.inr (by rw [HN.out]; exact ⟨ownsRow_mono HR.out.1 HB3.out.size, HR.out.2⟩)⟩

set_option maxRecDepth 100000 in
set_option maxHeartbeats 4000000 in
theorem refWrite (v0 : Value) (es : List Ev) (t x vv : Int) (B : Nat) (w : World) (h : Hist w B v0 es) (hm : es.length ≤ 1048576) (hlow : Low15 es) :
    Calls Tryz.prog 38 #[v0, .int .u8 3, .int .u8 t, .int .u8 x, .int .i32 vv] w (AccessPost w v0 es 3 t x vv) := by
  have HH := hidIt h
  obtain ⟨ha, hc, rfl⟩ := h.1.form
  obtain ⟨o, ho⟩ : ∃ o, openL es t = o := ⟨_, rfl⟩
  have HOP := hidIt (refOpen _ es t w h.slEv hm)
  rw [ho] at HOP
  have HSL := hidIt h.slEv
  clear h
  cases o with
  | false =>
    have HN : Hid (accessR es 3 t x vv = (es, 0, 4)) := by show _ = _; unfold accessR; rw [if_pos ho]
    clear ho
    go_enter Tryz.func38, Tryz.ntmps38
    go_wp2_with (go_at_call 59; refine HOP.out.mono ?_; rintro r w1 ⟨rfl, rfl⟩)
    go_ret3
    exact ⟨Below.refl _ _, .slice ha es.length hc, by rw [HN.out]; rfl, Or.inl ⟨rfl, by rw [HN.out]⟩⟩
  | true =>
    by_cases hx : 4 ≤ x
    · have HN : Hid (accessR es 3 t x vv = (es, 0, 6)) := by show _ = _; unfold accessR; rw [if_neg (by rw [ho]; decide), if_pos hx]
      have HHO := hidIt (refHolders_bad _ es x w HSL.out hx)
      clear ho
      go_enter Tryz.func38, Tryz.ntmps38
      go_wp2_with (first | (go_at_call 59; refine HOP.out.mono ?_; rintro r w1 ⟨rfl, rfl⟩) | (go_at_call 31; refine HHO.out.mono ?_; rintro r w1 ⟨rfl, rfl⟩))
      go_ret3
      exact ⟨Below.refl _ _, .slice ha es.length hc, by rw [HN.out]; rfl, Or.inl ⟨rfl, by rw [HN.out]⟩⟩
    · have HHO := hidIt (refHolders _ es x w HSL.out hm (by omega) hlow)
      have hlt := holdersL_lt hlow x
      have hst := refStranger _ es t ((holdersL es x).2 ||| (holdersL es x).1) w HSL.out hm (or16 hlt.2 hlt.1)
      have HAR : Hid (accessR es 3 t x vv = if strangerL es t ((holdersL es x).2 ||| (holdersL es x).1) = true then (es, 0, 9) else if 60 ≤ es.length then (es, 0, 10) else (es ++ [⟨3, t, x, vv, 0⟩], 0, 0)) := by show _ = _; unfold accessR; rw [if_neg (by rw [ho]; decide), if_neg hx]; rfl
      obtain ⟨⟨am, rm⟩, hho⟩ : ∃ y, holdersL es x = y := ⟨_, rfl⟩
      rw [hho] at HHO hlt hst HAR
      simp only at HHO hlt hst HAR
      obtain ⟨sb, hsb⟩ : ∃ y, strangerL es t (rm ||| am) = y := ⟨_, rfl⟩
      rw [hsb] at hst HAR
      have HST := hidIt hst
      have HOR := hidIt (u16_or_nat rm am hlt.2 hlt.1)
      have HIS := hidIt (refIs _ es t x w HSL.out hm)
      clear hho hsb hst ho hlow hx hlt
      cases sb with
      | true =>
        have HN : Hid (accessR es 3 t x vv = (es, 0, 9)) := by show _ = _; rw [HAR.out, if_pos rfl]
        go_enter Tryz.func38, Tryz.ntmps38
        go_wp2_with (first | (go_at_call 59; refine HOP.out.mono ?_; rintro r w1 ⟨rfl, rfl⟩) | (go_at_call 31; refine HHO.out.mono ?_; rintro r w1 ⟨rfl, rfl⟩) | (go_at_call 63; rw [HOR.out]; refine HST.out.mono ?_; rintro r w1 ⟨rfl, rfl⟩))
        go_ret3
        exact ⟨Below.refl _ _, .slice ha es.length hc, by rw [HN.out]; rfl, Or.inl ⟨rfl, by rw [HN.out]⟩⟩
      | false =>
        obtain ⟨seen, hseen⟩ : ∃ y, isL es t x = y := ⟨_, rfl⟩
        rw [hseen] at HIS
        clear hseen
        go_enter Tryz.func38, Tryz.ntmps38
        go_wp2_with (first | (go_at_call 59; refine HOP.out.mono ?_; rintro r w1 ⟨rfl, rfl⟩) | (go_at_call 31; refine HHO.out.mono ?_; rintro r w1 ⟨rfl, rfl⟩) | (go_at_call 63; rw [HOR.out]; refine HST.out.mono ?_; rintro r w1 ⟨rfl, rfl⟩))
        refine HIS.out.mono ?_
        rintro r w2 ⟨rfl, hb2⟩
        have hbe : Below w2.heap.size w2 (w2.alloc (.cells #[.int .u8 3, .int .u8 t, .int .u8 x, .int .i32 vv, .int .i32 0] 45)) := (Below.refl _ _).alloc (Nat.le_refl _) _
        have HAD := hidIt (refAdd _ es 3 t x vv 0 B _ ((HH.out.below hb2).below hbe) hm)
        have HB3 := hidIt (hb2.trans (hbe.mono hb2.size))
        clear hbe
        go_wp2_with fail
        refine HAD.out.mono ?_
        rintro r w3 ⟨hb3, ⟨h60, rfl⟩ | ⟨h60, a2, c2, rfl, hh2⟩⟩
        · have HN : Hid (accessR es 3 t x vv = (es, 0, 10)) := by show _ = _; rw [HAR.out, if_neg (by decide), if_pos h60]
          go_wp2_with fail
          go_ret3
          exact ⟨HB3.out.trans (hb3.mono HB3.out.size), .slice ha es.length hc, by rw [HN.out]; rfl, Or.inl ⟨rfl, by rw [HN.out]⟩⟩
        · have HN : Hid (accessR es 3 t x vv = (es ++ [⟨3, t, x, vv, 0⟩], 0, 0)) := by show _ = _; rw [HAR.out, if_neg (by decide), if_neg (by omega)]
          have HR := hidIt hh2
          clear hh2
          go_wp2_with fail
          go_ret3
          exact ⟨HB3.out.trans (hb3.mono HB3.out.size), .slice a2 (es.length + 1) c2, by rw [HN.out]; rfl, Or.inr (by rw [HN.out]; exact ⟨ownsRow_mono HR.out.1 HB3.out.size, HR.out.2⟩)⟩

set_option maxRecDepth 100000 in
set_option maxHeartbeats 4000000 in
theorem refAdd_ (v0 : Value) (es : List Ev) (t x vv : Int) (B : Nat) (w : World) (h : Hist w B v0 es) (hm : es.length ≤ 1048576) (hlow : Low15 es) :
    Calls Tryz.prog 38 #[v0, .int .u8 4, .int .u8 t, .int .u8 x, .int .i32 vv] w (AccessPost w v0 es 4 t x vv) := by
  have HH := hidIt h
  obtain ⟨ha, hc, rfl⟩ := h.1.form
  obtain ⟨o, ho⟩ : ∃ o, openL es t = o := ⟨_, rfl⟩
  have HOP := hidIt (refOpen _ es t w h.slEv hm)
  rw [ho] at HOP
  have HSL := hidIt h.slEv
  clear h
  cases o with
  | false =>
    have HN : Hid (accessR es 4 t x vv = (es, 0, 4)) := by show _ = _; unfold accessR; rw [if_pos ho]
    clear ho
    go_enter Tryz.func38, Tryz.ntmps38
    go_wp2_with (go_at_call 59; refine HOP.out.mono ?_; rintro r w1 ⟨rfl, rfl⟩)
    go_ret3
    exact ⟨Below.refl _ _, .slice ha es.length hc, by rw [HN.out]; rfl, Or.inl ⟨rfl, by rw [HN.out]⟩⟩
  | true =>
    by_cases hx : 4 ≤ x
    · have HN : Hid (accessR es 4 t x vv = (es, 0, 6)) := by show _ = _; unfold accessR; rw [if_neg (by rw [ho]; decide), if_pos hx]
      have HHO := hidIt (refHolders_bad _ es x w HSL.out hx)
      clear ho
      go_enter Tryz.func38, Tryz.ntmps38
      go_wp2_with (first | (go_at_call 59; refine HOP.out.mono ?_; rintro r w1 ⟨rfl, rfl⟩) | (go_at_call 31; refine HHO.out.mono ?_; rintro r w1 ⟨rfl, rfl⟩))
      go_ret3
      exact ⟨Below.refl _ _, .slice ha es.length hc, by rw [HN.out]; rfl, Or.inl ⟨rfl, by rw [HN.out]⟩⟩
    · have HHO := hidIt (refHolders _ es x w HSL.out hm (by omega) hlow)
      have hlt := holdersL_lt hlow x
      have hst := refStranger _ es t ((holdersL es x).2 ||| (holdersL es x).1) w HSL.out hm (or16 hlt.2 hlt.1)
      have HAR : Hid (accessR es 4 t x vv = if strangerL es t ((holdersL es x).2 ||| (holdersL es x).1) = true then (es, 0, 9) else if 60 ≤ es.length then (es, 0, 10) else (es ++ [⟨4, t, x, vv, (isL es t x)⟩], wrap32 (isL es t x + vv), 0)) := by show _ = _; unfold accessR; rw [if_neg (by rw [ho]; decide), if_neg hx]; rfl
      obtain ⟨⟨am, rm⟩, hho⟩ : ∃ y, holdersL es x = y := ⟨_, rfl⟩
      rw [hho] at HHO hlt hst HAR
      simp only at HHO hlt hst HAR
      obtain ⟨sb, hsb⟩ : ∃ y, strangerL es t (rm ||| am) = y := ⟨_, rfl⟩
      rw [hsb] at hst HAR
      have HST := hidIt hst
      have HOR := hidIt (u16_or_nat rm am hlt.2 hlt.1)
      have HIS := hidIt (refIs _ es t x w HSL.out hm)
      clear hho hsb hst ho hlow hx hlt
      cases sb with
      | true =>
        have HN : Hid (accessR es 4 t x vv = (es, 0, 9)) := by show _ = _; rw [HAR.out, if_pos rfl]
        go_enter Tryz.func38, Tryz.ntmps38
        go_wp2_with (first | (go_at_call 59; refine HOP.out.mono ?_; rintro r w1 ⟨rfl, rfl⟩) | (go_at_call 31; refine HHO.out.mono ?_; rintro r w1 ⟨rfl, rfl⟩) | (go_at_call 63; rw [HOR.out]; refine HST.out.mono ?_; rintro r w1 ⟨rfl, rfl⟩))
        go_ret3
        exact ⟨Below.refl _ _, .slice ha es.length hc, by rw [HN.out]; rfl, Or.inl ⟨rfl, by rw [HN.out]⟩⟩
      | false =>
        obtain ⟨seen, hseen⟩ : ∃ y, isL es t x = y := ⟨_, rfl⟩
        rw [hseen] at HIS HAR
        clear hseen
        go_enter Tryz.func38, Tryz.ntmps38
        go_wp2_with (first | (go_at_call 59; refine HOP.out.mono ?_; rintro r w1 ⟨rfl, rfl⟩) | (go_at_call 31; refine HHO.out.mono ?_; rintro r w1 ⟨rfl, rfl⟩) | (go_at_call 63; rw [HOR.out]; refine HST.out.mono ?_; rintro r w1 ⟨rfl, rfl⟩))
        refine HIS.out.mono ?_
        rintro r w2 ⟨rfl, hb2⟩
        have hbe : Below w2.heap.size w2 (w2.alloc (.cells #[.int .u8 4, .int .u8 t, .int .u8 x, .int .i32 vv, .int .i32 seen] 45)) := (Below.refl _ _).alloc (Nat.le_refl _) _
        have HAD := hidIt (refAdd _ es 4 t x vv seen B _ ((HH.out.below hb2).below hbe) hm)
        have HB3 := hidIt (hb2.trans (hbe.mono hb2.size))
        clear hbe
        go_wp2_with fail
        refine HAD.out.mono ?_
        rintro r w3 ⟨hb3, ⟨h60, rfl⟩ | ⟨h60, a2, c2, rfl, hh2⟩⟩
        · have HN : Hid (accessR es 4 t x vv = (es, 0, 10)) := by show _ = _; rw [HAR.out, if_neg (by decide), if_pos h60]
          go_wp2_with fail
          go_ret3
          exact ⟨HB3.out.trans (hb3.mono HB3.out.size), .slice ha es.length hc, by rw [HN.out]; rfl, Or.inl ⟨rfl, by rw [HN.out]⟩⟩
        · have HN : Hid (accessR es 4 t x vv = (es ++ [⟨4, t, x, vv, seen⟩], wrap32 (seen + vv), 0)) := by show _ = _; rw [HAR.out, if_neg (by decide), if_neg (by omega)]
          have HR := hidIt hh2
          clear hh2
          go_wp2_with fail
          go_ret3
          exact ⟨HB3.out.trans (hb3.mono HB3.out.size), .slice a2 (es.length + 1) c2, by rw [HN.out]; rfl, Or.inr (by rw [HN.out]; exact ⟨ownsRow_mono HR.out.1 HB3.out.size, HR.out.2⟩)⟩

end Go.Proofs.YtfdalbmopaemgabGreatDoor
