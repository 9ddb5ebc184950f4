import Derived.Test.YtfdalbmopaemgaaGreatDoorZS4
import Derived.Test.YtfdalbmopaemgaaGreatDoorZG5
namespace Go.Proofs.YtfdalbmopaemgaaGreatDoor
open Go.RowKit

def valsK (es : List Ev) (k : Nat) : Nat → Int := fun i => if i < k then isL es 0 (i : Int) else 0

theorem valsK_succ (es : List Ev) (k : Nat) : upd (valsK es k) k (isL es 0 (k : Int)) = valsK es (k + 1) := by
  funext i
  unfold upd valsK
  by_cases e : i = k
  · subst e; rw [if_pos rfl, if_pos (by omega)]
  · rw [if_neg e]
    by_cases h : i < k
    · rw [if_pos h, if_pos (by omega)]
    · rw [if_neg h, if_neg (by omega)]

set_option maxRecDepth 100000 in
set_option maxHeartbeats 2000000 in
theorem refValues (v : Value) (es : List Ev) (w : World) (hs : SlEv w v es) (hm : es.length ≤ 1048576) :
    Calls Tryz.prog 38 #[v] w fun r w' => r = .returned (valsV fun i => isL es 0 (i : Int)) ∧ Below w.heap.size w w' := by
  have HS := hidIt hs
  obtain ⟨ad, c, rfl⟩ := slice_form hs
  clear hs
  have hb0 : Below w.heap.size w (w.alloc (.cells #[.int .i32 0, .int .i32 0, .int .i32 0, .int .i32 0] 58)) := (Below.refl _ _).alloc (Nat.le_refl _) _
  have hb1 : Below (w.heap.size + 1) (w.alloc (.cells #[.int .i32 0, .int .i32 0, .int .i32 0, .int .i32 0] 58)) ((w.alloc (.cells #[.int .i32 0, .int .i32 0, .int .i32 0, .int .i32 0] 58)).alloc (.cells #[.int .i32 0, .int .i32 0, .int .i32 0, .int .i32 0] 58)) := (Below.refl _ _).alloc (by simp) _
  have hvr := (vat_new w 58).below (w' := (w.alloc (.cells #[.int .i32 0, .int .i32 0, .int .i32 0, .int .i32 0] 58)).alloc (.cells #[.int .i32 0, .int .i32 0, .int .i32 0, .int .i32 0] 58)) (by simpa using hb1)
  have hvv := vat_new (w.alloc (.cells #[.int .i32 0, .int .i32 0, .int .i32 0, .int .i32 0] 58)) 58
  rw [World.size_alloc] at hvv
  have HST : Hid (VAt ((w.alloc (.cells #[.int .i32 0, .int .i32 0, .int .i32 0, .int .i32 0] 58)).alloc (.cells #[.int .i32 0, .int .i32 0, .int .i32 0, .int .i32 0] 58)) (w.heap.size + 1) (valsK es 0)) := by
    have h7 : valsK es 0 = fun _ => 0 := by funext i; unfold valsK; rw [if_neg (by omega)]
    show VAt _ _ _
    rw [h7]
    exact hvv
  have HVR := hidIt hvr
  have HBB : Hid (Below w.heap.size w ((w.alloc (.cells #[.int .i32 0, .int .i32 0, .int .i32 0, .int .i32 0] 58)).alloc (.cells #[.int .i32 0, .int .i32 0, .int .i32 0, .int .i32 0] 58))) := hb0.trans (hb1.mono (by omega))
  clear hb0 hb1 hvr hvv
  go_enter Tryz.func38, Tryz.ntmps38
  go_wp2_with fail
  go_loopw [4] (fun i wr => ∃ k : Nat, k ≤ 4 ∧ i = .int .i64 k ∧ VAt wr (w.heap.size + 1) (valsK es k) ∧ VAt wr w.heap.size (fun _ => 0) ∧ Below w.heap.size w wr) (fun i _ => 4 - (intOf i).toNat)
  case atStart => exact ⟨0, by omega, rfl, HST.out, HVR.out, HBB.out⟩
  case round =>
    clear HST HVR HBB
    obtain ⟨k, hk, rfl, hva, hvr, hnx⟩ := hrel
    by_cases hlt : k < 4
    · have hlt' : (k : Int) < 4 := by omega
      have hk0 : (0 : Int) ≤ (k : Int) := by omega
      have HC := hidIt (refIs _ es 0 (k : Int) wr (HS.out.below hnx) hm)
      have HVA := hidIt hva
      have HVR := hidIt hvr
      clear hva hvr
      go_wp2_with fail
      refine HC.out.mono ?_
      rintro r w1 ⟨rfl, hb1⟩
      have HA1 := hidIt (HVA.out.below hb1)
      have c1 := HA1.out.cell k hlt
      have f1 := HA1.out.fz k
      have hset := HA1.out.set k hlt (isL es 0 (k : Int))
      rw [valsK_succ] at hset
      have HSET := hidIt hset
      have HR1 : Hid (VAt (w1.setCell ⟨w.heap.size + 1, k, none⟩ (.int .i32 (isL es 0 (k : Int)))) w.heap.size fun _ => 0) := (HVR.out.below hb1).of_heap (Below.heap_setCell _ ⟨w.heap.size + 1, k, none⟩ _ _ (by simp)) (by simp)
      have HB1 : Hid (Below w.heap.size w (w1.setCell ⟨w.heap.size + 1, k, none⟩ (.int .i32 (isL es 0 (k : Int))))) := (hnx.trans (hb1.mono hnx.size)).setCell (p := ⟨w.heap.size + 1, k, none⟩) (by simp) _
      clear hset
      go_wp2_with fail
      go_roundw
      case rel => exact ⟨k + 1, by omega, by go_num, HSET.out, HR1.out, HB1.out⟩
      case measure => simp [intOf]; omega
    · have hge : ¬ (k : Int) < 4 := by omega
      have hk4 : k = 4 := by omega
      subst hk4
      have c0 := hva.cell 0 (by omega)
      have c1 := hva.cell 1 (by omega)
      have c2 := hva.cell 2 (by omega)
      have c3 := hva.cell 3 (by omega)
      have q0 := hvr.cell 0 (by omega)
      have q1 := hvr.cell 1 (by omega)
      have q2 := hvr.cell 2 (by omega)
      have q3 := hvr.cell 3 (by omega)
      have f0 := hvr.fz
      clear hva hvr
      go_wp2_with fail
      exact bodyPost_ret (v := valsV fun i => isL es 0 (i : Int)) (by simp [results, Tryz.results38, go_sem, q0, q1, q2, q3, valsK]) rfl ⟨rfl, set4_below hnx _ (Nat.le_refl _) _ _ _ _⟩

end Go.Proofs.YtfdalbmopaemgaaGreatDoor

namespace Go.Proofs.YtfdalbmopaemgaaGreatDoor
open Go.RowKit

/-! ### A history is written down -/
theorem wpList_append_any {P : Program} (w : World) {ops : Array Oper} {rest : List Oper} {o : Oper} {a : Act} {Q : Exit → Act → World → Prop} (hgd : o.guard = none) (s x : Operand) (t : TypeId)
    (ho : o.op = .call { callee := .builtin .append, args := #[s, x], argTypes := #[t, t] })
    (base : Nat) (e : TypeId) (i : TypeInfo) (z : Value) (size bytes : Nat) (ht : P.underlying t = some (.slice e)) (hi : P.info? e = some i) (hz : i.zero = some z)
    (hsize : i.size = size) (hby : i.bytes = bytes) (hzs : z.cells.size = size) (hsz : 0 < size)
    (v : Value) (n : Nat) (xs : List Value) (hs : a.eval s = v) (hown : w.ownsRow base e size v n xs)
    (ao : Option Addr) (m c : Nat) (news : List Value) (hx : a.eval x = .slice ao m c) (hnil : m = 0 → ao = none ∧ c = 0) (hsome : ao = none → m = 0) (hl : news.length = m * size)
    (hnews : ∀ ad, ao = some ad → ∀ j u, news[j]? = some u → w.cell? (ad.add j) = some u) (h1 : ∀ u ∈ news, u.oneCell' = true)
    (h63 : n + m ≤ maxLen) (hbytes : (n + m) * bytes ≤ 140737488355328) (hbase : base ≤ w.heap.size)
    (h : ∀ v' w', w'.ownsRow base e size v' (n + m) (xs ++ news) → AppPost0 w w' v v' m → wpList P ops Q rest (a.put o.dst v') w') : wpList P ops Q (o :: rest) a w := by
  refine wpList_plain hgd fun K hK' => ?_
  obtain ⟨v', w', hrun, r1, r2⟩ := run_append_two (P := P) w t o.type base e i z size bytes ht hi hz hsize hby hzs hsz v n xs hown ao m c news hnil hsome hl hnews h1 h63 hbytes hbase
  unfold Oper.wp
  simp [execOp, ho, resolve, invoke, builtin, hs, hx, hrun, Result.andThen]
  exact hK' _ _ (h v' w' r1 r2)

def Hist (w : World) (B : Nat) (v : Value) (es : List Ev) : Prop := Own w B v es ∧ (es = [] → v = .slice none 0 0)

theorem own_cells5 {w : World} {B : Nat} {e : TypeId} {va : Option Addr} {n c : Nat} {xs : List Value} (h : w.ownsRow B e 5 (.slice va n c) n xs) : ∀ ad, va = some ad → ∀ j u, xs[j]? = some u → w.cell? (ad.add j) = some u := by
  intro ad had j u hu
  subst had
  rcases h.2 with ⟨h1, _⟩ | ⟨g, cap, cur, h1, _⟩
  · cases h1
  · simp only [Value.slice.injEq, Option.some.injEq] at h1
    obtain ⟨rfl, _, rfl⟩ := h1
    exact h.cells (g := g) rfl j u hu

theorem own_none5 {w : World} {B : Nat} {e : TypeId} {va : Option Addr} {n c : Nat} {xs : List Value} (h : w.ownsRow B e 5 (.slice va n c) n xs) : va = none → n = 0 := by
  intro hva
  subst hva
  rcases h.2 with ⟨h1, h2⟩ | ⟨g, cap, cur, h1, _⟩
  · exact h2
  · cases h1

def AddPost (w : World) (v : Value) (es : List Ev) (e : Ev) (r : Ending) (w' : World) : Prop :=
  Below w.heap.size w w' ∧ ((60 ≤ es.length ∧ r = .returned (.tuple #[v, .int .i64 10])) ∨ (es.length < 60 ∧ ∃ a c, r = .returned (.tuple #[.slice a (es.length + 1) c, .int .i64 0]) ∧ Hist w' w.heap.size (.slice a (es.length + 1) c) (es ++ [e])))

theorem Tryz.infoEv6 : (Tryz.prog.info? 41).map (fun i => (i.zero, i.size, i.bytes)) = some (some (.agg #[.int .u8 0, .int .u8 0, .int .u8 0, .int .i32 0, .int .i32 0]), 5, 12) := by kernel_rfl

theorem own_snoc6 {w : World} {B : Nat} {v : Value} {es : List Ev} {e : Ev} (h : w.ownsRow B 41 5 v (es.length + 1) (evCells es ++ evC e)) : Own w B v (es ++ [e]) := by
  unfold Own
  rw [evCells_append, List.length_append]
  simpa [evCells] using h

set_option maxRecDepth 100000 in
set_option maxHeartbeats 2000000 in
theorem refAdd (v : Value) (es : List Ev) (k t a vv s : Int) (B : Nat) (w : World) (h : Hist w B v es) (hm : es.length ≤ 1048576) :
    Calls Tryz.prog 66 #[v, evV ⟨k, t, a, vv, s⟩] w (AddPost w v es ⟨k, t, a, vv, s⟩) := by
  obtain ⟨hown, hnil⟩ := h
  obtain ⟨ha, hc, rfl⟩ := hown.form
  have hbx : Below w.heap.size w (w.alloc (.cells #[.int .u8 k, .int .u8 t, .int .u8 a, .int .i32 vv, .int .i32 s] 41)) := (Below.refl _ _).alloc (Nat.le_refl _) _
  by_cases h60 : 60 ≤ es.length
  · have h60' : (60 : Int) ≤ (es.length : Int) := by omega
    go_enter Tryz.func66, Tryz.ntmps66
    go_wp2_with fail
    go_ret2
    exact ⟨hbx, Or.inl ⟨h60, rfl⟩⟩
  · have h60' : ¬ (60 : Int) ≤ (es.length : Int) := by omega
    have hown1 := hown.below hbx
    have HN1 : Hid (es.length = 0 → ha = none ∧ hc = 0) := fun h0 => by
      have hn := hnil (List.length_eq_zero_iff.1 h0)
      simp only [Value.slice.injEq] at hn
      exact ⟨hn.1, hn.2.2⟩
    have HN2 : Hid (ha = none → es.length = 0) := own_none5 hown1
    have HN3 := hidIt (own_cells5 hown1)
    have HL5 := hidIt (evCells_length es)
    obtain ⟨i0, hi, hz0, hz1, hz2⟩ := info_parts Tryz.infoEv6
    have HI := hidIt hi
    have HZ0 := hidIt hz0
    have HZ1 := hidIt hz1
    have HZ2 := hidIt hz2
    clear hi hz0 hz1 hz2 hnil hown hown1
    go_enter Tryz.func66, Tryz.ntmps66
    go_wp2_with (at_builtin; refine wpList_append_any _ rfl _ _ 31 rfl w.heap.size 41 i0 (.agg #[.int .u8 0, .int .u8 0, .int .u8 0, .int .i32 0, .int .i32 0]) 5 12 Tryz.underlying31 HI.out HZ0.out HZ1.out HZ2.out rfl (by decide) (.slice none 0 0) 0 [] rfl (World.ownsRow_nil _ _ _ _) ha es.length hc (evCells es) rfl HN1.out HN2.out HL5.out HN3.out (evCells_one es) ?c1 ?c2 ?c3 ?_)
    case c1 => unfold maxLen; omega
    case c2 => omega
    intro v1 w1 hown1 happ1
    have hb1 : Below w.heap.size w w1 := hbx.trans ((happ1.below (B := w.heap.size + 1) (fun g hg => by simp [Value.ownBlock] at hg) (by simp)).mono (by omega))
    have hev : EvAt w1 w.heap.size 0 ⟨k, t, a, vv, s⟩ := EvAt.of_heap (w := w.alloc (.cells #[.int .u8 k, .int .u8 t, .int .u8 a, .int .i32 vv, .int .i32 s] 41)) ⟨by simp [go_sem], by simp [go_sem], by simp [go_sem], by simp [go_sem], by simp [go_sem]⟩ (happ1.block _ (by simp) (by simp [Value.ownBlock]))
    obtain ⟨y0, y1, y2, y3, y4⟩ := hev
    simp only [Nat.zero_add] at y0 y1 y2 y3 y4
    have hlt1 : w.heap.size < w1.heap.size := by have := happ1.size; simp at this; omega
    obtain ⟨a1, c1, rfl⟩ := ownsRow_form hown1
    clear happ1
    go_wp2_with (at_builtin; refine wpList_append_own _ rfl _ _ 31 rfl w.heap.size 41 i0 (.agg #[.int .u8 0, .int .u8 0, .int .u8 0, .int .i32 0, .int .i32 0]) 5 12 Tryz.underlying31 HI.out HZ0.out HZ1.out HZ2.out rfl (by decide) _ _ _ rfl (World.ownsRow.alloc hown1 _) ⟨w1.heap.size, 0, none⟩ 1 1 (evC ⟨k, t, a, vv, s⟩) rfl rfl ?d1 ?d2 ?d3 ?d4 ?d5 ?_)
    case d1 => exact evC_new1 w1 _ ⟨k, t, a, vv, s⟩
    case d2 => exact evC_one _
    case d3 => unfold maxLen; omega
    case d4 => omega
    case d5 => simp; omega
    intro v2 w2 hown2 hgrow2 _
    have hb2 : Below w.heap.size w w2 := by
      refine Below.grown (hb1.alloc hb1.size _) hgrow2 (by simp; omega) (fun j hj => ?_)
      exact (World.ownsRow.lt hown1 j hj).1
    obtain ⟨a2, c2, rfl⟩ := ownsRow_form hown2
    have HR := hidIt (And.intro hb2 (own_snoc6 hown2))
    clear hown1 hown2 hgrow2 hb2
    go_wp2_with fail
    go_ret2
    exact ⟨HR.out.1, Or.inr ⟨by omega, a2, c2, rfl, HR.out.2, fun q => by simp at q⟩⟩

end Go.Proofs.YtfdalbmopaemgaaGreatDoor

namespace Go.Proofs.YtfdalbmopaemgaaGreatDoor
open Go.RowKit

/-! ### Begin, Commit, Abort, by the document: the events behind the call, the number, the error -/
def beginR (es : List Ev) (up : Int) : List Ev × Int × Int :=
  if up ≠ 0 ∧ openL es up = false then (es, 0, 5)
  else if 15 ≤ countL es then (es, 0, 10)
  else if 60 ≤ es.length then (es, 0, 10)
  else (es ++ [⟨1, (countL es : Int) + 1, up, 0, 0⟩], (countL es : Int) + 1, 0)

def endR (es : List Ev) (k t : Int) : List Ev × Int :=
  if openL es t = false then (es, 4)
  else if k = 5 ∧ childL es t = true then (es, 8)
  else if 60 ≤ es.length then (es, 10)
  else (es ++ [⟨k, t, 0, 0, 0⟩], 0)

/-- What comes out is the old list, or a new row. -/
def HistOut (w w' : World) (v v' : Value) (es es' : List Ev) : Prop := (v' = v ∧ es' = es) ∨ (Hist w' w.heap.size v' es')

def BeginPost (w : World) (v : Value) (es : List Ev) (up : Int) (r : Ending) (w' : World) : Prop :=
  Below w.heap.size w w' ∧ ∃ v', r = .returned (.tuple #[v', .int .u8 (beginR es up).2.1, .int .i64 (beginR es up).2.2]) ∧ HistOut w w' v v' es (beginR es up).1

def EndPost (w : World) (v : Value) (es : List Ev) (k t : Int) (r : Ending) (w' : World) : Prop :=
  Below w.heap.size w w' ∧ ∃ v', r = .returned (.tuple #[v', .int .i64 (endR es k t).2]) ∧ HistOut w w' v v' es (endR es k t).1

theorem Hist.slEv {w : World} {B : Nat} {v : Value} {es : List Ev} (h : Hist w B v es) : SlEv w v es := h.1.slEv
theorem Hist.below {w w' : World} {B : Nat} {v : Value} {es : List Ev} (h : Hist w B v es) (hb : Below w.heap.size w w') : Hist w' B v es := ⟨h.1.below hb, h.2⟩

set_option maxRecDepth 100000 in
set_option maxHeartbeats 2000000 in
theorem refBegin (v : Value) (es : List Ev) (up : Int) (B : Nat) (w : World) (h : Hist w B v es) (hm : es.length ≤ 1048576) :
    Calls Tryz.prog 41 #[v, .int .u8 up] w (BeginPost w v es up) := by
  have HH := hidIt h
  obtain ⟨ha, hc, rfl⟩ := h.1.form
  obtain ⟨o, ho⟩ : ∃ o, openL es up = o := ⟨_, rfl⟩
  have HOP := hidIt (refOpen _ es up w h.slEv hm)
  rw [ho] at HOP
  have HCN := hidIt (refCount _ es w h.slEv hm)
  clear h
  by_cases h5 : up ≠ 0 ∧ o = false
  · have hup : (up != 0) = true := by simpa using h5.1
    have HN : Hid (beginR es up = (es, 0, 5)) := by show _ = _; unfold beginR; rw [if_pos ⟨h5.1, by rw [ho]; exact h5.2⟩]
    obtain rfl := h5.2
    clear h5 ho
    go_enter Tryz.func41, Tryz.ntmps41
    go_wp2_with (go_at_call 64; refine HOP.out.mono ?_; rintro r w1 ⟨rfl, rfl⟩)
    go_ret3
    exact ⟨Below.refl _ _, .slice ha es.length hc, by rw [HN.out]; rfl, Or.inl ⟨rfl, by rw [HN.out]⟩⟩
  · have HB1 : Hid (beginR es up = if 15 ≤ countL es then (es, 0, 10) else if 60 ≤ es.length then (es, 0, 10) else (es ++ [⟨1, (countL es : Int) + 1, up, 0, 0⟩], (countL es : Int) + 1, 0)) := by show _ = _; unfold beginR; rw [if_neg (by rw [ho]; exact h5)]
    have hg : ((up != 0) = false) ∨ ((up != 0) = true ∧ o = true) := by
      by_cases hz : up = 0
      · exact Or.inl (by simpa using hz)
      · refine Or.inr ⟨by simpa using hz, ?_⟩
        cases o with
        | true => rfl
        | false => exact absurd ⟨hz, rfl⟩ h5
    clear h5 ho
    obtain ⟨n, hn⟩ : ∃ n, countL es = n := ⟨_, rfl⟩
    rw [hn] at HCN HB1
    have hnl : n ≤ es.length := by rw [← hn]; exact countL_le es
    clear hn
    by_cases h15 : 15 ≤ n
    · have h15' : (15 : Int) ≤ (n : Int) := by omega
      have HN : Hid (beginR es up = (es, 0, 10)) := by show _ = _; rw [HB1.out, if_pos h15]
      rcases hg with hg | ⟨hg, rfl⟩
      all_goals
        go_enter Tryz.func41, Tryz.ntmps41
        go_wp2_with (first | (go_at_call 64; refine HOP.out.mono ?_; rintro r w1 ⟨rfl, rfl⟩) | (go_at_call 65; refine HCN.out.mono ?_; rintro r w1 ⟨rfl, rfl⟩))
        go_ret3
        exact ⟨Below.refl _ _, .slice ha es.length hc, by rw [HN.out]; rfl, Or.inl ⟨rfl, by rw [HN.out]⟩⟩
    · have h15' : ¬ (15 : Int) ≤ (n : Int) := by omega
      have hn0 : (0 : Int) ≤ (n : Int) := by omega
      have HAD := hidIt (refAdd _ es 1 ((n : Int) + 1) up 0 0 B w HH.out hm)
      by_cases h60 : 60 ≤ es.length
      · have HN : Hid (beginR es up = (es, 0, 10)) := by show _ = _; rw [HB1.out, if_neg h15, if_pos h60]
        rcases hg with hg | ⟨hg, rfl⟩
        all_goals
          go_enter Tryz.func41, Tryz.ntmps41
          go_wp2_with (first | (go_at_call 64; refine HOP.out.mono ?_; rintro r w1 ⟨rfl, rfl⟩) | (go_at_call 65; refine HCN.out.mono ?_; rintro r w1 ⟨rfl, rfl⟩))
          refine HAD.out.mono ?_
          rintro r w2 ⟨hb2, ⟨_, rfl⟩ | ⟨hq, _⟩⟩
          · go_wp2_with fail
            go_ret3
            exact ⟨hb2, .slice ha es.length hc, by rw [HN.out]; rfl, Or.inl ⟨rfl, by rw [HN.out]⟩⟩
          · omega
      · have HN : Hid (beginR es up = (es ++ [⟨1, (n : Int) + 1, up, 0, 0⟩], (n : Int) + 1, 0)) := by show _ = _; rw [HB1.out, if_neg h15, if_neg h60]
        rcases hg with hg | ⟨hg, rfl⟩
        all_goals
          go_enter Tryz.func41, Tryz.ntmps41
          go_wp2_with (first | (go_at_call 64; refine HOP.out.mono ?_; rintro r w1 ⟨rfl, rfl⟩) | (go_at_call 65; refine HCN.out.mono ?_; rintro r w1 ⟨rfl, rfl⟩))
          refine HAD.out.mono ?_
          rintro r w2 ⟨hb2, ⟨hq, _⟩ | ⟨_, a2, c2, rfl, hh2⟩⟩
          · omega
          · have HR := hidIt (And.intro hb2 hh2)
            clear hb2 hh2
            go_wp2_with fail
            go_ret3
            exact ⟨HR.out.1, .slice a2 (es.length + 1) c2, by rw [HN.out]; rfl, Or.inr (by rw [HN.out]; exact HR.out.2)⟩

set_option maxRecDepth 100000 in
set_option maxHeartbeats 2000000 in
theorem refEnd (v : Value) (es : List Ev) (k t : Int) (B : Nat) (w : World) (h : Hist w B v es) (hm : es.length ≤ 1048576) :
    Calls Tryz.prog 47 #[v, .int .u8 k, .int .u8 t] w (EndPost w v es k t) := by
  have HH := hidIt h
  obtain ⟨ha, hc, rfl⟩ := h.1.form
  obtain ⟨o, ho⟩ : ∃ o, openL es t = o := ⟨_, rfl⟩
  have HOP := hidIt (refOpen _ es t w h.slEv hm)
  rw [ho] at HOP
  obtain ⟨ch, hch⟩ : ∃ o, childL es t = o := ⟨_, rfl⟩
  have HCH := hidIt (refChild _ es t w h.slEv hm)
  rw [hch] at HCH
  clear h
  cases o with
  | false =>
    have HN : Hid (endR es k t = (es, 4)) := by show _ = _; unfold endR; rw [if_pos ho]
    clear ho hch
    go_enter Tryz.func47, Tryz.ntmps47
    go_wp2_with (go_at_call 64; refine HOP.out.mono ?_; rintro r w1 ⟨rfl, rfl⟩)
    go_ret2
    exact ⟨Below.refl _ _, .slice ha es.length hc, by rw [HN.out]; rfl, Or.inl ⟨rfl, by rw [HN.out]⟩⟩
  | true =>
    have HE1 : Hid (endR es k t = if k = 5 ∧ ch = true then (es, 8) else if 60 ≤ es.length then (es, 10) else (es ++ [⟨k, t, 0, 0, 0⟩], 0)) := by show _ = _; unfold endR; rw [if_neg (by rw [ho]; decide), hch]
    clear ho hch
    by_cases h8 : k = 5 ∧ ch = true
    · have hk5 : (k == 5) = true := by simpa using h8.1
      have HN : Hid (endR es k t = (es, 8)) := by show _ = _; rw [HE1.out, if_pos h8]
      obtain rfl := h8.2
      clear h8
      go_enter Tryz.func47, Tryz.ntmps47
      go_wp2_with (first | (go_at_call 64; refine HOP.out.mono ?_; rintro r w1 ⟨rfl, rfl⟩) | (go_at_call 72; refine HCH.out.mono ?_; rintro r w1 ⟨rfl, rfl⟩))
      go_ret2
      exact ⟨Below.refl _ _, .slice ha es.length hc, by rw [HN.out]; rfl, Or.inl ⟨rfl, by rw [HN.out]⟩⟩
    · have hg : ((k == 5) = false) ∨ ((k == 5) = true ∧ ch = false) := by
        by_cases hz : k = 5
        · refine Or.inr ⟨by simpa using hz, ?_⟩
          cases ch with
          | false => rfl
          | true => exact absurd ⟨hz, rfl⟩ h8
        · exact Or.inl (by simpa using hz)
      rw [if_neg h8] at HE1
      clear h8
      have HAD := hidIt (refAdd _ es k t 0 0 0 B w HH.out hm)
      by_cases h60 : 60 ≤ es.length
      · have HN : Hid (endR es k t = (es, 10)) := by show _ = _; rw [HE1.out, if_pos h60]
        rcases hg with hg | ⟨hg, rfl⟩
        all_goals
          go_enter Tryz.func47, Tryz.ntmps47
          go_wp2_with (first | (go_at_call 64; refine HOP.out.mono ?_; rintro r w1 ⟨rfl, rfl⟩) | (go_at_call 72; refine HCH.out.mono ?_; rintro r w1 ⟨rfl, rfl⟩))
          refine HAD.out.mono ?_
          rintro r w2 ⟨hb2, ⟨_, rfl⟩ | ⟨hq, _⟩⟩
          · go_wp2_with fail
            go_ret2
            exact ⟨hb2, .slice ha es.length hc, by rw [HN.out]; rfl, Or.inl ⟨rfl, by rw [HN.out]⟩⟩
          · omega
      · have HN : Hid (endR es k t = (es ++ [⟨k, t, 0, 0, 0⟩], 0)) := by show _ = _; rw [HE1.out, if_neg h60]
        rcases hg with hg | ⟨hg, rfl⟩
        all_goals
          go_enter Tryz.func47, Tryz.ntmps47
          go_wp2_with (first | (go_at_call 64; refine HOP.out.mono ?_; rintro r w1 ⟨rfl, rfl⟩) | (go_at_call 72; refine HCH.out.mono ?_; rintro r w1 ⟨rfl, rfl⟩))
          refine HAD.out.mono ?_
          rintro r w2 ⟨hb2, ⟨hq, _⟩ | ⟨_, a2, c2, rfl, hh2⟩⟩
          · omega
          · have HR := hidIt (And.intro hb2 hh2)
            clear hb2 hh2
            go_wp2_with fail
            go_ret2
            exact ⟨HR.out.1, .slice a2 (es.length + 1) c2, by rw [HN.out]; rfl, Or.inr (by rw [HN.out]; exact HR.out.2)⟩

end Go.Proofs.YtfdalbmopaemgaaGreatDoor
