import Derived.Test.YtfdalbmopaemgabGreatDoorL5
namespace Go.Proofs.YtfdalbmopaemgabGreatDoor
open Go.RowKit

structure OpAt (w : World) (b o : Nat) (d : OpD) : Prop where
  c0 : w.cell? ⟨b, o, none⟩ = some (.int .i64 d.k)
  c1 : w.cell? ⟨b, o + 1, none⟩ = some (.int .i64 d.n)
  c2 : w.cell? ⟨b, o + 2, none⟩ = some (.int .u8 d.t)
  c3 : w.cell? ⟨b, o + 3, none⟩ = some (.int .u8 d.x)
  c4 : w.cell? ⟨b, o + 4, none⟩ = some (.int .i32 d.v)
  c5 : w.cell? ⟨b, o + 5, none⟩ = some d.hv
  c6 : w.cell? ⟨b, o + 6, none⟩ = some (.string d.s)

theorem OpAt.below {w w' : World} {B b o : Nat} {d : OpD} (h : OpAt w b o d) (hB : b < B) (hb : Below B w w') : OpAt w' b o d :=
  ⟨by rw [bcells hb _ _ hB]; exact h.c0, by rw [bcells hb _ _ hB]; exact h.c1, by rw [bcells hb _ _ hB]; exact h.c2, by rw [bcells hb _ _ hB]; exact h.c3, by rw [bcells hb _ _ hB]; exact h.c4,
   by rw [bcells hb _ _ hB]; exact h.c5, by rw [bcells hb _ _ hB]; exact h.c6⟩

/-- The slice value v holds the script ds. -/
def SlOp (w : World) (v : Value) (ds : List OpD) : Prop :=
  (ds = [] ∧ ∃ a c, v = .slice a 0 c) ∨ (∃ b off cap, v = .slice (some ⟨b, off, none⟩) ds.length cap ∧ b < w.heap.size ∧ ∀ (i : Nat) (h : i < ds.length), OpAt w b (off + i * 7) ds[i])

def StepOk (K : Int) : Prop := ∀ (B wb : Nat) (hv : Value) (hs : List (Value × Int)) (o : OpD) (es : List Ev) (w : World), o.k = K → Inv w B wb hv hs → OpOk w B o es → hs.length ≤ 10000000 → Tab w →
  Calls Tryz.prog 7 #[.pointer (some ⟨wb, 0, none⟩), opV o] w (StepPost w B wb hs.length)

set_option maxRecDepth 100000 in
set_option maxHeartbeats 1000000 in
theorem step_print : StepOk 1 := by
  intro B wb hv hs o es w hk h hop hH ht
  obtain ⟨ha, hc, hvf⟩ := slice_form hop.sl
  obtain ⟨ok, on, ot, ox, ov, ohv, os⟩ := o
  simp only at hk hvf
  subst hk hvf
  have hbx := (Below.refl w.heap.size w).alloc (Nat.le_refl _) (opC ⟨1, on, ot, ox, ov, .slice ha es.length hc, os⟩)
  have hBw : B ≤ w.heap.size := Nat.le_trans h.base (Nat.le_of_lt h.wb_lt)
  have HC := hidIt (printed_any B wb hv hs ⟨1, on, ot, ox, ov, .slice ha es.length hc, os⟩ es _ (h.below hbx) (hop.stay (hbx.mono hBw)) hH (ht.below ht.2 hbx))
  clear h hop
  go_enter Tryz.func7, Tryz.ntmps7
  go_wp2_with fail
  refine HC.out.mono ?_
  rintro r w1 ⟨rfl, hv', hs', h1, h2, h3⟩
  have HR := hidIt (And.intro h1 (And.intro h2 h3))
  clear h1 h2 h3
  go_wp2_with fail
  go_ret
  exact ⟨rfl, hv', hs', HR.out.1, HR.out.2.1, (hbx.mono hBw).trans HR.out.2.2⟩

theorem inv_start (w : World) (T : TypeId) : Inv (w.alloc (.cells #[.slice none 0 0, .slice none 0 0] T)) w.heap.size w.heap.size (.slice none 0 0) [] :=
  ⟨by simp [go_sem], by simp [go_sem], World.ownsRow_nil _ _ _ _, by simp [Value.ownBlock], Nat.le_refl _, fun x hx => by cases hx⟩

def LoopU (w : World) (B : Nat) (k : Nat) (wr : World) : Prop := ∃ hv hs, Inv wr B B hv hs ∧ hs.length ≤ 4 * k ∧ Below B w wr

set_option maxRecDepth 100000 in
set_option maxHeartbeats 4000000 in
theorem upTo_any (K : Int) (hK1 : 1 ≤ K) (hK2 : K ≤ 4) (hstep : StepOk K) (b off cap : Nat) (ds : List OpD) (w : World) (hbw : b < w.heap.size) (hds : ∀ (i : Nat) (h : i < ds.length), OpAt w b (off + i * 7) ds[i])
    (hok : ∀ d ∈ ds, ∃ es, OpOk w w.heap.size d es) (hmax : ds.length ≤ 1048576) (ht : Tab w) :
    Calls Tryz.prog 5 #[.slice (some ⟨b, off, none⟩) ds.length cap, .int .i64 K, .int .i64 K] w fun r w' => r = .returned (.int .i64 (-1)) ∧ Below w.heap.size w w' := by
  have HST := hidIt hstep
  have HDS := hidIt hds
  have HOK := hidIt hok
  clear hstep hds hok
  have hbx := (Below.refl w.heap.size w).alloc (Nat.le_refl _) (.cells #[.slice none 0 0, .slice none 0 0] 30)
  go_enter Tryz.func5, Tryz.ntmps5
  go_wp2_with fail
  go_loopw [8] (fun i wr => ∃ k : Nat, k ≤ ds.length ∧ i = .int .i64 k ∧ LoopU w w.heap.size k wr) (fun i _ => ds.length - (intOf i).toNat)
  case atStart => exact ⟨0, by omega, rfl, _, _, inv_start w _, by simp, hbx⟩
  case round =>
    obtain ⟨k, hk, rfl, hv, hs, hinv, hhs, hnx⟩ := hrel
    by_cases hlt : k < ds.length
    · have hlt' : (k : Int) < (ds.length : Int) := by omega
      have hk0 : (0 : Int) ≤ (k : Int) := by omega
      obtain ⟨g0, g1, g2, g3, g4, g5, g6⟩ := (HDS.out k hlt).below hbw hnx
      obtain ⟨es, hop⟩ := HOK.out ds[k] (List.getElem_mem _)
      obtain ⟨d, hd⟩ : ∃ d, ds[k] = d := ⟨_, rfl⟩
      rw [hd] at g0 g1 g2 g3 g4 g5 g6 hop
      clear hd
      have hop2 := hop.stay hnx
      obtain ⟨ha, hc, hvf⟩ := slice_form hop2.sl
      obtain ⟨ok, on, ot, ox, ov, ohv, os⟩ := d
      simp only at hvf g0 g1 g2 g3 g4 g5 g6
      subst hvf
      have hk0' := hop.k0
      have hk1' := hop.k1
      simp only at hk0' hk1'
      have hBr : w.heap.size ≤ wr.heap.size := hnx.size
      have hby := (Below.refl wr.heap.size wr).alloc (Nat.le_refl _) (opC ⟨ok, on, ot, ox, ov, .slice ha es.length hc, os⟩)
      by_cases hkk : ok = K
      · subst hkk
        have HC := hidIt (HST.out w.heap.size w.heap.size hv hs ⟨ok, on, ot, ox, ov, .slice ha es.length hc, os⟩ es _ rfl (hinv.below hby) (hop2.stay (hby.mono hBr)) (by omega) (ht.below ht.2 (hnx.trans (hby.mono hBr))))
        have HIN := hidIt hinv
        clear hinv hop hop2
        go_wp2_with fail
        refine HC.out.mono ?_
        rintro r w1 ⟨rfl, hv', hs', h1, h2, h3⟩
        have HLK := hidIt (looks_any w.heap.size w.heap.size hv' hs' w1 h1 (by omega))
        have HR := hidIt (And.intro h1 (And.intro h2 h3))
        clear h1 h2 h3
        go_wp2_with fail
        refine HLK.out.mono ?_
        rintro r w2 ⟨rfl, hb2⟩
        go_wp2_with fail
        go_roundw
        case rel => exact ⟨k + 1, by omega, by go_num, hv', hs', HR.out.1.below hb2, by have := HR.out.2.1; omega, ((hnx.trans (hby.mono hBr)).trans HR.out.2.2).trans (hb2.mono (Nat.le_trans ((hnx.trans (hby.mono hBr))).size HR.out.2.2.size))⟩
        case measure => simp [intOf]; omega
      · have hkk2 : ok < K ∨ K < ok := by omega
        have hK5 : K < 5 := by omega
        have HR : Hid (LoopU w w.heap.size (k + 1) (wr.alloc (opC ⟨ok, on, ot, ox, ov, .slice ha es.length hc, os⟩))) := ⟨hv, hs, hinv.below hby, by omega, hnx.trans (hby.mono hBr)⟩
        clear hinv hop hop2 hkk
        rcases hkk2 with hkk2 | hkk2
        · have e1 : ¬ K ≤ ok := by omega
          have e2 : ok < 5 := by omega
          go_wp2_with fail
          go_roundw
          case rel => exact ⟨k + 1, by omega, by go_num, HR.out⟩
          case measure => simp [intOf]; omega
        · have e1 : K ≤ ok := by omega
          have e2 : ¬ ok ≤ K := by omega
          by_cases e3 : ok < 5
          · go_wp2_with fail
            go_roundw
            case rel => exact ⟨k + 1, by omega, by go_num, HR.out⟩
            case measure => simp [intOf]; omega
          · go_wp2_with fail
            go_roundw
            case rel => exact ⟨k + 1, by omega, by go_num, HR.out⟩
            case measure => simp [intOf]; omega
    · have hge : ¬ (k : Int) < (ds.length : Int) := by omega
      go_wp2_with fail
      go_ret
      exact ⟨rfl, hnx⟩

set_option maxRecDepth 100000 in
set_option maxHeartbeats 1000000 in
theorem upTo_nil (K : Int) (a : Option Addr) (cap : Nat) (w : World) :
    Calls Tryz.prog 5 #[.slice a 0 cap, .int .i64 K, .int .i64 K] w fun r w' => r = .returned (.int .i64 (-1)) ∧ Below w.heap.size w w' := by
  have hbx := (Below.refl w.heap.size w).alloc (Nat.le_refl _) (.cells #[.slice none 0 0, .slice none 0 0] 30)
  go_enter Tryz.func5, Tryz.ntmps5
  go_wp2_with fail
  go_loop [8] (fun i => i = .int .i64 0) (fun _ => 0)
  case atStart => rfl
  case round =>
    obtain rfl := hrel
    go_wp2_with fail
    go_ret
    exact ⟨rfl, hbx⟩

theorem upTo_all (K : Int) (hK1 : 1 ≤ K) (hK2 : K ≤ 4) (hstep : StepOk K) (v : Value) (ds : List OpD) (w : World) (hs : SlOp w v ds) (hok : ∀ d ∈ ds, ∃ es, OpOk w w.heap.size d es) (hmax : ds.length ≤ 1048576) (ht : Tab w) :
    Calls Tryz.prog 5 #[v, .int .i64 K, .int .i64 K] w fun r w' => r = .returned (.int .i64 (-1)) ∧ Below w.heap.size w w' := by
  rcases hs with ⟨rfl, a, c, rfl⟩ | ⟨b, off, cap, rfl, h2, h3⟩
  · exact upTo_nil K a c w
  · exact upTo_any K hK1 hK2 hstep b off cap ds w h2 h3 hok hmax ht

end Go.Proofs.YtfdalbmopaemgabGreatDoor
