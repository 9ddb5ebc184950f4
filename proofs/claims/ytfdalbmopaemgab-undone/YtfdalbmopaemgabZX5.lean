import Derived.Test.YtfdalbmopaemgabZX3
namespace Go.Proofs.Ytfdalbmopaemgab
open Go.RowKit

/-! ### Who lies in whom, as a history tells it -/
structure FamAt (w : World) (b : Nat) (up : Nat → Nat) (op : Nat → Bool) : Prop where
  up : ∀ i, i < 256 → w.cell? ⟨b, i, none⟩ = some (.int .u8 (up i : Int))
  op : ∀ i, i < 256 → w.cell? ⟨b, 256 + i, none⟩ = some (.bool (op i))
  fz : ∀ o, w.frozen? ⟨b, o, none⟩ = false
  lt : b < w.heap.size

theorem FamAt.of_heap {w w' : World} {b : Nat} {up : Nat → Nat} {op : Nat → Bool} (h : FamAt w b up op) (hh : w'.heap[b]? = w.heap[b]?) (hz : w.heap.size ≤ w'.heap.size) : FamAt w' b up op :=
  ⟨fun i hi => by rw [World.cell?_of_block (a := ⟨b, _, none⟩) hh]; exact h.up i hi, fun i hi => by rw [World.cell?_of_block (a := ⟨b, _, none⟩) hh]; exact h.op i hi, fun o => by rw [World.frozen?_of_block (a := ⟨b, _, none⟩) hh]; exact h.fz o, Nat.lt_of_lt_of_le h.lt hz⟩

theorem FamAt.setUp {w : World} {b : Nat} {up : Nat → Nat} {op : Nat → Bool} (h : FamAt w b up op) (t : Nat) (ht : t < 256) (v : Nat) : FamAt (w.setCell ⟨b, t, none⟩ (.int .u8 (v : Int))) b (upd up t v) op := by
  refine ⟨fun i hi => ?_, fun i hi => by rw [set_other _ _ _ _ _ (by omega)]; exact h.op i hi, fun o => by rw [World.frozen?_setCell]; exact h.fz o, by simpa using h.lt⟩
  unfold upd
  by_cases e : i = t
  · subst e; rw [if_pos rfl]; exact World.cell?_setCell_same _ _ _ (h.up i hi)
  · rw [if_neg e, set_other _ _ _ _ _ e]; exact h.up i hi

theorem FamAt.setOp {w : World} {b : Nat} {up : Nat → Nat} {op : Nat → Bool} (h : FamAt w b up op) (t : Nat) (ht : t < 256) (v : Bool) : FamAt (w.setCell ⟨b, 256 + t, none⟩ (.bool v)) b up (upd op t v) := by
  refine ⟨fun i hi => by rw [set_other _ _ _ _ _ (by omega)]; exact h.up i hi, fun i hi => ?_, fun o => by rw [World.frozen?_setCell]; exact h.fz o, by simpa using h.lt⟩
  unfold upd
  by_cases e : i = t
  · subst e; rw [if_pos rfl]; exact World.cell?_setCell_same _ _ _ (h.op i hi)
  · rw [if_neg e, set_other _ _ _ _ _ (by omega)]; exact h.op i hi

def insideN (up : Nat → Nat) (a : Nat) : Nat → Nat → Bool
  | 0, t => t == a
  | n + 1, t => if t = a ∨ t = 0 then t == a else insideN up a n (up t)

theorem insideN_stop (up : Nat → Nat) (a t : Nat) (h : t = a ∨ t = 0) : ∀ n, insideN up a n t = (t == a)
  | 0 => rfl
  | n + 1 => by rw [insideN, if_pos h]

set_option maxRecDepth 100000 in
set_option maxHeartbeats 1000000 in
theorem inside_any (b t a : Nat) (up : Nat → Nat) (op : Nat → Bool) (w : World) (h : FamAt w b up op) (ht : t < 256) (hup : ∀ i, i < 256 → up i < 256) :
    Calls Try.prog 26 #[.pointer (some ⟨b, 0, none⟩), .int .u8 (t : Int), .int .u8 (a : Int)] w fun r w' => r = .returned (.bool (insideN up a 256 t)) ∧ w' = w := by
  have HF := hidIt h
  have HU := hidIt hup
  clear h hup
  go_enter Try.func26, Try.ntmps26
  go_wp2_with fail
  go_loop [1, 7] (fun tv n => ∃ k c : Nat, k ≤ 256 ∧ c < 256 ∧ n = .int .i64 k ∧ tv = .int .u8 (c : Int) ∧ Hid (insideN up a 256 t = insideN up a (256 - k) c)) (fun _ n => 256 - (intOf n).toNat)
  case atStart => exact ⟨0, t, by omega, ht, rfl, rfl, rfl⟩
  case round =>
    obtain ⟨k, c, hk, hc, rfl, rfl, HX⟩ := hrel
    by_cases hlt : k < 256
    · have hlt' : (k : Int) < 256 := by omega
      by_cases hca : c = a
      · have e1 : ((c : Int) != (a : Int)) = false := by simp; omega
        have HN : Hid (insideN up a 256 t = true) := by show _ = _; rw [HX.out, insideN_stop up a c (Or.inl hca)]; simpa using hca
        have e2 : ((c : Int) == (a : Int)) = true := by simp; omega
        clear hca
        go_wp2_with fail
        go_ret
        exact ⟨ret_bool (by rw [HN.out]), rfl⟩
      · have e1 : ((c : Int) != (a : Int)) = true := by simp; omega
        have e2 : ((c : Int) == (a : Int)) = false := by simp; omega
        by_cases hc0 : c = 0
        · have e3 : ((c : Int) != 0) = false := by simp; omega
          have HN : Hid (insideN up a 256 t = false) := by show _ = _; rw [HX.out, insideN_stop up a c (Or.inr hc0)]; simpa using hca
          clear hca hc0
          go_wp2_with fail
          go_ret
          exact ⟨ret_bool (by rw [HN.out]), rfl⟩
        · have e3 : ((c : Int) != 0) = true := by simp; omega
          have g := HF.out.up c hc
          have hc' : (c : Int) < 256 := by omega
          have hc2 : (0 : Int) ≤ (c : Int) := by omega
          have HN : Hid (insideN up a 256 t = insideN up a (256 - (k + 1)) (up c)) := by
            show _ = _
            rw [HX.out, show 256 - k = (256 - (k + 1)) + 1 by omega, insideN, if_neg (by omega)]
          have hub := HU.out c hc
          clear hca hc0
          go_wp2_with fail
          go_round
          case rel => exact ⟨k + 1, up c, by omega, hub, by go_num, rfl, HN⟩
          case measure => simp [intOf]; omega
    · have hlt' : ¬ (k : Int) < 256 := by omega
      have hk6 : k = 256 := by omega
      subst hk6
      have HN : Hid (insideN up a 256 t = ((c : Int) == (a : Int))) := by
        show _ = _
        rw [HX.out]
        show (c == a) = _
        rw [Bool.eq_iff_iff]
        simp
        omega
      go_wp2_with fail
      go_ret
      exact ⟨ret_bool (by rw [HN.out]), rfl⟩

/-! ### The lists of a history's transactions -/
def upT (T : Tr) (i : Nat) : Nat := if i ≤ 15 then (T.par i).toNat else 0
def opT (T : Tr) (i : Nat) : Bool := if i ≤ 15 then T.op i else false

theorem upT_lt {es : List Ev} {T : Tr} (j : JJ es T) (i : Nat) : upT T i < 256 := by
  unfold upT
  by_cases h : i ≤ 15
  · rw [if_pos h]
    have := jj_par255 j i h
    omega
  · rw [if_neg h]; omega

theorem upT_less {es : List Ev} {T : Tr} (j : JJ es T) (c : Nat) (h1 : 1 ≤ c) : upT T c < c := by
  unfold upT
  by_cases h : c ≤ 15
  · rw [if_pos h]
    by_cases hn : c ≤ T.n
    · exact jj_par j c h1 hn
    · have hb : begunN (c : Int) es = none := j.none_ c (by omega)
      rw [j.par c h]
      unfold parentL
      rw [hb]
      simp
      omega
  · rw [if_neg h]; omega

/-- Going up by these lists is going up the way. -/
theorem insideN_way {es : List Ev} {T : Tr} (j : JJ es T) (a : Nat) : ∀ c f, c ≤ f → c ≤ T.n → insideN (upT T) a f c = decide (a ∈ pth T.par c) := by
  intro c
  induction c using Nat.strongRecOn with
  | _ c ih =>
    intro f hf hn
    by_cases h0 : c = 0
    · subst h0
      rw [insideN_stop _ _ _ (Or.inr rfl), pth_zero, Bool.eq_iff_iff]
      simp
      omega
    · obtain ⟨f', rfl⟩ : ∃ f', f = f' + 1 := ⟨f - 1, by omega⟩
      have hlt := jj_par j c (by omega) hn
      have h15 := j.n15
      have hup : upT T c = (T.par c).toNat := by unfold upT; rw [if_pos (by omega)]
      rw [insideN]
      by_cases ha : c = a
      · rw [if_pos (Or.inl ha), Bool.eq_iff_iff]
        have := pth_self (jj_par j) c hn
        rw [ha] at this
        simp [ha, this]
      · rw [if_neg (by omega), hup, ih _ hlt f' (by omega) (by omega), Bool.eq_iff_iff, decide_eq_true_iff, decide_eq_true_iff, pth_step (jj_par j) c (by omega) hn, List.mem_append, List.mem_singleton]
        exact ⟨Or.inl, fun h => h.elim id (fun h => absurd h.symm ha)⟩

/-- Whoever was not begun lies in nobody else. -/
theorem insideN_out {es : List Ev} {T : Tr} (j : JJ es T) (a c f : Nat) (ha : a ≠ 0) (hc : T.n < c) (hca : c ≠ a) (hf : 1 ≤ f) : insideN (upT T) a f c = false := by
  obtain ⟨f', rfl⟩ : ∃ f', f = f' + 1 := ⟨f - 1, by omega⟩
  have hup : upT T c = 0 := by
    unfold upT
    by_cases h : c ≤ 15
    · rw [if_pos h]
      have hb : begunN (c : Int) es = none := j.none_ c (by omega)
      rw [j.par c h]
      unfold parentL
      rw [hb]
      simp
    · rw [if_neg h]
  rw [insideN, if_neg (by omega), hup, insideN_stop _ _ _ (Or.inr rfl)]
  simp
  omega

theorem opT_abort {es : List Ev} {T : Tr} (j : JJ es T) (t : Nat) (ho : openL es (t : Int) = true) (i : Nat) : opT (abortT T t) i = (opT T i && !(decide (1 ≤ i) && insideN (upT T) t 256 i)) := by
  have hl := live_abort j t ho
  have ht := open15 j ho
  have h15 := j.n15
  by_cases hi : 1 ≤ i ∧ i ≤ 15
  · have e1 : opT (abortT T t) i = true ↔ Live (abortT T t) i := by
      unfold opT Live
      rw [if_pos hi.2]
      exact ⟨fun h => Or.inr ⟨hi.1, hi.2, h⟩, fun h => h.elim (fun h => by omega) (fun h => h.2.2)⟩
    have e2 : opT T i = true ↔ Live T i := by
      unfold opT Live
      rw [if_pos hi.2]
      exact ⟨fun h => Or.inr ⟨hi.1, hi.2, h⟩, fun h => h.elim (fun h => by omega) (fun h => h.2.2)⟩
    rw [Bool.eq_iff_iff, Bool.and_eq_true, e1, e2, hl i, decide_eq_true hi.1, Bool.true_and, Bool.not_eq_true']
    refine and_congr_right fun hli => ?_
    rw [insideN_way j t i 256 (by omega) (live_le j hli), decide_eq_false_iff_not]
  · have e1 : opT (abortT T t) i = false := by
      by_cases h0 : i = 0
      · subst h0
        have j0 : T.op 0 = false := by rw [j.op 0 (by omega)]; exact open_none (j.none_ _ (by omega))
        have hab := ab_main j t ho 15 (by omega) 0 (by omega)
        rw [if_pos (by omega)] at hab
        unfold opT abortT
        simp only
        rw [if_pos (by omega), hab, ← j.op 0 (by omega), j0]
        rfl
      · unfold opT; rw [if_neg (by omega)]
    have e2 : opT T i = false := by
      by_cases h0 : i = 0
      · subst h0
        unfold opT
        rw [if_pos (by omega), j.op 0 (by omega)]
        exact open_none (j.none_ _ (by omega))
      · unfold opT; rw [if_neg (by omega)]
    rw [e1, e2]
    rfl

theorem upT_abort (T : Tr) (t : Nat) : upT (abortT T t) = upT T := by funext i; unfold upT abortT; rfl
theorem upT_commit (T : Tr) (t : Nat) : upT (commitT T t) = upT T := by funext i; unfold upT commitT; rfl
theorem opT_commit (T : Tr) (t : Nat) (ht : t ≤ 15) : opT (commitT T t) = upd (opT T) t false := by
  funext i
  unfold opT commitT upd
  simp only
  by_cases h : i = t
  · rw [if_pos h, if_pos h, if_pos (by omega)]
  · rw [if_neg h, if_neg h]
theorem upT_begin (T : Tr) (p : Nat) (hn : T.n < 15) : upT (beginT T (p : Int)) = upd (upT T) (T.n + 1) p := by
  funext i
  unfold upT beginT upd
  simp only
  by_cases h : i = T.n + 1
  · rw [if_pos h, if_pos h, if_pos (by omega), Int.toNat_natCast]
  · rw [if_neg h, if_neg h]
theorem opT_begin (T : Tr) (p : Int) (hn : T.n < 15) : opT (beginT T p) = upd (opT T) (T.n + 1) true := by
  funext i
  unfold opT beginT upd
  simp only
  by_cases h : i = T.n + 1
  · rw [if_pos h, if_pos h, if_pos (by omega)]
  · rw [if_neg h, if_neg h]

/-! ### families -/
def zFam (o : Nat) : Value := if o < 256 then .int .u8 0 else .bool false

def zeroFam : Array Value := ((List.range 512).map zFam).toArray

theorem zeroFam_size : zeroFam.size = 512 := by simp [zeroFam]
theorem zeroFam_ne : zeroFam ≠ #[] := fun h => by have := zeroFam_size; rw [h] at this; simp at this

theorem Try.zeroFamRun (w : World) : (zeroValue 34).run Try.prog w = .ok (.agg zeroFam) w := by
  have h : (Try.prog.info? 34).map (·.zero) = some (some (.agg zeroFam)) := by kernel_rfl
  cases hq : Try.prog.info? 34 with
  | none => rw [hq] at h; cases h
  | some i =>
    rw [hq] at h
    have hs : i.zero = some (.agg zeroFam) := by simpa using h
    simp [zeroValue, Sem.run_bind, typeInfo, hq, hs]

theorem fam_cell (w : World) (T : TypeId) (o : Nat) (ho : o < 512) : (w.alloc (.cells zeroFam T)).cell? ⟨w.heap.size, o, none⟩ = some (zFam o) := by
  have h : zeroFam[o]? = some (zFam o) := by
    unfold zeroFam
    rw [List.getElem?_toArray, List.getElem?_map, List.getElem?_range ho]
    rfl
  rw [World.cell?_alloc_new]
  exact h

theorem fam_new (w : World) (T : TypeId) : FamAt (w.alloc (.cells zeroFam T)) w.heap.size (upT tr0) (opT tr0) := by
  refine ⟨fun i hi => ?_, fun i hi => ?_, fun o => World.frozen?_alloc_new _ _ _ _, by simp⟩
  · rw [fam_cell w T _ (by omega)]
    have : upT tr0 i = 0 := by unfold upT; split <;> rfl
    rw [this]
    unfold zFam
    rw [if_pos hi]
    rfl
  · rw [fam_cell w T _ (by omega)]
    have : opT tr0 i = false := by unfold opT; split <;> rfl
    rw [this]
    unfold zFam
    rw [if_neg (by omega)]

def FmLoop (w : World) (es : List Ev) (k : Nat) (wr : World) : Prop := ∃ T, JJ (es.take k) T ∧ FamAt wr w.heap.size (upT T) (opT T) ∧ Below w.heap.size w wr

/-- Behind so many of an abort's rounds. -/
def AbF (w : World) (eb tt : Nat) (T : Tr) (c : Nat) (wq : World) : Prop := ∃ o, FamAt wq w.heap.size (upT T) o ∧ (∀ i, i < 256 → o i = (opT T i && !(decide (1 ≤ i ∧ i < c) && insideN (upT T) tt 256 i))) ∧ Below w.heap.size w wq ∧ wq.cell? ⟨eb, 1, none⟩ = some (.int .u8 (tt : Int))

set_option maxRecDepth 100000 in
set_option maxHeartbeats 4000000 in
theorem families_any (a : Option Addr) (c : Nat) (es : List Ev) (w : World) (hs : SlEv w (.slice a es.length c) es) (hok : ∀ e ∈ es, e.Ok) (hck : (checkG [] es).1 = 0) (hm : es.length ≤ 1048576) :
    Calls Try.prog 12 #[.slice a es.length c] w fun r w' => r = .returned (.pointer (some ⟨w.heap.size, 0, none⟩)) ∧ FmLoop w es es.length w' := by
  have hz := Try.zeroFamRun
  have hne := zeroFam_ne
  have hsz := zeroFam_size
  have HS := hidIt hs
  have HOK := hidIt hok
  have HCK := hidIt hck
  have H0 : Hid (FmLoop w es 0 (w.alloc (.cells zeroFam 34))) := ⟨tr0, by rw [List.take_zero]; exact JJ.start, fam_new w _, (Below.refl _ _).alloc (Nat.le_refl _) _⟩
  clear hs hok hck
  go_enter Try.func12, Try.ntmps12
  go_wp2_with fail
  go_loopw [4] (fun i wr => ∃ k : Nat, k ≤ es.length ∧ i = .int .i64 k ∧ FmLoop w es k wr) (fun i _ => es.length - (intOf i).toNat)
  case atStart => exact ⟨0, by omega, rfl, H0.out⟩
  case round =>
    clear H0 hz hne hsz
    obtain ⟨k, hk, rfl, T, hj, hfa, hnx⟩ := hrel
    by_cases hlt : k < es.length
    · have hlt' : (k : Int) < (es.length : Int) := by omega
      have hk0 : (0 : Int) ≤ (k : Int) := by omega
      obtain ⟨bb, off, rfl, hbw, g0, g1, g2, g3, g4⟩ := (HS.out.below hnx).at_ k hlt
      have hw := check_none es [] HCK.out k hlt
      obtain ⟨kk, tt, aa, vv, ss, hev, _⟩ := ev_nat es[k] (HOK.out _ (List.getElem_mem _))
      rw [List.nil_append, hev] at hw
      rw [hev] at g0 g1 g2 g3 g4
      obtain ⟨hmay, hj'⟩ := step_ok hj kk tt aa vv ss hw
      have htk : es.take (k + 1) = es.take k ++ [⟨kk, (tt : Int), (aa : Int), vv, ss⟩] := by rw [List.take_succ_eq_append_getElem hlt, hev]
      rw [← htk] at hj'
      simp only at g0 g1 g2 g3 g4
      have HN : Hid (es.take (k + 1) = es.take k ++ [⟨kk, (tt : Int), (aa : Int), vv, ss⟩]) := htk
      have hbx : Below wr.heap.size wr (wr.alloc (.cells #[.int .u8 kk, .int .u8 (tt : Int), .int .u8 (aa : Int), .int .i32 vv, .int .i32 ss] 71)) := (Below.refl _ _).alloc (Nat.le_refl _) _
      have HFB := hidIt (hfa.of_heap (hbx.block _ hfa.lt) hbx.size)
      have HNX : Hid (Below w.heap.size w (wr.alloc (.cells #[.int .u8 kk, .int .u8 (tt : Int), .int .u8 (aa : Int), .int .i32 vv, .int .i32 ss] 71))) := hnx.trans (hbx.mono hnx.size)
      have HFA := hidIt hfa
      have HJ := hidIt hj
      have HJ' := hidIt hj'
      have hfl := hfa.lt
      have HFL := hidIt hfl
      have hff := hfa.fz
      have HLO : Hid (∀ (u : Nat → Nat) (o : Nat → Bool) (wx : World), FamAt wx w.heap.size u o → Below w.heap.size w wx → u = upT (stepT T kk tt aa) → (∀ i, i < 256 → o i = opT (stepT T kk tt aa) i) → ∀ c n, FmLoop w es (k + 1) ((wx.alloc c).drewN n)) := fun u o wx h1 h2 h3 h4 c n => by
        subst h3
        have hb : Below wx.heap.size wx (wx.alloc c) := (Below.refl _ _).alloc (Nat.le_refl _) c
        have h5 := h1.of_heap (w' := (wx.alloc c).drewN n) (hb.block _ h1.lt) hb.size
        exact ⟨stepT T kk tt aa, HJ'.out, ⟨h5.up, fun i hi => by rw [← h4 i hi]; exact h5.op i hi, h5.fz, h5.lt⟩, below_drewN (h2.trans (hb.mono h2.size)) n⟩
      clear hbx
      by_cases k1 : kk = 1
      · subst k1
        have hb := hmay.b rfl
        have htt : tt = T.n + 1 := by
          have hn := hj.n
          unfold wrongL at hw
          simp only at hw
          by_cases w0 : 60 ≤ (es.take k).length
          · rw [if_pos w0] at hw; cases hw
          rw [if_neg w0, if_neg (by decide)] at hw
          by_cases w2 : True ∧ (15 ≤ countL (es.take k) ∨ (tt : Int) ≠ (countL (es.take k) : Int) + 1)
          · rw [if_pos w2] at hw; cases hw
          · exact Decidable.byContradiction fun hne => w2 ⟨trivial, Or.inr (by omega)⟩
        have hu := hfa.up tt (by omega)
        have ho := hfa.op tt (by omega)
        have ht1 : (tt : Int) < 256 := by omega
        have ht0 : (0 : Int) ≤ (tt : Int) := by omega
        have HR : Hid (∀ c n, FmLoop w es (k + 1) ((((wr.setCell ⟨w.heap.size, tt, none⟩ (.int .u8 (aa : Int))).setCell ⟨w.heap.size, 256 + tt, none⟩ (.bool true)).alloc c).drewN n)) := by
          refine HLO.out _ _ _ ((hfa.setUp tt (by omega) aa).setOp tt (by omega) true) ((hnx.setCell (p := ⟨w.heap.size, tt, none⟩) (Nat.le_refl _) _).setCell (p := ⟨w.heap.size, 256 + tt, none⟩) (Nat.le_refl _) _) ?_ (fun i _ => ?_)
          · show _ = upT (beginT T (aa : Int)); rw [upT_begin T aa hb.1, htt]
          · show _ = opT (beginT T (aa : Int)) i; rw [opT_begin T (aa : Int) hb.1, htt]
        clear hw hmay hj hj' hfa hnx htt hb
        go_wp2_with fail
        go_region
        go_wp2_with fail
        go_region
        go_wp2_with fail
        go_roundw
        case rel => exact ⟨k + 1, by omega, by go_num, HR.out _ 2⟩
        case measure => simp [intOf]; omega
      · by_cases k5 : kk = 5
        · subst k5
          have hc := hmay.c rfl
          have ho := hfa.op tt (by omega)
          have ht1 : (tt : Int) < 256 := by omega
          have ht0 : (0 : Int) ≤ (tt : Int) := by omega
          have HR : Hid (∀ c n, FmLoop w es (k + 1) (((wr.setCell ⟨w.heap.size, 256 + tt, none⟩ (.bool false)).alloc c).drewN n)) := by
            refine HLO.out _ _ _ (hfa.setOp tt (by omega) false) (hnx.setCell (p := ⟨w.heap.size, 256 + tt, none⟩) (Nat.le_refl _) _) ?_ (fun i _ => ?_)
            · show _ = upT (commitT T tt); rw [upT_commit]
            · show _ = opT (commitT T tt) i; rw [opT_commit T tt hc.1]
          clear hw hmay hj hj' hfa hnx hc k1
          go_wp2_with fail
          go_region
          go_wp2_with fail
          go_roundw
          case rel => exact ⟨k + 1, by omega, by go_num, HR.out _ 1⟩
          case measure => simp [intOf]; omega
        · by_cases k6 : kk = 6
          · subst k6
            obtain ⟨wo, hwo⟩ : ∃ x, x = wr := ⟨_, rfl⟩
            subst hwo
            have hx := hmay.x rfl
            have hto : openL (es.take k) (tt : Int) = true := by rw [← hj.op tt hx.1]; exact hx.2
            have ht1 : (tt : Int) < 256 := by omega
            have ht0 : (0 : Int) ≤ (tt : Int) := by omega
            have HUB : Hid (∀ i, i < 256 → upT T i < 256) := fun i _ => upT_lt hj i
            have HAO := hidIt (opT_abort hj tt hto)
            have HI0 : Hid (AbF w wo.heap.size tt T 1 (wo.alloc (.cells #[.int .u8 6, .int .u8 (tt : Int), .int .u8 (aa : Int), .int .i32 vv, .int .i32 ss] 71))) := ⟨opT T, HFB.out, fun i _ => (by rw [decide_eq_false (by omega)]; simp), HNX.out, by simp [go_sem]⟩
            clear hw hmay hj hj' hfa hnx hx hto k1 k5 HNX HFB HFA HLO
            go_wp2_with fail
            go_loopw [6] (fun tv wr => ∃ q : Nat, 1 ≤ q ∧ q ≤ 256 ∧ tv = .int .i64 q ∧ AbF w wo.heap.size tt T q wr) (fun tv _ => 256 - (intOf tv).toNat)
            case atStart => exact ⟨1, by omega, by omega, rfl, HI0.out⟩
            case round =>
              clear HI0
              obtain ⟨q, hq1, hq6, rfl, o, hfo, hoo, hnq, hcq⟩ := hrel
              by_cases hql : q < 256
              · have hql' : (q : Int) < 256 := by omega
                have hq0 : (0 : Int) ≤ (q : Int) := by omega
                have HC := hidIt (inside_any w.heap.size q tt (upT T) o wr hfo hql HUB.out)
                have go_ := hfo.op q hql
                have gz := hfo.fz
                have HFO := hidIt hfo
                have HOO := hidIt hoo
                have HNQ := hidIt hnq
                clear hfo hoo hnq
                cases hin : insideN (upT T) tt 256 q with
                | false =>
                  rw [hin] at HC
                  have HR : Hid (AbF w wo.heap.size tt T (q + 1) wr) := ⟨o, HFO.out, fun i hi => by
                    rw [HOO.out i hi]
                    by_cases e : i = q
                    · subst e; rw [hin]; simp
                    · congr 3
                      exact decide_eq_decide.2 ⟨fun h => ⟨h.1, by omega⟩, fun h => ⟨h.1, by omega⟩⟩, HNQ.out, hcq⟩
                  clear hin
                  go_wp2_with fail
                  refine HC.out.mono ?_
                  rintro r w9 ⟨rfl, rfl⟩
                  go_wp2_with fail
                  go_roundw
                  case rel => exact ⟨q + 1, by omega, by omega, by go_num, HR.out⟩
                  case measure => simp [intOf]; omega
                | true =>
                  rw [hin] at HC
                  have HR : Hid (AbF w wo.heap.size tt T (q + 1) (wr.setCell ⟨w.heap.size, 256 + q, none⟩ (.bool false))) := ⟨upd o q false, HFO.out.setOp q hql false, fun i hi => by
                    unfold upd
                    by_cases e : i = q
                    · subst e; rw [if_pos rfl, hin, decide_eq_true ⟨hq1, by omega⟩]; simp
                    · rw [if_neg e, HOO.out i hi]
                      congr 3
                      exact decide_eq_decide.2 ⟨fun h => ⟨h.1, by omega⟩, fun h => ⟨h.1, by omega⟩⟩, HNQ.out.setCell (p := ⟨w.heap.size, 256 + q, none⟩) (Nat.le_refl _) _, by rw [World.cell?_setCell_other _ _ _ _ (by intro e; injection e with e1 _ _; have := HFL.out; omega)]; exact hcq⟩
                  clear hin
                  go_wp2_with fail
                  refine HC.out.mono ?_
                  rintro r w9 ⟨rfl, rfl⟩
                  go_wp2_with fail
                  go_roundw
                  case rel => exact ⟨q + 1, by omega, by omega, by go_num, HR.out⟩
                  case measure => simp [intOf]; omega
              · have hql' : ¬ (q : Int) < 256 := by omega
                have hq : q = 256 := by omega
                subst hq
                have HR : Hid (FmLoop w es (k + 1) wr) := ⟨stepT T 6 tt aa, HJ'.out, ⟨hfo.up, fun i hi => by
                  rw [hfo.op i hi, hoo i hi]
                  show _ = some (Value.bool (opT (abortT T tt) i))
                  rw [HAO.out i]
                  congr 5
                  exact decide_eq_decide.2 ⟨fun h => h.1, fun h => ⟨h, hi⟩⟩, hfo.fz, hfo.lt⟩, hnq⟩
                clear hfo hoo hnq
                go_wp2_with fail
                go_roundw
                case rel => exact ⟨k + 1, by omega, by go_num, HR.out⟩
                case measure => simp [intOf]; omega
          · have q1 : (kk == 1) = false := by simpa using k1
            have q5 : (kk == 5) = false := by simpa using k5
            have q6 : (kk == 6) = false := by simpa using k6
            have HR : Hid (∀ c n, FmLoop w es (k + 1) ((wr.alloc c).drewN n)) := by
              refine HLO.out _ _ _ hfa hnx ?_ (fun i _ => ?_)
              · unfold stepT; rw [if_neg k1, if_neg k5, if_neg k6]
              · unfold stepT; rw [if_neg k1, if_neg k5, if_neg k6]
            clear hw hmay hj hj' hfa hnx k1 k5 k6
            go_wp2_with fail
            go_roundw
            case rel => exact ⟨k + 1, by omega, by go_num, HR.out _ 0⟩
            case measure => simp [intOf]; omega
    · have hge : ¬ (k : Int) < (es.length : Int) := by omega
      have hke : k = es.length := by omega
      subst hke
      have HR : Hid (FmLoop w es es.length wr) := ⟨T, hj, hfa, hnx⟩
      clear hj hfa hnx
      go_wp2_with fail
      go_ret
      exact ⟨rfl, HR.out⟩

end Go.Proofs.Ytfdalbmopaemgab
