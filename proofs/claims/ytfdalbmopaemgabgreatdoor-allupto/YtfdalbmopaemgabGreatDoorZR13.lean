import Derived.Test.YtfdalbmopaemgabGreatDoorZR11
namespace Go.Proofs.YtfdalbmopaemgabGreatDoor
open Go.RowKit

theorem play_app {es : List Ev} : ∀ (l m : List Nat) (V : Nat → Int), (playL es V l).1 = -1 → playL es V (l ++ m) = playL es (playL es V l).2 m
  | [], m, V, _ => rfl
  | p :: l, m, V, h => by
    rw [List.cons_append, playL, playL]
    rw [playL] at h
    cases he : es[p]? with
    | none =>
      rw [he] at h
      exact play_app l m V h
    | some e =>
      rw [he] at h
      simp only at h ⊢
      by_cases hc : nSeen e.k = true ∧ V e.a.toNat ≠ e.s
      · rw [if_pos hc] at h; simp only at h; omega
      · rw [if_neg hc] at h
        rw [if_neg hc, if_neg hc]
        exact play_app l m _ h

theorem play_app_stop {es : List Ev} : ∀ (l m : List Nat) (V : Nat → Int), (playL es V l).1 ≠ -1 → playL es V (l ++ m) = playL es V l
  | [], m, V, h => absurd rfl h
  | p :: l, m, V, h => by
    rw [List.cons_append, playL, playL]
    rw [playL] at h
    cases he : es[p]? with
    | none =>
      rw [he] at h
      exact play_app_stop l m V h
    | some e =>
      rw [he] at h
      simp only at h ⊢
      by_cases hc : nSeen e.k = true ∧ V e.a.toNat ≠ e.s
      · rw [if_pos hc, if_pos hc]
      · rw [if_neg hc] at h
        rw [if_neg hc, if_neg hc]
        exact play_app_stop l m _ h

theorem play_range {es : List Ev} : ∀ (l : List Nat) (V : Nat → Int), (playL es V l).1 = -1 ∨ 0 ≤ (playL es V l).1
  | [], V => Or.inl rfl
  | p :: l, V => by
    rw [playL]
    cases he : es[p]? with
    | none => exact play_range l V
    | some e =>
      simp only
      by_cases hc : nSeen e.k = true ∧ V e.a.toNat ≠ e.s
      · rw [if_pos hc]; right; simp only; omega
      · rw [if_neg hc]; exact play_range l _

theorem flat_split (es : List Ev) (W : Nat → List Nat) (x i : Nat) : ∀ k, i ≤ k → ∃ m, flat es W k x = flat es W i x ++ m
  | 0, h => ⟨[], by rw [show i = 0 by omega, List.append_nil]⟩
  | k + 1, h => by
    by_cases e : i = k + 1
    · exact ⟨[], by rw [e, List.append_nil]⟩
    · obtain ⟨m, hm⟩ := flat_split es W x i k (by omega)
      exact ⟨m ++ seg es W x k, by rw [flat_succ, hm, List.append_assoc]⟩

/-- What the document's playing of t has come to, ahead of the event i. -/
def PlLoop (w : World) (b : Nat) (hv : Value) (es : List Ev) (W : Nat → List Nat) (t : Nat) (V : Nat → Int) (i : Nat) (wr : World) : Prop :=
  AgAt wr b hv (playL es V (flat es W i t)).2 (playL es V (flat es W i t)).1 ∧ ExB w wr b

theorem seg_own {es : List Ev} {W : Nat → List Nat} {x i : Nat} {e : Ev} (he : es[i]? = some e) (h1 : onObj e.k = true) (h2 : e.t = (x : Int)) : seg es W x i = [i] := by
  unfold seg; rw [he]; simp only; rw [if_pos ⟨h1, h2⟩]
theorem seg_com {es : List Ev} {W : Nat → List Nat} {x i : Nat} {e : Ev} (he : es[i]? = some e) (h1 : e.k = 5) (h2 : parentL es e.t = (x : Int)) : seg es W x i = W e.t.toNat := by
  unfold seg; rw [he]; simp only; rw [if_neg (fun q => by rw [h1] at q; exact absurd q.1 (by decide)), if_pos ⟨h1, h2⟩]
theorem seg_none {es : List Ev} {W : Nat → List Nat} {x i : Nat} {e : Ev} (he : es[i]? = some e) (h1 : ¬ (onObj e.k = true ∧ e.t = (x : Int))) (h2 : ¬ (e.k = 5 ∧ parentL es e.t = (x : Int))) : seg es W x i = [] := by
  unfold seg; rw [he]; simp only; rw [if_neg h1, if_neg h2]

theorem ExB.trans {w w' w'' : World} {b : Nat} (h : ExB w w' b) (h' : ExB w' w'' b) : ExB w w'' b :=
  ⟨h.below.trans h'.below, fun k hk hl => (h'.rest k hk (Nat.lt_of_lt_of_le hl h.below.size)).trans (h.rest k hk hl)⟩

theorem SlEv.drewN {w : World} {v : Value} {es : List Ev} (h : SlEv w v es) (n : Nat) : SlEv (w.drewN n) v es := h.of_heap (Nat.le_refl _) (fun _ _ _ => rfl)

theorem refParent_is (v : Value) (es : List Ev) (t p : Int) (w : World) (hs : SlEv w v es) (hm : es.length ≤ 1048576) (h : parentL es t = p) :
    Calls Tryz.prog 83 #[v, .int .u8 t] w fun r w' => r = .returned (.int .u8 p) ∧ w' = w := by
  rw [← h]
  exact refParent v es t w hs hm

/-- The events of a history: what is asked of each, as a whole history is known. -/
theorem ev_facts {es : List Ev} {T : Tr} {W : Nat → List Nat} (hok : ∀ e ∈ es, e.Ok) (hck : (checkG [] es).1 = 0) (hgi : GI es es.length T W) (i : Nat) (hi : i < es.length) : (onObj es[i].k = true → es[i].a < 4) ∧ (es[i].k = 5 → 1 ≤ es[i].t ∧ es[i].t ≤ 15 ∧ 0 ≤ parentL es es[i].t ∧ parentL es es[i].t < es[i].t) := by
  have hw := check_none es [] hck i hi
  rw [List.nil_append] at hw
  obtain ⟨kk, tt, aa, vv, ss, hev, _⟩ := ev_nat es[i] (hok _ (List.getElem_mem _))
  rw [hev] at hw
  obtain ⟨_, _, _, h4⟩ := wrong_facts hw
  have hj := hgi.jj
  rw [List.take_length] at hj
  refine ⟨fun h => ?_, fun h => ?_⟩
  · rw [hev] at h ⊢
    have h2 := onObj_iff.1 h
    have := h4 h2.1 h2.2
    simp only
    omega
  · have hc := hj.com es[i].t (List.any_eq_true.2 ⟨es[i], List.getElem_mem _, by unfold isC; simp [h]⟩)
    have hn := hj.n15
    obtain ⟨m, hm⟩ : ∃ m : Nat, es[i].t = (m : Int) := ⟨es[i].t.toNat, by omega⟩
    rw [hm] at hc ⊢
    have hl := hj.low m (by omega) (by omega)
    exact ⟨hc.1, by omega, hl.1, hl.2⟩

set_option maxRecDepth 100000 in
set_option maxHeartbeats 4000000 in
theorem refPlay (es : List Ev) (T : Tr) (W : Nat → List Nat) (hok : ∀ e ∈ es, e.Ok) (hck : (checkG [] es).1 = 0) (hgi : GI es es.length T W) (a : Option Addr) (c : Nat) (w0 : World) (hs : SlEv w0 (.slice a es.length c) es) (b : Nat) (hb0 : w0.heap.size ≤ b) :
    ∀ (n t : Nat), t ≤ 15 → 15 - t < n → ∀ (V : Nat → Int) (w : World), Below w0.heap.size w0 w → AgAt w b (.slice a es.length c) V (-1) →
      Calls Tryz.prog 52 #[.pointer (some ⟨b, 0, none⟩), .int .u8 (t : Int)] w (AgPost w b (.slice a es.length c) (playL es V (W t))) := by
  intro n
  induction n with
  | zero => intro t _ h; omega
  | succ n ih =>
  intro t ht htn V w hbw hag
  have HIH := hidIt ih
  have HS := hidIt hs
  have HOK := hidIt hok
  have HF := hidIt (ev_facts hok hck hgi)
  have HEQ := hidIt (hgi.eq t)
  have hlen := check_len hck
  have HBW := hidIt hbw
  have hbl : b ≤ w.heap.size := Nat.le_of_lt hag.lt
  have HST : Hid (PlLoop w b (.slice a es.length c) es W t V 0 w) := ⟨hag, ExB.refl _ _⟩
  clear ih hs hok hck hgi hbw hag
  go_enter Tryz.func52, Tryz.ntmps52
  go_wp2_with fail
  go_loopw [4] (fun i wr => ∃ k : Nat, k ≤ es.length ∧ i = .int .i64 k ∧ PlLoop w b (.slice a es.length c) es W t V k wr) (fun i _ => es.length - (intOf i).toNat)
  case atStart => exact ⟨0, by omega, rfl, HST.out⟩
  case round =>
    clear HST
    obtain ⟨k, hk, rfl, hag, hex⟩ := hrel
    obtain ⟨⟨rk, Vk⟩, hrk⟩ : ∃ x, playL es V (flat es W k t) = x := ⟨_, rfl⟩
    have hrange := play_range (es := es) (flat es W k t) V
    rw [hrk] at hag hrange
    simp only at hag hrange
    have HRK := hidIt hrk
    have c0 := hag.h
    have c5 := hag.wrong
    have HAG := hidIt hag
    have HEX := hidIt hex
    have hlt := hag.lt
    clear hrk hag hex
    by_cases hlt1 : k < es.length
    · have hlt' : (k : Int) < (es.length : Int) := by omega
      have hk0 : (0 : Int) ≤ (k : Int) := by omega
      by_cases hr : rk = -1
      · subst hr
        have HSR := hidIt (HS.out.below (HBW.out.trans (HEX.out.below.mono hb0)))
        obtain ⟨bb, off, rfl, hbb, g0, g1, g2, g3, g4⟩ := HSR.out.at_ k hlt1
        obtain ⟨hf1, hf2⟩ := HF.out k hlt1
        have hevo := HOK.out es[k] (List.getElem_mem _)
        have he := List.getElem?_eq_getElem hlt1
        have HPN : Hid (playL es V (flat es W (k + 1) t) = playL es Vk (seg es W t k)) := by show _ = _; rw [flat_succ, play_app _ _ _ (by rw [HRK.out]), HRK.out]
        have HACC := hidIt (access_any bb off c b es k Vk)
        obtain ⟨kk, tt, aa, vv, ss, hev, hk0', hk1', ht', ha'⟩ := ev_nat es[k] hevo
        have hbe : Below wr.heap.size wr (wr.alloc (.cells #[.int .u8 kk, .int .u8 (tt : Int), .int .u8 (aa : Int), .int .i32 vv, .int .i32 ss] 45)) := (Below.refl _ _).alloc (Nat.le_refl _) _
        have HSE := hidIt (HSR.out.below hbe)
        have HAE := hidIt (HAG.out.below hbe)
        have HEE := hidIt (HEX.out.more hbe (Nat.le_of_lt hlt))
        have HEV := hidIt (evat_new wr kk tt aa vv ss 45)
        have HACC2 := hidIt (fun h1 h2 => HACC.out _ HSE.out hlt1 hevo h1 h2 HAE.out)
        rw [hev] at g0 g1 g2 g3 g4 hf1 hf2 he
        rw [hev] at HACC2
        simp only at hf1 hf2 HACC2
        have HHE := hidIt he
        clear hevo hev hbe he HACC
        have skipN : seg es W t k = [] → Hid (PlLoop w b (.slice (some ⟨bb, off, none⟩) es.length c) es W t V (k + 1) (wr.alloc (.cells #[.int .u8 kk, .int .u8 (tt : Int), .int .u8 (aa : Int), .int .i32 vv, .int .i32 ss] 45))) := fun hsg => by
          have h7 : playL es V (flat es W (k + 1) t) = (-1, Vk) := by rw [HPN.out, hsg]; rfl
          exact ⟨by rw [h7]; exact HAE.out, HEE.out⟩
        cases hobj : onObj kk with
        | true =>
          have hr2 := onObj_iff.1 hobj
          have hr3 := hr2.1
          have hr4 := hr2.2
          have k5 : (kk == 5) = false := by simp; omega
          cases htt : ((tt : Int) == (t : Int)) with
          | true =>
            have HC := hidIt (HACC2.out hobj (hf1 hobj))
            have HSG : Hid (seg es W t k = [k]) := seg_own HHE.out hobj (by simpa using htt)
            clear hobj hf1 hf2 hr2 HACC2 skipN
            go_wp2_with (go_at_call 82; refine HC.out.mono ?_; rintro r w4 ⟨rfl, ha4, he4⟩; have x4 := HEV.out.of_heap (he4.rest wr.heap.size (by omega) (by simp)); obtain ⟨y0, y1, y2, y3, y4⟩ := x4; simp only [Nat.zero_add] at y0 y1 y2 y3 y4; have HR4 := hidIt (And.intro ha4 he4); clear ha4 he4)
            go_roundw
            case rel =>
              refine ⟨k + 1, by omega, by go_num, ?_, HEE.out.trans HR4.out.2⟩
              rw [HPN.out, HSG.out]
              exact HR4.out.1
            case measure => simp [intOf]; omega
          | false =>
            have HNX := skipN (seg_none HHE.out (fun q => by have := q.2; simp only at this; rw [this] at htt; simp at htt) (fun q => by have := q.1; simp only at this; omega))
            clear hobj hf1 hf2 hr2 HACC2 skipN
            go_wp2_with fail
            go_roundw
            case rel => exact ⟨k + 1, by omega, by go_num, HNX.out⟩
            case measure => simp [intOf]; omega
        | false =>
          by_cases h5 : kk = 5
          · subst h5
            obtain ⟨t1, t2, t3, t4⟩ := hf2 rfl
            obtain ⟨pq, hpq⟩ : ∃ pq : Nat, parentL es (tt : Int) = (pq : Int) := ⟨(parentL es (tt : Int)).toNat, by omega⟩
            rw [hpq] at t3 t4
            have HPQ := hidIt hpq
            clear hf1 hf2 HACC2 hobj hpq
            cases htp : ((pq : Int) == (t : Int)) with
            | true =>
              have hpt : pq = t := by have : (pq : Int) = (t : Int) := by simpa using htp
                                      omega
              have HSG : Hid (seg es W t k = W tt) := by show _ = _; rw [seg_com HHE.out rfl (by simp only; rw [HPQ.out, hpt])]; simp
              have HRC := hidIt (fun m => HIH.out tt (by omega) (by omega) Vk ((wr.alloc (.cells #[.int .u8 5, .int .u8 (tt : Int), .int .u8 (aa : Int), .int .i32 vv, .int .i32 ss] 45)).drewN m) (below_drewN ((HBW.out.trans (HEX.out.below.mono hb0)).alloc (by have := HBW.out.size; have := HEX.out.below.size; omega) _) m) (HAE.out.drewN m))
              clear hpt t1 t2 t3 t4 skipN
              go_wp2_with fail
              go_quiet ((go_at_call 83; exact Calls.quiet_of_same (refParent_is _ es (tt : Int) (pq : Int) _ (HSE.out.drewN _) (by omega) HPQ.out)))
              go_wp2_with fail
              refine (HRC.out nq).mono ?_
              rintro r w4 ⟨rfl, ha4, he4⟩
              have HR4 := hidIt (And.intro ha4 he4)
              clear ha4 he4
              go_wp2_with fail
              go_roundw
              case rel =>
                refine ⟨k + 1, by omega, by go_num, ?_, (HEE.out.drewN _).trans HR4.out.2⟩
                rw [HPN.out, HSG.out]
                exact HR4.out.1
              case measure => simp [intOf]; omega
            | false =>
              have HNX := skipN (seg_none HHE.out (fun q => by have := q.1; simp only at this; exact absurd this (by decide)) (fun q => by have := q.2; simp only at this; rw [HPQ.out] at this; rw [this] at htp; simp at htp))
              clear t1 t2 t3 t4 skipN
              go_wp2_with fail
              go_quiet ((go_at_call 83; exact Calls.quiet_of_same (refParent_is _ es (tt : Int) (pq : Int) _ (HSE.out.drewN _) (by omega) HPQ.out)))
              go_wp2_with fail
              go_roundw
              case rel => exact ⟨k + 1, by omega, by go_num, HNX.out.1.drewN _, HNX.out.2.drewN _⟩
              case measure => simp [intOf]; omega
          · have k5 : (kk == 5) = false := by simpa using h5
            have HNX := skipN (seg_none HHE.out (fun q => by have := q.1; simp only at this; rw [this] at hobj; cases hobj) (fun q => h5 q.1))
            have hr2 : ¬ (2 ≤ kk ∧ kk ≤ 4) := fun q => by have := onObj_iff.2 q; rw [this] at hobj; cases hobj
            clear hobj hf1 hf2 h5 HACC2 skipN
            by_cases h2 : 2 ≤ kk
            · have h4 : ¬ kk ≤ 4 := fun q => hr2 ⟨h2, q⟩
              clear hr2
              go_wp2_with fail
              go_roundw
              case rel => exact ⟨k + 1, by omega, by go_num, HNX.out⟩
              case measure => simp [intOf]; omega
            · clear hr2
              go_wp2_with fail
              go_roundw
              case rel => exact ⟨k + 1, by omega, by go_num, HNX.out⟩
              case measure => simp [intOf]; omega
      · have hr0 : ¬ rk < 0 := by omega
        have hrd : decide (rk < 0) = false := decide_eq_false hr0
        have HN : Hid (playL es V (W t) = (rk, Vk)) := by
          show _ = _
          obtain ⟨m, hm⟩ := flat_split es W t k es.length hk
          rw [HEQ.out, hm, play_app_stop _ _ _ (by rw [HRK.out]; exact hr), HRK.out]
        go_wp2_with fail
        go_end0
        exact ⟨rfl, by rw [HN.out]; exact HAG.out, HEX.out⟩
    · have hge : ¬ (k : Int) < (es.length : Int) := by omega
      have HN : Hid (playL es V (W t) = (rk, Vk)) := by show _ = _; rw [HEQ.out, ← show k = es.length by omega, HRK.out]
      go_wp2_with fail
      go_end0
      exact ⟨rfl, by rw [HN.out]; exact HAG.out, HEX.out⟩

end Go.Proofs.YtfdalbmopaemgabGreatDoor

namespace Go.Proofs.YtfdalbmopaemgabGreatDoor
open Go.RowKit

theorem ag_new (w : World) (T : TypeId) (hv : Value) : AgAt (w.alloc (.cells #[hv, .int .i32 0, .int .i32 0, .int .i32 0, .int .i32 0, .int .i64 (-1)] T)) w.heap.size hv (fun _ => 0) (-1) := by
  refine ⟨by simp [go_sem], fun i hi => ?_, by simp [go_sem], fun o => by simp [go_sem], by simp⟩
  have hc : i = 0 ∨ i = 1 ∨ i = 2 ∨ i = 3 := by omega
  rcases hc with rfl | rfl | rfl | rfl <;> simp [go_sem]

set_option maxRecDepth 100000 in
set_option maxHeartbeats 4000000 in
theorem refReplay (a : Option Addr) (c : Nat) (es : List Ev) (w : World) (hs : SlEv w (.slice a es.length c) es) (hok : ∀ e ∈ es, e.Ok) (hm : es.length ≤ 1048576) (hcap : es.length ≤ c) :
    Calls Tryz.prog 29 #[.slice a es.length c] w (RePost w es) := by
  have HS := hidIt hs
  have HOK := hidIt hok
  have hbx := (Below.refl w.heap.size w).alloc (Nat.le_refl _) (.cells #[.int .i32 0, .int .i32 0, .int .i32 0, .int .i32 0] 72)
  have HV0 := hidIt (vat_new w 72)
  have HCH := hidIt (refCheck a c es _ (hs.below hbx) hok hm hcap)
  clear hs hok
  obtain ⟨⟨pe, pp⟩, hpe⟩ : ∃ x, checkG [] es = x := ⟨_, rfl⟩
  have HPE := hidIt hpe
  clear hpe
  go_enter Tryz.func29, Tryz.ntmps29
  go_wp2_with fail
  refine HCH.out.mono ?_
  rintro r w1 ⟨rfl, hb1⟩
  rw [HPE.out]
  simp only
  have HV1 := hidIt (HV0.out.below hb1)
  have hb1' := hbx.trans (hb1.mono hbx.size)
  have hz1 := HV1.out.lt
  have q0 := HV1.out.cell 0 (by omega)
  have q1 := HV1.out.cell 1 (by omega)
  have q2 := HV1.out.cell 2 (by omega)
  have q3 := HV1.out.cell 3 (by omega)
  have f0 := HV1.out.fz
  cases h0 : (pe == 0) with
  | false =>
    have h0n : (pe != 0) = true := by simp [bne, h0]
    have HN : Hid (replayG es = (0, fun _ => 0, pe)) := by show _ = _; unfold replayG; rw [HPE.out, if_neg (by simpa using h0)]
    clear h0
    go_wp2_with fail
    exact bodyPost_ret (v := .tuple #[.int .i64 0, .agg #[.int .i32 0, .int .i32 0, .int .i32 0, .int .i32 0], .int .i64 pe]) (by simp [results, Tryz.results29, go_sem, q0, q1, q2, q3]) rfl ⟨by rw [HN.out], set4_below hb1' _ (Nat.le_refl _) _ _ _ _⟩
  | true =>
    have h0n : (pe != 0) = false := by simp [bne, h0]
    have hpe0 : pe = 0 := by simpa using h0
    have hck : (checkG [] es).1 = 0 := by rw [HPE.out]; exact hpe0
    obtain ⟨T, W, hgi, hordW⟩ := gi_all HOK.out hck
    have hba : Below w1.heap.size w1 (w1.alloc (.cells #[.slice a es.length c, .int .i32 0, .int .i32 0, .int .i32 0, .int .i32 0, .int .i64 (-1)] 100)) := (Below.refl _ _).alloc (Nat.le_refl _) _
    have HPL := hidIt (refPlay es T W HOK.out hck hgi a c w1 (HS.out.below hb1') w1.heap.size (Nat.le_refl _) 16 0 (by omega) (by omega) (fun _ => 0) _ hba (ag_new w1 100 _))
    have HRG : Hid (replayG es = ((playL es (fun _ => 0) (W 0)).1, (playL es (fun _ => 0) (W 0)).2, 0)) := by show _ = _; unfold replayG; rw [if_pos hck, hordW]
    have HBA : Hid (Below w.heap.size w (w1.alloc (.cells #[.slice a es.length c, .int .i32 0, .int .i32 0, .int .i32 0, .int .i32 0, .int .i64 (-1)] 100))) := hb1'.trans (hba.mono (Nat.le_of_lt hz1))
    have HVA := hidIt (HV1.out.below hba)
    clear h0 hpe0 hck hgi hordW hba q0 q1 q2 q3 f0
    go_wp2_with fail
    refine HPL.out.mono ?_
    rintro r w4 ⟨rfl, ha4, he4⟩
    obtain ⟨⟨rp, rv⟩, hrp⟩ : ∃ x, playL es (fun _ => 0) (W 0) = x := ⟨_, rfl⟩
    rw [hrp] at ha4 HRG
    simp only at ha4 HRG
    clear hrp HPL
    have HV4 : Hid (VAt w4 w.heap.size fun _ => 0) := HVA.out.of_heap (he4.rest _ (by omega) HVA.out.lt) he4.below.size
    have HB4 : Hid (Below w.heap.size w w4) := HBA.out.trans (he4.below.mono (Nat.le_of_lt hz1))
    have hz4 := HV4.out.lt
    have q0 := HV4.out.cell 0 (by omega)
    have q1 := HV4.out.cell 1 (by omega)
    have q2 := HV4.out.cell 2 (by omega)
    have q3 := HV4.out.cell 3 (by omega)
    have f0 := HV4.out.fz
    have v0 := ha4.cell 0 (by omega)
    have v1 := ha4.cell 1 (by omega)
    have v2 := ha4.cell 2 (by omega)
    have v3 := ha4.cell 3 (by omega)
    have v5 := ha4.wrong
    simp only [Nat.add_zero, Nat.reduceAdd] at v0 v1 v2 v3
    clear ha4 he4
    go_wp2_with fail
    go_region
    all_goals (try go_wp2_with fail)
    all_goals exact bodyPost_ret (v := .tuple #[.int .i64 rp, valsV rv, .int .i64 0]) (by simp [results, Tryz.results29, go_sem, q0, q1, q2, q3]) rfl ⟨by rw [HRG.out], set4_below (below_drewN HB4.out 1) _ (Nat.le_refl _) _ _ _ _⟩

end Go.Proofs.YtfdalbmopaemgabGreatDoor
