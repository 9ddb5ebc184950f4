import Derived.Test.YtfdalbmopaemgaaGreatDoorZL6
namespace Go.Proofs.YtfdalbmopaemgaaGreatDoor
open Go.RowKit

/-! ### The document's own answers about transactions -/
def isB (t : Int) (e : Ev) : Bool := e.k == 1 && e.t == t

def begunN : Int → List Ev → Option Nat
  | _, [] => none
  | t, e :: l => if isB t e then some 0 else (begunN t l).map (· + 1)

def begunI (h : List Ev) (t : Int) : Int := match begunN t h with
  | none => -1
  | some i => (i : Int)

def countL (h : List Ev) : Nat := (h.filter (fun e => e.k == 1)).length

def parentL (h : List Ev) (t : Int) : Int := match begunN t h with
  | none => 0
  | some i => (h[i]?.map (·.a)).getD 0

def withinG (h : List Ev) (a : Int) : Nat → Int → Bool
  | 0, t => t == a
  | f + 1, t => if t = a then true else if t = 0 then false else withinG h a f (parentL h t)

def isC (t : Int) (e : Ev) : Bool := e.k == 5 && e.t == t
def isX (h : List Ev) (t : Int) (e : Ev) : Bool := e.k == 6 && withinG h e.t 16 t && e.t != 0

def openL (h : List Ev) (t : Int) : Bool := match begunN t h with
  | none => false
  | some b => !h.any (isC t) && !(h.drop b).any (isX h t)

theorem begunN_app (t : Int) : ∀ (l m : List Ev), (∀ e ∈ l, isB t e = false) → begunN t (l ++ m) = (begunN t m).map (· + l.length)
  | [], m, _ => by simp
  | e :: l, m, h => by
    have h1 := h e (List.mem_cons_self ..)
    have h2 := begunN_app t l m fun x hx => h x (List.mem_cons_of_mem _ hx)
    simp only [List.cons_append, begunN, h1, h2]
    cases begunN t m <;> simp [Nat.add_assoc]

theorem begunN_none (t : Int) (l : List Ev) (h : ∀ e ∈ l, isB t e = false) : begunN t l = none := by
  have := begunN_app t l [] h
  simpa [begunN] using this

theorem mem_take_getElem {l : List Ev} {k : Nat} {e : Ev} (h : e ∈ l.take k) : ∃ (i : Nat) (hi : i < l.length), i < k ∧ l[i] = e := by
  obtain ⟨i, hi, rfl⟩ := List.getElem_of_mem h
  rw [List.length_take] at hi
  exact ⟨i, by omega, by omega, by simp⟩

theorem begunN_at (t : Int) (l : List Ev) (k : Nat) (hk : k < l.length) (h : ∀ (i : Nat) (hi : i < l.length), i < k → isB t l[i] = false) (hb : isB t l[k] = true) : begunN t l = some k := by
  have hs : l = l.take k ++ l.drop k := (List.take_append_drop k l).symm
  rw [List.drop_eq_getElem_cons hk] at hs
  rw [hs, begunN_app t _ _ (fun e he => by obtain ⟨i, hi, h1, rfl⟩ := mem_take_getElem he; exact h i hi h1)]
  simp [begunN, hb]
  omega

theorem begunN_lt (t : Int) : ∀ (l : List Ev) (i : Nat), begunN t l = some i → ∃ h : i < l.length, isB t l[i] = true
  | [], i, h => by cases h
  | e :: l, i, h => by
    unfold begunN at h
    split at h
    · rename_i hb
      cases h
      exact ⟨by simp, hb⟩
    · cases hq : begunN t l with
      | none => rw [hq] at h; cases h
      | some j =>
        rw [hq] at h
        cases h
        obtain ⟨h1, h2⟩ := begunN_lt t l j hq
        exact ⟨by simp; omega, by simpa using h2⟩

theorem SlEv.at_ {w : World} {a : Option Addr} {c : Nat} {es : List Ev} (h : SlEv w (.slice a es.length c) es) (k : Nat) (hk : k < es.length) : ∃ b off, a = some ⟨b, off, none⟩ ∧ b < w.heap.size ∧ EvAt w b (off + k * 5) es[k] := by
  rcases h with ⟨rfl, _⟩ | ⟨b, off, c', h1, h2, h3⟩
  · simp at hk
  · simp only [Value.slice.injEq] at h1
    exact ⟨b, off, h1.1, h2, h3 k hk⟩


set_option maxRecDepth 100000 in
set_option maxHeartbeats 1000000 in
theorem refBegun (v : Value) (es : List Ev) (t : Int) (w : World) (hs : SlEv w v es) (hm : es.length ≤ 1048576) :
    Calls Tryz.prog 96 #[v, .int .u8 t] w fun r w' => r = .returned (.int .i64 (begunI es t)) ∧ w' = w := by
  obtain ⟨a, c, rfl⟩ := slice_form hs
  have HS := hidIt hs
  clear hs
  go_enter Tryz.func96, Tryz.ntmps96
  go_wp2_with fail
  go_loop [5] (fun i => ∃ k : Nat, k ≤ es.length ∧ i = .int .i64 k ∧ Hid (∀ (i : Nat) (hi : i < es.length), i < k → isB t es[i] = false)) (fun i => es.length - (intOf i).toNat)
  case atStart => exact ⟨0, by omega, rfl, fun i hi h => by omega⟩
  case round =>
    obtain ⟨k, hk, rfl, HB⟩ := hrel
    by_cases hlt : k < es.length
    · have hlt' : (k : Int) < (es.length : Int) := by omega
      have hk0 : (0 : Int) ≤ (k : Int) := by omega
      obtain ⟨b, off, rfl, hbw, g0, g1, g2, g3, g4⟩ := HS.out.at_ k hlt
      obtain ⟨ev, hev⟩ : ∃ ev, es[k] = ev := ⟨_, rfl⟩
      have HE := hidIt hev
      rw [hev] at g0 g1 g2 g3 g4
      clear hev
      cases h1 : (ev.k == 1) with
      | false =>
        have HN : Hid (isB t es[k] = false) := by show _ = _; rw [HE.out]; simp [isB, h1]
        go_wp2_with fail
        go_round
        case rel =>
          refine ⟨k + 1, by omega, by go_num, fun i hi h => ?_⟩
          by_cases e : i = k
          · subst e; exact HN.out
          · exact HB.out i hi (by omega)
        case measure => simp [intOf]; omega
      | true =>
        cases h2 : (ev.t == t) with
        | false =>
          have HN : Hid (isB t es[k] = false) := by show _ = _; rw [HE.out]; simp [isB, h2]
          go_wp2_with fail
          go_round
          case rel =>
            refine ⟨k + 1, by omega, by go_num, fun i hi h => ?_⟩
            by_cases e : i = k
            · subst e; exact HN.out
            · exact HB.out i hi (by omega)
          case measure => simp [intOf]; omega
        | true =>
          have HN : Hid (begunI es t = (k : Int)) := by
            show _ = _
            unfold begunI
            rw [begunN_at t es k hlt HB.out (by rw [HE.out]; simp [isB, h1, h2])]
          go_wp2_with fail
          go_ret
          exact ⟨ret_int HN.out.symm, rfl⟩
    · have hge : ¬ (k : Int) < (es.length : Int) := by omega
      have HN : Hid (begunI es t = -1) := by
        show _ = _
        unfold begunI
        rw [begunN_none t es fun e he => by obtain ⟨i, hi, rfl⟩ := List.getElem_of_mem he; exact HB.out i hi (by omega)]
      go_wp2_with fail
      go_ret
      exact ⟨ret_int HN.out.symm, rfl⟩

end Go.Proofs.YtfdalbmopaemgaaGreatDoor

namespace Go.Proofs.YtfdalbmopaemgaaGreatDoor
open Go.RowKit

theorem countL_take (es : List Ev) (k : Nat) (h : k < es.length) : countL (es.take (k + 1)) = countL (es.take k) + (if es[k].k == 1 then 1 else 0) := by
  unfold countL
  rw [List.take_succ_eq_append_getElem h, List.filter_append, List.length_append]
  congr 1
  cases hq : (es[k].k == 1) <;> simp [List.filter, hq]

theorem countL_le (es : List Ev) : countL es ≤ es.length := List.length_filter_le ..

set_option maxRecDepth 100000 in
set_option maxHeartbeats 1000000 in
theorem refCount (v : Value) (es : List Ev) (w : World) (hs : SlEv w v es) (hm : es.length ≤ 1048576) :
    Calls Tryz.prog 65 #[v] w fun r w' => r = .returned (.int .i64 (countL es)) ∧ w' = w := by
  obtain ⟨a, c, rfl⟩ := slice_form hs
  have HS := hidIt hs
  clear hs
  go_enter Tryz.func65, Tryz.ntmps65
  go_wp2_with fail
  go_loop [3, 4] (fun n i => ∃ k m : Nat, k ≤ es.length ∧ i = .int .i64 k ∧ n = .int .i64 m ∧ m ≤ k ∧ Hid (countL (es.take k) = m)) (fun _ i => es.length - (intOf i).toNat)
  case atStart => exact ⟨0, 0, by omega, rfl, rfl, by omega, rfl⟩
  case round =>
    obtain ⟨k, m, hk, rfl, rfl, hmk, HC⟩ := hrel
    by_cases hlt : k < es.length
    · have hlt' : (k : Int) < (es.length : Int) := by omega
      have hk0 : (0 : Int) ≤ (k : Int) := by omega
      obtain ⟨b, off, rfl, hbw, g0, g1, g2, g3, g4⟩ := HS.out.at_ k hlt
      have HT := hidIt (countL_take es k hlt)
      obtain ⟨ev, hev⟩ : ∃ ev, es[k] = ev := ⟨_, rfl⟩
      rw [hev] at g0 g1 g2 g3 g4 HT
      clear hev
      cases h1 : (ev.k == 1) with
      | false =>
        have HN : Hid (countL (es.take (k + 1)) = m) := by show _ = _; rw [HT.out, h1, HC.out]; rfl
        go_wp2_with fail
        go_round
        case rel => exact ⟨k + 1, m, by omega, by go_num, rfl, by omega, HN⟩
        case measure => simp [intOf]; omega
      | true =>
        have HN : Hid (countL (es.take (k + 1)) = m + 1) := by show _ = _; rw [HT.out, h1, HC.out]; rfl
        go_wp2_with fail
        go_round
        case rel => exact ⟨k + 1, m + 1, by omega, by go_num, by go_num, by omega, HN⟩
        case measure => simp [intOf]; omega
    · have hge : ¬ (k : Int) < (es.length : Int) := by omega
      have hke : k = es.length := by omega
      subst hke
      have HN : Hid (countL es = m) := by show _ = _; rw [← HC.out, List.take_length]
      go_wp2_with fail
      go_ret
      exact ⟨ret_int (by rw [HN.out]), rfl⟩

theorem ret_u8 {a b : Int} (h : a = b) : Ending.returned (.int .u8 a) = .returned (.int .u8 b) := by rw [h]

set_option maxRecDepth 100000 in
set_option maxHeartbeats 1000000 in
theorem refParent (v : Value) (es : List Ev) (t : Int) (w : World) (hs : SlEv w v es) (hm : es.length ≤ 1048576) :
    Calls Tryz.prog 88 #[v, .int .u8 t] w fun r w' => r = .returned (.int .u8 (parentL es t)) ∧ w' = w := by
  obtain ⟨a, c, rfl⟩ := slice_form hs
  have HS := hidIt hs
  have HC := hidIt (refBegun _ es t w hs hm)
  clear hs
  cases hb : begunN t es with
  | none =>
    have HP : Hid (parentL es t = 0) := by show _ = _; unfold parentL; rw [hb]
    have HB : Hid (begunI es t = -1) := by show _ = _; unfold begunI; rw [hb]
    clear hb
    go_enter Tryz.func88, Tryz.ntmps88
    go_wp2_with fail
    refine HC.out.mono ?_
    rintro r w1 ⟨rfl, rfl⟩
    rw [HB.out]
    go_wp2_with fail
    go_ret
    exact ⟨ret_u8 HP.out.symm, rfl⟩
  | some i =>
    obtain ⟨hi, _⟩ := begunN_lt t es i hb
    obtain ⟨b, off, rfl, hbw, g0, g1, g2, g3, g4⟩ := HS.out.at_ i hi
    obtain ⟨ev, hev⟩ : ∃ ev, es[i] = ev := ⟨_, rfl⟩
    have HP : Hid (parentL es t = ev.a) := by show _ = _; unfold parentL; rw [hb]; simp [hi, hev]
    have HB : Hid (begunI es t = (i : Int)) := by show _ = _; unfold begunI; rw [hb]
    rw [hev] at g0 g1 g2 g3 g4
    clear hb hev
    have hi' : (i : Int) < (es.length : Int) := by omega
    have hi0 : (0 : Int) ≤ (i : Int) := by omega
    have hi1 : ¬ (i : Int) < 0 := by omega
    go_enter Tryz.func88, Tryz.ntmps88
    go_wp2_with fail
    refine HC.out.mono ?_
    rintro r w1 ⟨rfl, rfl⟩
    rw [HB.out]
    go_wp2_with fail
    go_ret
    exact ⟨ret_u8 HP.out.symm, rfl⟩

set_option maxRecDepth 100000 in
set_option maxHeartbeats 1000000 in
theorem refWithin (v : Value) (es : List Ev) (t a : Int) (w : World) (hs : SlEv w v es) (hm : es.length ≤ 1048576) :
    Calls Tryz.prog 90 #[v, .int .u8 t, .int .u8 a] w fun r w' => r = .returned (.bool (withinG es a 16 t)) ∧ w' = w := by
  have HS := hidIt hs
  obtain ⟨ad, c, rfl⟩ := slice_form hs
  clear hs
  go_enter Tryz.func90, Tryz.ntmps90
  go_wp2_with fail
  go_loop [1, 7] (fun tv n => ∃ (k : Nat) (t' : Int), k ≤ 16 ∧ n = .int .i64 k ∧ tv = .int .u8 t' ∧ Hid (withinG es a 16 t = withinG es a (16 - k) t')) (fun _ n => 16 - (intOf n).toNat)
  case atStart => exact ⟨0, t, by omega, rfl, rfl, rfl⟩
  case round =>
    obtain ⟨k, t', hk, rfl, rfl, HW⟩ := hrel
    by_cases hlt : k < 16
    · have hlt' : (k : Int) ≤ 15 := by omega
      obtain ⟨m, hm'⟩ : ∃ m, 16 - k = m + 1 := ⟨15 - k, by omega⟩
      have HM : Hid (16 - (k + 1) = m) := by show _ = _; omega
      rw [hm'] at HW
      clear hm'
      cases h1 : (t' == a) with
      | true =>
        have h1' : t' = a := by simpa using h1
        have HF : Hid (withinG es a 16 t = true) := by show _ = _; rw [HW.out, withinG, if_pos h1']
        have h1n : (t' != a) = false := by simp [h1']
        clear h1'
        go_wp2_with fail
        go_ret
        exact ⟨ret_bool (by rw [HF.out]), rfl⟩
      | false =>
        have h1' : t' ≠ a := by simpa using h1
        have h1n : (t' != a) = true := by simp [h1']
        cases h2 : (t' == 0) with
        | true =>
          have h2' : t' = 0 := by simpa using h2
          have HF : Hid (withinG es a 16 t = false) := by show _ = _; rw [HW.out, withinG, if_neg h1', if_pos h2']
          clear h1' h2'
          go_wp2_with fail
          go_ret
          exact ⟨ret_bool HF.out.symm, rfl⟩
        | false =>
          have h2' : t' ≠ 0 := by simpa using h2
          have HF : Hid (withinG es a 16 t = withinG es a m (parentL es t')) := by show _ = _; rw [HW.out, withinG, if_neg h1', if_neg h2']
          clear h1' h2'
          go_wp2_with fail
          refine (refParent _ es t' w HS.out hm).mono ?_
          rintro r w1 ⟨rfl, rfl⟩
          go_wp2_with fail
          go_round
          case rel => exact ⟨k + 1, parentL es t', by omega, by go_num, rfl, by show _ = _; rw [HM.out]; exact HF.out⟩
          case measure => simp [intOf]; omega
    · have hke : k = 16 := by omega
      subst hke
      have HF : Hid (withinG es a 16 t = (t' == a)) := HW
      go_wp2_with fail
      go_ret
      exact ⟨ret_bool HF.out.symm, rfl⟩

set_option maxRecDepth 100000 in
set_option maxHeartbeats 1000000 in
theorem refCommitted (v : Value) (es : List Ev) (t : Int) (w : World) (hs : SlEv w v es) (hm : es.length ≤ 1048576) :
    Calls Tryz.prog 89 #[v, .int .u8 t] w fun r w' => r = .returned (.bool (es.any (isC t))) ∧ w' = w := by
  obtain ⟨a, c, rfl⟩ := slice_form hs
  have HS := hidIt hs
  clear hs
  go_enter Tryz.func89, Tryz.ntmps89
  go_wp2_with fail
  go_loop [5] (fun i => ∃ k : Nat, k ≤ es.length ∧ i = .int .i64 k ∧ Hid (∀ (i : Nat) (hi : i < es.length), i < k → isC t es[i] = false)) (fun i => es.length - (intOf i).toNat)
  case atStart => exact ⟨0, by omega, rfl, fun i hi h => by omega⟩
  case round =>
    obtain ⟨k, hk, rfl, HB⟩ := hrel
    by_cases hlt : k < es.length
    · have hlt' : (k : Int) < (es.length : Int) := by omega
      have hk0 : (0 : Int) ≤ (k : Int) := by omega
      obtain ⟨b, off, rfl, hbw, g0, g1, g2, g3, g4⟩ := HS.out.at_ k hlt
      obtain ⟨ev, hev⟩ : ∃ ev, es[k] = ev := ⟨_, rfl⟩
      have HE := hidIt hev
      rw [hev] at g0 g1 g2 g3 g4
      clear hev
      cases h1 : (ev.k == 5) with
      | false =>
        have HN : Hid (isC t es[k] = false) := by show _ = _; rw [HE.out]; simp [isC, h1]
        go_wp2_with fail
        go_round
        case rel =>
          refine ⟨k + 1, by omega, by go_num, fun i hi h => ?_⟩
          by_cases e : i = k
          · subst e; exact HN.out
          · exact HB.out i hi (by omega)
        case measure => simp [intOf]; omega
      | true =>
        cases h2 : (ev.t == t) with
        | false =>
          have HN : Hid (isC t es[k] = false) := by show _ = _; rw [HE.out]; simp [isC, h2]
          go_wp2_with fail
          go_round
          case rel =>
            refine ⟨k + 1, by omega, by go_num, fun i hi h => ?_⟩
            by_cases e : i = k
            · subst e; exact HN.out
            · exact HB.out i hi (by omega)
          case measure => simp [intOf]; omega
        | true =>
          have HN : Hid (es.any (isC t) = true) := by
            show _ = _
            rw [List.any_eq_true]
            exact ⟨es[k], List.getElem_mem _, by rw [HE.out]; simp [isC, h1, h2]⟩
          go_wp2_with fail
          go_ret
          exact ⟨ret_bool HN.out.symm, rfl⟩
    · have hge : ¬ (k : Int) < (es.length : Int) := by omega
      have HN : Hid (es.any (isC t) = false) := by
        show _ = _
        rw [List.any_eq_false]
        intro e he
        obtain ⟨i, hi, rfl⟩ := List.getElem_of_mem he
        rw [HB.out i hi (by omega)]
        decide
      go_wp2_with fail
      go_ret
      exact ⟨ret_bool HN.out.symm, rfl⟩

end Go.Proofs.YtfdalbmopaemgaaGreatDoor
