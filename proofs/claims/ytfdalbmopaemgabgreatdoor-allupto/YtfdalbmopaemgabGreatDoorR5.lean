import Derived.Test.YtfdalbmopaemgabGreatDoorL6
namespace Go.Proofs.YtfdalbmopaemgabGreatDoor
open Go.RowKit

/-! ### The document's own answers about transactions -/
def isB (t : Int) (e : Ev) : Bool := e.k == 1 && e.t == t

def begunN : Int → List Ev → Option Nat
  | _, [] => none
  | t, e :: l => if isB t e then some 0 else (begunN t l).map (· + 1)

def begunI (h : List Ev) (t : Int) : Int := match begunN t h with
  | none => -1
  | some i => (i : Int)

def countL (h : List Ev) : Nat := (h.filter (fun e => e.k == 1)).length

def parentL (h : List Ev) (t : Int) : Int := match begunN t h with
  | none => 0
  | some i => (h[i]?.map (·.a)).getD 0

def withinG (h : List Ev) (a : Int) : Nat → Int → Bool
  | 0, t => t == a
  | f + 1, t => if t = a then true else if t = 0 then false else withinG h a f (parentL h t)

def isC (t : Int) (e : Ev) : Bool := e.k == 5 && e.t == t
def isX (h : List Ev) (t : Int) (e : Ev) : Bool := e.k == 6 && withinG h e.t 16 t && e.t != 0

def openL (h : List Ev) (t : Int) : Bool := match begunN t h with
  | none => false
  | some b => !h.any (isC t) && !(h.drop b).any (isX h t)

theorem begunN_app (t : Int) : ∀ (l m : List Ev), (∀ e ∈ l, isB t e = false) → begunN t (l ++ m) = (begunN t m).map (· + l.length)
  | [], m, _ => by simp
  | e :: l, m, h => by
    have h1 := h e (List.mem_cons_self ..)
    have h2 := begunN_app t l m fun x hx => h x (List.mem_cons_of_mem _ hx)
    simp only [List.cons_append, begunN, h1, h2]
    cases begunN t m <;> simp [Nat.add_assoc]

theorem begunN_none (t : Int) (l : List Ev) (h : ∀ e ∈ l, isB t e = false) : begunN t l = none := by
  have := begunN_app t l [] h
  simpa [begunN] using this

theorem mem_take_getElem {l : List Ev} {k : Nat} {e : Ev} (h : e ∈ l.take k) : ∃ (i : Nat) (hi : i < l.length), i < k ∧ l[i] = e := by
  obtain ⟨i, hi, rfl⟩ := List.getElem_of_mem h
  rw [List.length_take] at hi
  exact ⟨i, by omega, by omega, by simp⟩

theorem begunN_at (t : Int) (l : List Ev) (k : Nat) (hk : k < l.length) (h : ∀ (i : Nat) (hi : i < l.length), i < k → isB t l[i] = false) (hb : isB t l[k] = true) : begunN t l = some k := by
  have hs : l = l.take k ++ l.drop k := (List.take_append_drop k l).symm
  rw [List.drop_eq_getElem_cons hk] at hs
  rw [hs, begunN_app t _ _ (fun e he => by obtain ⟨i, hi, h1, rfl⟩ := mem_take_getElem he; exact h i hi h1)]
  simp [begunN, hb]
  omega

theorem begunN_lt (t : Int) : ∀ (l : List Ev) (i : Nat), begunN t l = some i → ∃ h : i < l.length, isB t l[i] = true
  | [], i, h => by cases h
  | e :: l, i, h => by
    unfold begunN at h
    split at h
    · rename_i hb
      cases h
      exact ⟨by simp, hb⟩
    · cases hq : begunN t l with
      | none => rw [hq] at h; cases h
      | some j =>
        rw [hq] at h
        cases h
        obtain ⟨h1, h2⟩ := begunN_lt t l j hq
        exact ⟨by simp; omega, by simpa using h2⟩

theorem SlEv.at_ {w : World} {a : Option Addr} {c : Nat} {es : List Ev} (h : SlEv w (.slice a es.length c) es) (k : Nat) (hk : k < es.length) : ∃ b off, a = some ⟨b, off, none⟩ ∧ b < w.heap.size ∧ EvAt w b (off + k * 5) es[k] := by
  rcases h with ⟨rfl, _⟩ | ⟨b, off, c', h1, h2, h3⟩
  · simp at hk
  · simp only [Value.slice.injEq] at h1
    exact ⟨b, off, h1.1, h2, h3 k hk⟩


set_option maxRecDepth 100000 in
set_option maxHeartbeats 1000000 in
theorem refBegun (v : Value) (es : List Ev) (t : Int) (w : World) (hs : SlEv w v es) (hm : es.length ≤ 1048576) :
    Calls Tryz.prog 91 #[v, .int .u8 t] w fun r w' => r = .returned (.int .i64 (begunI es t)) ∧ w' = w := by
  obtain ⟨a, c, rfl⟩ := slice_form hs
  have HS := hidIt hs
  clear hs
  go_enter Tryz.func91, Tryz.ntmps91
  go_wp2_with fail
  go_loop [5] (fun i => ∃ k : Nat, k ≤ es.length ∧ i = .int .i64 k ∧ Hid (∀ (i : Nat) (hi : i < es.length), i < k → isB t es[i] = false)) (fun i => es.length - (intOf i).toNat)
  case atStart => exact ⟨0, by omega, rfl, fun i hi h => by omega⟩
  case round =>
    obtain ⟨k, hk, rfl, HB⟩ := hrel
    by_cases hlt : k < es.length
    · have hlt' : (k : Int) < (es.length : Int) := by omega
      have hk0 : (0 : Int) ≤ (k : Int) := by omega
      obtain ⟨b, off, rfl, hbw, g0, g1, g2, g3, g4⟩ := HS.out.at_ k hlt
      obtain ⟨ev, hev⟩ : ∃ ev, es[k] = ev := ⟨_, rfl⟩
      have HE := hidIt hev
      rw [hev] at g0 g1 g2 g3 g4
      clear hev
      cases h1 : (ev.k == 1) with
      | false =>
        have HN : Hid (isB t es[k] = false) := by show _ = _; rw [HE.out]; simp [isB, h1]
        go_wp2_with fail
        go_round
        case rel =>
          refine ⟨k + 1, by omega, by go_num, fun i hi h => ?_⟩
          by_cases e : i = k
          · subst e; exact HN.out
          · exact HB.out i hi (by omega)
        case measure => simp [intOf]; omega
      | true =>
        cases h2 : (ev.t == t) with
        | false =>
          have HN : Hid (isB t es[k] = false) := by show _ = _; rw [HE.out]; simp [isB, h2]
          go_wp2_with fail
          go_round
          case rel =>
            refine ⟨k + 1, by omega, by go_num, fun i hi h => ?_⟩
            by_cases e : i = k
            · subst e; exact HN.out
            · exact HB.out i hi (by omega)
          case measure => simp [intOf]; omega
        | true =>
          have HN : Hid (begunI es t = (k : Int)) := by
            show _ = _
            unfold begunI
            rw [begunN_at t es k hlt HB.out (by rw [HE.out]; simp [isB, h1, h2])]
          go_wp2_with fail
          go_ret
          exact ⟨ret_int HN.out.symm, rfl⟩
    · have hge : ¬ (k : Int) < (es.length : Int) := by omega
      have HN : Hid (begunI es t = -1) := by
        show _ = _
        unfold begunI
        rw [begunN_none t es fun e he => by obtain ⟨i, hi, rfl⟩ := List.getElem_of_mem he; exact HB.out i hi (by omega)]
      go_wp2_with fail
      go_ret
      exact ⟨ret_int HN.out.symm, rfl⟩

end Go.Proofs.YtfdalbmopaemgabGreatDoor
