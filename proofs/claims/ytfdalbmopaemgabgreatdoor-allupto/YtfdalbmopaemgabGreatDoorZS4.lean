import Derived.Test.YtfdalbmopaemgabGreatDoorZK9
import Derived.Test.YtfdalbmopaemgabGreatDoorZG1
import Derived.Laws.BitsAllLaws
namespace Go.Proofs.YtfdalbmopaemgabGreatDoor
open Go.RowKit

/-! ### The document's own answers about a store -/
def holderG (h : List Ev) : Nat → Int → Int × Bool
  | 0, _ => (0, false)
  | n + 1, t => if t = 0 then (0, true) else if openL h t = true then (t, true) else if h.any (isC t) = false then (0, false) else holderG h n (parentL h t)

theorem tup_ib {k : IntKind} {a b : Int} {c d : Bool} (h : a = b) (h' : c = d) : Ending.returned (.tuple #[.int k a, .bool c]) = .returned (.tuple #[.int k b, .bool d]) := by rw [h, h']

set_option maxRecDepth 100000 in
set_option maxHeartbeats 1000000 in
theorem refHolder (v : Value) (es : List Ev) (t : Int) (w : World) (hs : SlEv w v es) (hm : es.length ≤ 1048576) :
    Calls Tryz.prog 54 #[v, .int .u8 t] w fun r w' => r = .returned (.tuple #[.int .u8 (holderG es 16 t).1, .bool (holderG es 16 t).2]) ∧ w' = w := by
  have HS := hidIt hs
  obtain ⟨ad, c, rfl⟩ := slice_form hs
  clear hs
  go_enter Tryz.func54, Tryz.ntmps54
  go_wp2_with fail
  go_loop [1, 6] (fun tv n => ∃ (k : Nat) (t' : Int), k ≤ 16 ∧ n = .int .i64 k ∧ tv = .int .u8 t' ∧ Hid (holderG es 16 t = holderG es (16 - k) t')) (fun _ n => 16 - (intOf n).toNat)
  case atStart => exact ⟨0, t, by omega, rfl, rfl, rfl⟩
  case round =>
    obtain ⟨k, t', hk, rfl, rfl, HW⟩ := hrel
    by_cases hlt : k < 16
    · have hlt' : (k : Int) ≤ 15 := by omega
      obtain ⟨m, hm'⟩ : ∃ m, 16 - k = m + 1 := ⟨15 - k, by omega⟩
      have HM : Hid (16 - (k + 1) = m) := by show _ = _; omega
      rw [hm'] at HW
      clear hm'
      cases h1 : (t' == 0) with
      | true =>
        have h1' : t' = 0 := by simpa using h1
        have HF : Hid (holderG es 16 t = (0, true)) := by show _ = _; rw [HW.out, holderG, if_pos h1']
        clear h1'
        go_wp2_with fail
        go_ret2
        exact ⟨tup_ib (by rw [HF.out]) (by rw [HF.out]), rfl⟩
      | false =>
        have h1' : t' ≠ 0 := by simpa using h1
        obtain ⟨o, ho⟩ : ∃ o, openL es t' = o := ⟨_, rfl⟩
        have HO := hidIt ho
        obtain ⟨cm, hcm⟩ : ∃ cm, es.any (isC t') = cm := ⟨_, rfl⟩
        have HCM := hidIt hcm
        cases o with
        | true =>
          have HF : Hid (holderG es 16 t = (t', true)) := by show _ = _; rw [HW.out, holderG, if_neg h1', if_pos ho]
          clear h1' ho hcm
          go_wp2_with (go_at_call 59; refine (refOpen _ es t' _ HS.out hm).mono ?_; rintro r w1 ⟨rfl, rfl⟩; rw [HO.out])
          go_ret2
          exact ⟨tup_ib (by rw [HF.out]) (by rw [HF.out]), rfl⟩
        | false =>
          cases cm with
          | false =>
            have HF : Hid (holderG es 16 t = (0, false)) := by show _ = _; rw [HW.out, holderG, if_neg h1', if_neg (by rw [ho]; decide), if_pos hcm]
            clear h1' ho hcm
            go_wp2_with (first | (go_at_call 59; refine (refOpen _ es t' _ HS.out hm).mono ?_; rintro r w1 ⟨rfl, rfl⟩; rw [HO.out]) | (go_at_call 84; refine (refCommitted _ es t' _ HS.out hm).mono ?_; rintro r w1 ⟨rfl, rfl⟩; rw [HCM.out]))
            go_ret2
            exact ⟨tup_ib (by rw [HF.out]) (by rw [HF.out]), rfl⟩
          | true =>
            have HF : Hid (holderG es 16 t = holderG es m (parentL es t')) := by show _ = _; rw [HW.out, holderG, if_neg h1', if_neg (by rw [ho]; decide), if_neg (by rw [hcm]; decide)]
            clear h1' ho hcm
            go_wp2_with (first | (go_at_call 59; refine (refOpen _ es t' _ HS.out hm).mono ?_; rintro r w1 ⟨rfl, rfl⟩; rw [HO.out]) | (go_at_call 84; refine (refCommitted _ es t' _ HS.out hm).mono ?_; rintro r w1 ⟨rfl, rfl⟩; rw [HCM.out]) | (go_at_call 83; refine (refParent _ es t' _ HS.out hm).mono ?_; rintro r w1 ⟨rfl, rfl⟩))
            go_round
            case rel => exact ⟨k + 1, parentL es t', by omega, by go_num, rfl, by show _ = _; rw [HM.out]; exact HF.out⟩
            case measure => simp [intOf]; omega
    · have hke : k = 16 := by omega
      subst hke
      have HF : Hid (holderG es 16 t = (0, false)) := HW
      go_wp2_with fail
      go_ret2
      exact ⟨tup_ib (by rw [HF.out]) (by rw [HF.out]), rfl⟩

end Go.Proofs.YtfdalbmopaemgabGreatDoor

namespace Go.Proofs.YtfdalbmopaemgabGreatDoor
open Go.RowKit

/-! ### Who holds an object: bit t for transaction t -/
def hstep (es : List Ev) (x : Int) (p : Nat × Nat) (e : Ev) : Nat × Nat :=
  if onObj e.k = true ∧ e.a = x ∧ (holderG es 16 e.t).1 ≠ 0 then (if e.k = 2 then (p.1 ||| 2 ^ (holderG es 16 e.t).1.toNat, p.2) else (p.1, p.2 ||| 2 ^ (holderG es 16 e.t).1.toNat)) else p

def holdersL (es : List Ev) (x : Int) : Nat × Nat := es.foldl (hstep es x) (0, 0)

/-- Only 1 to 15 are ever open. -/
def Low15 (es : List Ev) : Prop := ∀ t, openL es t = true → 1 ≤ t ∧ t ≤ 15

theorem holder_low {es : List Ev} (h : Low15 es) : ∀ n t, 0 ≤ (holderG es n t).1 ∧ (holderG es n t).1 ≤ 15
  | 0, t => by unfold holderG; simp
  | n + 1, t => by
    unfold holderG
    by_cases h0 : t = 0
    · rw [if_pos h0]; simp
    · rw [if_neg h0]
      by_cases h1 : openL es t = true
      · rw [if_pos h1]; have := h t h1; simp only; omega
      · rw [if_neg h1]
        by_cases h2 : es.any (isC t) = false
        · rw [if_pos h2]; simp
        · rw [if_neg h2]; exact holder_low h n _

theorem pow16 {t : Nat} (h : t ≤ 15) : 2 ^ t < 65536 := Nat.lt_of_le_of_lt (Nat.pow_le_pow_right (by omega) h) (by decide)

theorem or16 {a b : Nat} (ha : a < 65536) (hb : b < 65536) : a ||| b < 65536 := by
  have := Nat.or_lt_two_pow (n := 16) (x := a) (y := b) (by simpa using ha) (by simpa using hb)
  simpa using this

theorem hstep_lt {es : List Ev} (h : Low15 es) (x : Int) (p : Nat × Nat) (e : Ev) (h1 : p.1 < 65536) (h2 : p.2 < 65536) : (hstep es x p e).1 < 65536 ∧ (hstep es x p e).2 < 65536 := by
  have hl := holder_low h 16 e.t
  have hp := pow16 (t := (holderG es 16 e.t).1.toNat) (by omega)
  unfold hstep
  split
  · split
    · exact ⟨or16 h1 hp, h2⟩
    · exact ⟨h1, or16 h2 hp⟩
  · exact ⟨h1, h2⟩

/-- What has come together ahead of the event k. -/
def holdK (es : List Ev) (x : Int) (k : Nat) : Nat × Nat := (es.take k).foldl (hstep es x) (0, 0)

theorem holdK_succ (es : List Ev) (x : Int) (k : Nat) (hk : k < es.length) : holdK es x (k + 1) = hstep es x (holdK es x k) es[k] := by
  unfold holdK
  rw [List.take_succ_eq_append_getElem hk, List.foldl_append]
  rfl

theorem holdK_lt {es : List Ev} (h : Low15 es) (x : Int) : ∀ k, k ≤ es.length → (holdK es x k).1 < 65536 ∧ (holdK es x k).2 < 65536
  | 0, _ => by simp [holdK]
  | k + 1, hk => by
    rw [holdK_succ es x k (by omega)]
    have := holdK_lt h x k (by omega)
    exact hstep_lt h x _ _ this.1 this.2

theorem bit16 (a : Nat) (t : Int) (ha : a < 65536) (h0 : 0 ≤ t) (h1 : t ≤ 15) : bits BinOp.or IntKind.u16 (a : Int) (IntKind.u16.wrap (2 ^ t.toNat)) = ((a ||| 2 ^ t.toNat : Nat) : Int) := by
  have hp := pow16 (t := t.toNat) (by omega)
  have hw : IntKind.u16.wrap (2 ^ t.toNat) = ((2 ^ t.toNat : Nat) : Int) := by
    rw [show ((2 : Int) ^ t.toNat) = ((2 ^ t.toNat : Nat) : Int) by simp]
    generalize 2 ^ t.toNat = z at hp ⊢
    simp [IntKind.wrap, IntKind.bits, IntKind.signed]
    omega
  rw [hw]
  exact u16_or_nat a _ ha hp

theorem tup3u {a b c d e f : Int} (h : a = b) (h' : c = d) (h'' : e = f) : Ending.returned (.tuple #[.int .u16 a, .int .u16 c, .int .i64 e]) = .returned (.tuple #[.int .u16 b, .int .u16 d, .int .i64 f]) := by rw [h, h', h'']

set_option maxRecDepth 100000 in
set_option maxHeartbeats 2000000 in
theorem refHolders (v : Value) (es : List Ev) (x : Int) (w : World) (hs : SlEv w v es) (hm : es.length ≤ 1048576) (hx : x < 4) (hlow : Low15 es) :
    Calls Tryz.prog 31 #[v, .int .u8 x] w fun r w' => r = .returned (.tuple #[.int .u16 ((holdersL es x).1 : Int), .int .u16 ((holdersL es x).2 : Int), .int .i64 0]) ∧ w' = w := by
  have HS := hidIt hs
  have HL := hidIt hlow
  obtain ⟨ad, c, rfl⟩ := slice_form hs
  have hx' : ¬ (4 : Int) ≤ x := by omega
  clear hs hlow
  go_enter Tryz.func31, Tryz.ntmps31
  go_wp2_with fail
  go_loop [7, 8, 9] (fun r q i => ∃ (k a b : Nat), k ≤ es.length ∧ i = .int .i64 k ∧ r = .int .u16 (a : Int) ∧ q = .int .u16 (b : Int) ∧ Hid (holdK es x k = (a, b))) (fun _ _ i => es.length - (intOf i).toNat)
  case atStart => exact ⟨0, 0, 0, by omega, rfl, rfl, rfl, rfl⟩
  case round =>
    obtain ⟨k, a, b, hk, rfl, rfl, rfl, HW⟩ := hrel
    by_cases hlt : k < es.length
    · have hlt' : (k : Int) < (es.length : Int) := by omega
      have hk0 : (0 : Int) ≤ (k : Int) := by omega
      obtain ⟨bb, off, rfl, hbw, g0, g1, g2, g3, g4⟩ := HS.out.at_ k hlt
      have HK := hidIt (holdK_succ es x k hlt)
      obtain ⟨ev, hev⟩ : ∃ ev, es[k] = ev := ⟨_, rfl⟩
      rw [hev] at g0 g1 g2 g3 g4 HK
      rw [HW.out] at HK
      have hab := holdK_lt HL.out x k hk
      rw [HW.out] at hab
      simp only at hab
      clear hev
      have HH := hidIt (refHolder _ es ev.t w HS.out hm)
      have hhl := holder_low HL.out 16 ev.t
      obtain ⟨⟨ht, hb⟩, hh⟩ : ∃ y, holderG es 16 ev.t = y := ⟨_, rfl⟩
      rw [hh] at HH hhl
      unfold hstep at HK
      rw [hh] at HK
      simp only at HK hhl
      clear hh
      by_cases hobj : onObj ev.k = true
      · have hr := onObj_iff.1 hobj
        have h2 : ¬ ev.k < 2 := by omega
        have h4 : ¬ 4 < ev.k := by omega
        by_cases hax : ev.a = x
        · have h5 : (ev.a != x) = false := by simpa using hax
          by_cases hz : ht = 0
          · have h6 : (ht == 0) = true := by simpa using hz
            have HN : Hid (holdK es x (k + 1) = (a, b)) := by show _ = _; rw [HK.out, if_neg (fun q => q.2.2 hz)]
            clear hobj hr hax hz hhl hab
            go_wp2_with (go_at_call 54; refine HH.out.mono ?_; rintro r w1 ⟨rfl, rfl⟩)
            go_round
            case rel => exact ⟨k + 1, a, b, by omega, by go_num, rfl, rfl, HN⟩
            case measure => simp [intOf]; omega
          · have h6 : (ht == 0) = false := by simpa using hz
            have h8 := hhl.1
            have h9 := hhl.2
            by_cases hk2 : ev.k = 2
            · have h7 : (ev.k == 2) = true := by simpa using hk2
              have HN : Hid (holdK es x (k + 1) = (a ||| 2 ^ ht.toNat, b)) := by show _ = _; rw [HK.out, if_pos ⟨hobj, hax, hz⟩, if_pos hk2]
              have HB := hidIt (bit16 a ht hab.1 h8 h9)
              clear hobj hr hax hz hhl hab hk2
              go_wp2_with (go_at_call 54; refine HH.out.mono ?_; rintro r w1 ⟨rfl, rfl⟩)
              go_round
              case rel => exact ⟨k + 1, a ||| 2 ^ ht.toNat, b, by omega, by go_num, by rw [HB.out], rfl, HN⟩
              case measure => simp [intOf]; omega
            · have h7 : (ev.k == 2) = false := by simpa using hk2
              have HN : Hid (holdK es x (k + 1) = (a, b ||| 2 ^ ht.toNat)) := by show _ = _; rw [HK.out, if_pos ⟨hobj, hax, hz⟩, if_neg hk2]
              have HB := hidIt (bit16 b ht hab.2 h8 h9)
              clear hobj hr hax hz hhl hab hk2
              go_wp2_with (go_at_call 54; refine HH.out.mono ?_; rintro r w1 ⟨rfl, rfl⟩)
              go_round
              case rel => exact ⟨k + 1, a, b ||| 2 ^ ht.toNat, by omega, by go_num, rfl, by rw [HB.out], HN⟩
              case measure => simp [intOf]; omega
        · have h5 : (ev.a != x) = true := by simpa using hax
          have HN : Hid (holdK es x (k + 1) = (a, b)) := by show _ = _; rw [HK.out, if_neg (fun q => hax q.2.1)]
          clear hobj hr hax hhl hab HH
          go_wp2_with fail
          go_round
          case rel => exact ⟨k + 1, a, b, by omega, by go_num, rfl, rfl, HN⟩
          case measure => simp [intOf]; omega
      · have HN : Hid (holdK es x (k + 1) = (a, b)) := by show _ = _; rw [HK.out, if_neg (fun q => hobj q.1)]
        have hr : ¬ (2 ≤ ev.k ∧ ev.k ≤ 4) := fun q => hobj (onObj_iff.2 q)
        clear hobj hhl hab HH
        by_cases h2 : ev.k < 2
        · clear hr
          go_wp2_with fail
          go_round
          case rel => exact ⟨k + 1, a, b, by omega, by go_num, rfl, rfl, HN⟩
          case measure => simp [intOf]; omega
        · have h4 : 4 < ev.k := by omega
          clear hr
          go_wp2_with fail
          go_round
          case rel => exact ⟨k + 1, a, b, by omega, by go_num, rfl, rfl, HN⟩
          case measure => simp [intOf]; omega
    · have hge : ¬ (k : Int) < (es.length : Int) := by omega
      have HN : Hid (holdersL es x = (a, b)) := by show _ = _; unfold holdersL; rw [← HW.out]; unfold holdK; rw [List.take_of_length_le (by omega)]
      go_wp2_with fail
      go_ret3
      exact ⟨tup3u (by rw [HN.out]) (by rw [HN.out]) rfl, rfl⟩

end Go.Proofs.YtfdalbmopaemgabGreatDoor

namespace Go.Proofs.YtfdalbmopaemgabGreatDoor
open Go.RowKit

def strangerL (es : List Ev) (t : Int) (s : Nat) : Bool := (List.range 15).any fun i => s.testBit (i + 1) && !withinG es ((i + 1 : Nat) : Int) 16 t

theorem and16 (s n : Nat) (hs : s < 65536) : bits BinOp.and IntKind.u16 ((s : Int) / 2 ^ n) 1 = 1 ↔ s.testBit n = true := by
  have h1 : ((s : Int) / 2 ^ n) = ((s / 2 ^ n : Nat) : Int) := by simp
  have h2 : s / 2 ^ n < 65536 := Nat.lt_of_le_of_lt (Nat.div_le_self _ _) hs
  have h3 := u16_and_nat (s / 2 ^ n) 1 h2 (by omega)
  rw [h1, show (1 : Int) = ((1 : Nat) : Int) from rfl, h3, Nat.and_one_is_mod, Nat.testBit_eq_decide_div_mod_eq]
  simp
  omega

set_option maxRecDepth 100000 in
set_option maxHeartbeats 1000000 in
theorem refStranger (v : Value) (es : List Ev) (t : Int) (s : Nat) (w : World) (hs : SlEv w v es) (hm : es.length ≤ 1048576) (hs16 : s < 65536) :
    Calls Tryz.prog 63 #[v, .int .u8 t, .int .u16 (s : Int)] w fun r w' => r = .returned (.bool (strangerL es t s)) ∧ w' = w := by
  have HS := hidIt hs
  obtain ⟨ad, c, rfl⟩ := slice_form hs
  clear hs
  go_enter Tryz.func63, Tryz.ntmps63
  go_wp2_with fail
  go_loop [7] (fun i => ∃ k : Nat, k ≤ 15 ∧ i = .int .u8 ((k + 1 : Nat) : Int) ∧ Hid (∀ (i : Nat), i < k → (s.testBit (i + 1) && !withinG es ((i + 1 : Nat) : Int) 16 t) = false)) (fun i => 16 - (intOf i).toNat)
  case atStart => exact ⟨0, by omega, rfl, fun i h => by omega⟩
  case round =>
    obtain ⟨k, hk, rfl, HX⟩ := hrel
    by_cases hlt : k < 15
    · have hlt' : ((k + 1 : Nat) : Int) ≤ 15 := by omega
      have hlt2 : ((k + 1 : Nat) : Int) < 16 := by omega
      have hk0 : (0 : Int) ≤ ((k + 1 : Nat) : Int) := by omega
      obtain ⟨b, hb⟩ : ∃ b, withinG es ((k + 1 : Nat) : Int) 16 t = b := ⟨_, rfl⟩
      have HB := hidIt hb
      clear hb
      have HA := hidIt (and16 s (k + 1) hs16)
      cases b with
      | true =>
        have HN : Hid ((s.testBit (k + 1) && !withinG es ((k + 1 : Nat) : Int) 16 t) = false) := by show _ = _; rw [HB.out]; simp
        go_wp2_with (go_at_call 85; refine (refWithin _ es t ((k + 1 : Nat) : Int) _ HS.out hm).mono ?_; rintro r w1 ⟨rfl, rfl⟩; rw [HB.out])
        all_goals
          go_round
          case rel =>
            refine ⟨k + 1, by omega, by go_num, fun i h => ?_⟩
            by_cases e : i = k
            · subst e; exact HN.out
            · exact HX.out i (by omega)
          case measure => simp [intOf]; omega
      | false =>
        cases htb : s.testBit (k + 1) with
        | true =>
          have HN : Hid (strangerL es t s = true) := by
            show _ = _
            unfold strangerL
            rw [List.any_eq_true]
            exact ⟨k, by simpa using hlt, by rw [HB.out, htb]; rfl⟩
          have hb1 := HA.out.2 htb
          clear htb
          go_wp2_with (go_at_call 85; refine (refWithin _ es t ((k + 1 : Nat) : Int) _ HS.out hm).mono ?_; rintro r w1 ⟨rfl, rfl⟩; rw [HB.out])
          go_ret
          exact ⟨ret_bool HN.out.symm, rfl⟩
        | false =>
          have HN : Hid ((s.testBit (k + 1) && !withinG es ((k + 1 : Nat) : Int) 16 t) = false) := by show _ = _; rw [htb]; rfl
          have hb1 : ¬ bits BinOp.and IntKind.u16 ((s : Int) / 2 ^ (k + 1)) 1 = 1 := fun q => by rw [HA.out.1 q] at htb; cases htb
          clear htb
          go_wp2_with (go_at_call 85; refine (refWithin _ es t ((k + 1 : Nat) : Int) _ HS.out hm).mono ?_; rintro r w1 ⟨rfl, rfl⟩; rw [HB.out])
          go_round
          case rel =>
            refine ⟨k + 1, by omega, by go_num, fun i h => ?_⟩
            by_cases e : i = k
            · subst e; exact HN.out
            · exact HX.out i (by omega)
          case measure => simp [intOf]; omega
    · have hge : ¬ ((k + 1 : Nat) : Int) ≤ 15 := by omega
      have HN : Hid (strangerL es t s = false) := by
        show _ = _
        unfold strangerL
        rw [List.any_eq_false]
        intro i hi
        rw [HX.out i (by simp at hi; omega)]
        decide
      go_wp2_with fail
      go_ret
      exact ⟨ret_bool HN.out.symm, rfl⟩

end Go.Proofs.YtfdalbmopaemgabGreatDoor

namespace Go.Proofs.YtfdalbmopaemgabGreatDoor
open Go.RowKit

/-- What an object is for a transaction, by the events ahead of the k-th. -/
def isHit (es : List Ev) (t x : Int) (e : Ev) : Bool := (e.k == 3 || e.k == 4) && (e.a == x) && ((holderG es 16 e.t).2 && withinG es (holderG es 16 e.t).1 16 t)
def madeBy (e : Ev) : Int := if e.k = 3 then e.v else wrap32 (e.s + e.v)

def isG (es : List Ev) (t x : Int) : Nat → Int
  | 0 => 0
  | k + 1 => match es[k]? with
    | none => isG es t x k
    | some e => if isHit es t x e = true then madeBy e else isG es t x k

def isL (es : List Ev) (t x : Int) : Int := isG es t x es.length

theorem isG_hit {es : List Ev} {t x : Int} {k : Nat} {e : Ev} (he : es[k]? = some e) (h : isHit es t x e = true) : isG es t x (k + 1) = madeBy e := by rw [isG, he]; simp only; rw [if_pos h]
theorem isG_miss {es : List Ev} {t x : Int} {k : Nat} {e : Ev} (he : es[k]? = some e) (h : isHit es t x e = false) : isG es t x (k + 1) = isG es t x k := by rw [isG, he]; simp only; rw [if_neg (by rw [h]; decide)]

set_option maxRecDepth 100000 in
set_option maxHeartbeats 4000000 in
theorem refIs (v : Value) (es : List Ev) (t x : Int) (w : World) (hs : SlEv w v es) (hm : es.length ≤ 1048576) :
    Calls Tryz.prog 56 #[v, .int .u8 t, .int .u8 x] w fun r w' => r = .returned (.int .i32 (isL es t x)) ∧ Below w.heap.size w w' := by
  have HS := hidIt hs
  obtain ⟨ad, c, rfl⟩ := slice_form hs
  clear hs
  go_enter Tryz.func56, Tryz.ntmps56
  go_wp2_with fail
  go_loopw [7] (fun i wr => ∃ k : Nat, k ≤ es.length ∧ i = .int .i64 ((k : Int) - 1) ∧ Below w.heap.size w wr ∧ Hid (isL es t x = isG es t x k)) (fun i _ => (intOf i + 1).toNat)
  case atStart => exact ⟨es.length, Nat.le_refl _, rfl, Below.refl _ _, rfl⟩
  case round =>
    obtain ⟨k, hk, rfl, hnx, HI⟩ := hrel
    cases k with
    | zero =>
      have hz : ((0 : Nat) : Int) - 1 = -1 := by omega
      rw [hz]
      have HN : Hid (isL es t x = 0) := HI
      go_wp2_with fail
      go_ret
      exact ⟨ret_int HN.out.symm, hnx⟩
    | succ q =>
      have hq : ((q + 1 : Nat) : Int) - 1 = (q : Int) := by omega
      rw [hq]
      clear hq
      have hlt : q < es.length := by omega
      have hlt' : (q : Int) < (es.length : Int) := by omega
      have hk0 : (0 : Int) ≤ (q : Int) := by omega
      have HS2 := hidIt (HS.out.below hnx)
      obtain ⟨bb, off, rfl, hbw, g0, g1, g2, g3, g4⟩ := HS2.out.at_ q hlt
      obtain ⟨ev, hev⟩ : ∃ ev, es[q] = ev := ⟨_, rfl⟩
      have HE : Hid (es[q]? = some ev) := by show _ = _; rw [List.getElem?_eq_getElem hlt, hev]
      rw [hev] at g0 g1 g2 g3 g4
      clear hev
      obtain ⟨ek, et, ea, evv, es'⟩ := ev
      simp only at g0 g1 g2 g3 g4
      have hbe : Below wr.heap.size wr (wr.alloc (.cells #[.int .u8 ek, .int .u8 et, .int .u8 ea, .int .i32 evv, .int .i32 es'] 45)) := (Below.refl _ _).alloc (Nat.le_refl _) _
      have HSE := hidIt (HS2.out.below hbe)
      have HNE : Hid (Below w.heap.size w (wr.alloc (.cells #[.int .u8 ek, .int .u8 et, .int .u8 ea, .int .i32 evv, .int .i32 es'] 45))) := hnx.trans (hbe.mono hnx.size)
      obtain ⟨⟨ht, hb⟩, hh⟩ : ∃ y, holderG es 16 et = y := ⟨_, rfl⟩
      obtain ⟨wi, hwi⟩ : ∃ y, withinG es ht 16 t = y := ⟨_, rfl⟩
      have HHO : Hid (Calls Tryz.prog 54 #[.slice (some ⟨bb, off, none⟩) es.length c, .int .u8 et] (wr.alloc (.cells #[.int .u8 ek, .int .u8 et, .int .u8 ea, .int .i32 evv, .int .i32 es'] 45)) fun r w' => r = .returned (.tuple #[.int .u8 ht, .bool hb]) ∧ w' = (wr.alloc (.cells #[.int .u8 ek, .int .u8 et, .int .u8 ea, .int .i32 evv, .int .i32 es'] 45))) := by
        have h7 := refHolder _ es et _ HSE.out hm
        rw [hh] at h7
        exact h7
      have HWI : Hid (Calls Tryz.prog 85 #[.slice (some ⟨bb, off, none⟩) es.length c, .int .u8 t, .int .u8 ht] (wr.alloc (.cells #[.int .u8 ek, .int .u8 et, .int .u8 ea, .int .i32 evv, .int .i32 es'] 45)) fun r w' => r = .returned (.bool wi) ∧ w' = (wr.alloc (.cells #[.int .u8 ek, .int .u8 et, .int .u8 ea, .int .i32 evv, .int .i32 es'] 45))) := by
        have h7 := refWithin _ es t ht _ HSE.out hm
        rw [hwi] at h7
        exact h7
      have HHIT : Hid (isHit es t x ⟨ek, et, ea, evv, es'⟩ = ((ek == 3 || ek == 4) && (ea == x) && (hb && wi))) := by show _ = _; unfold isHit; simp only; rw [hh]; simp only; rw [hwi]
      clear hh hwi hbe
      have miss : isHit es t x ⟨ek, et, ea, evv, es'⟩ = false → Hid (isL es t x = isG es t x q) := fun h => HI.out.trans (isG_miss HE.out h)
      have hit : isHit es t x ⟨ek, et, ea, evv, es'⟩ = true → Hid (isL es t x = madeBy ⟨ek, et, ea, evv, es'⟩) := fun h => HI.out.trans (isG_hit HE.out h)
      cases h34 : (ek == 3 || ek == 4) with
      | false =>
        have h3 : (ek == 3) = false := by revert h34; cases (ek == 3) <;> simp
        have h4 : (ek == 4) = false := by revert h34; cases (ek == 3) <;> simp
        have h3n : (ek != 3) = true := by simp [bne, h3]
        have h4n : (ek != 4) = true := by simp [bne, h4]
        have HN := miss (by rw [HHIT.out, h34]; rfl)
        clear miss hit h34 h3 h4
        go_wp2_with fail
        go_roundw
        case rel => exact ⟨q, by omega, rfl, HNE.out, HN⟩
        case measure => simp [intOf]
      | true =>
        cases hax : (ea == x) with
        | false =>
          have haxn : (ea != x) = true := by simp [bne, hax]
          have HN := miss (by rw [HHIT.out, hax]; simp)
          clear miss hit hax
          cases h3 : (ek == 3) with
          | true =>
            have h3n : (ek != 3) = false := by simp [bne, h3]
            clear h34 h3
            go_wp2_with fail
            go_roundw
            case rel => exact ⟨q, by omega, rfl, HNE.out, HN⟩
            case measure => simp [intOf]
          | false =>
            have h4 : (ek == 4) = true := by rw [h3] at h34; simpa using h34
            have h3n : (ek != 3) = true := by simp [bne, h3]
            have h4n : (ek != 4) = false := by simp [bne, h4]
            clear h34 h3 h4
            go_wp2_with fail
            go_roundw
            case rel => exact ⟨q, by omega, rfl, HNE.out, HN⟩
            case measure => simp [intOf]
        | true =>
          have haxn : (ea != x) = false := by simp [bne, hax]
          cases h3 : (ek == 3) with
          | true =>
            have h3n : (ek != 3) = false := by simp [bne, h3]
            cases hhw : (hb && wi) with
            | true =>
              have HN := hit (by rw [HHIT.out, h34, hax, hhw]; rfl)
              have HMB : Hid (madeBy ⟨ek, et, ea, evv, es'⟩ = evv) := by show _ = _; unfold madeBy; rw [if_pos (by simpa using h3)]
              have hb1 : hb = true := by revert hhw; cases hb <;> simp
              have wi1 : wi = true := by revert hhw; cases wi <;> simp
              subst hb1 wi1
              clear miss hit hax h34 hhw
              go_wp2_with (first | (go_at_call 54; refine HHO.out.mono ?_; rintro r w1 ⟨rfl, rfl⟩) | (go_at_call 85; refine HWI.out.mono ?_; rintro r w1 ⟨rfl, rfl⟩))
              go_ret
              exact ⟨ret_int (by rw [HN.out, HMB.out]), HNE.out⟩
            | false =>
              have HN := miss (by rw [HHIT.out, hhw]; simp)
              clear miss hit hax h34 h3
              cases hb with
              | false =>
                go_wp2_with (first | (go_at_call 54; refine HHO.out.mono ?_; rintro r w1 ⟨rfl, rfl⟩) | (go_at_call 85; refine HWI.out.mono ?_; rintro r w1 ⟨rfl, rfl⟩))
                go_roundw
                case rel => exact ⟨q, by omega, rfl, HNE.out, HN⟩
                case measure => simp [intOf]
              | true =>
                have wi0 : wi = false := by simpa using hhw
                subst wi0
                go_wp2_with (first | (go_at_call 54; refine HHO.out.mono ?_; rintro r w1 ⟨rfl, rfl⟩) | (go_at_call 85; refine HWI.out.mono ?_; rintro r w1 ⟨rfl, rfl⟩))
                go_roundw
                case rel => exact ⟨q, by omega, rfl, HNE.out, HN⟩
                case measure => simp [intOf]
          | false =>
            have h4 : (ek == 4) = true := by rw [h3] at h34; simpa using h34
            have h3n : (ek != 3) = true := by simp [bne, h3]
            have h4n : (ek != 4) = false := by simp [bne, h4]
            cases hhw : (hb && wi) with
            | true =>
              have HN := hit (by rw [HHIT.out, h34, hax, hhw]; rfl)
              have HMB : Hid (madeBy ⟨ek, et, ea, evv, es'⟩ = wrap32 (es' + evv)) := by show _ = _; unfold madeBy; rw [if_neg (by simpa using h3)]
              have hb1 : hb = true := by revert hhw; cases hb <;> simp
              have wi1 : wi = true := by revert hhw; cases wi <;> simp
              subst hb1 wi1
              clear miss hit hax h34 hhw
              go_wp2_with (first | (go_at_call 54; refine HHO.out.mono ?_; rintro r w1 ⟨rfl, rfl⟩) | (go_at_call 85; refine HWI.out.mono ?_; rintro r w1 ⟨rfl, rfl⟩))
              go_ret
              exact ⟨ret_int (by rw [HN.out, HMB.out]), HNE.out⟩
            | false =>
              have HN := miss (by rw [HHIT.out, hhw]; simp)
              clear miss hit hax h34 h3
              cases hb with
              | false =>
                go_wp2_with (first | (go_at_call 54; refine HHO.out.mono ?_; rintro r w1 ⟨rfl, rfl⟩) | (go_at_call 85; refine HWI.out.mono ?_; rintro r w1 ⟨rfl, rfl⟩))
                go_roundw
                case rel => exact ⟨q, by omega, rfl, HNE.out, HN⟩
                case measure => simp [intOf]
              | true =>
                have wi0 : wi = false := by simpa using hhw
                subst wi0
                go_wp2_with (first | (go_at_call 54; refine HHO.out.mono ?_; rintro r w1 ⟨rfl, rfl⟩) | (go_at_call 85; refine HWI.out.mono ?_; rintro r w1 ⟨rfl, rfl⟩))
                go_roundw
                case rel => exact ⟨q, by omega, rfl, HNE.out, HN⟩
                case measure => simp [intOf]

end Go.Proofs.YtfdalbmopaemgabGreatDoor
