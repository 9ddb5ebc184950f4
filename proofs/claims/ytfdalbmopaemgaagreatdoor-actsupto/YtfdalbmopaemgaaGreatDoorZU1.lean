import Derived.Test.YtfdalbmopaemgaaGreatDoorZS7
import Derived.Test.YtfdalbmopaemgaaGreatDoorZS1
import Derived.Deep.CutRange
namespace Go.Proofs.YtfdalbmopaemgaaGreatDoor
open Go.RowKit

/-! ### Read, Write, Add, by the document -/
def othersL (es : List Ev) (k x : Int) : Nat := if k = 2 then (holdersL es x).2 else (holdersL es x).2 ||| (holdersL es x).1

def accEv (es : List Ev) (k t x v : Int) : Ev := ⟨k, t, x, if k = 2 then 0 else v, if k = 3 then 0 else isL es t x⟩
def accN (es : List Ev) (k t x v : Int) : Int := if k = 2 then isL es t x else if k = 3 then 0 else wrap32 (isL es t x + v)

def accessR (es : List Ev) (k t x v : Int) : List Ev × Int × Int :=
  if openL es t = false then (es, 0, 4)
  else if 4 ≤ x then (es, 0, 6)
  else if strangerL es t (othersL es k x) = true then (es, 0, 9)
  else if 60 ≤ es.length then (es, 0, 10)
  else (es ++ [accEv es k t x v], accN es k t x v, 0)

def AccessPost (w : World) (v0 : Value) (es : List Ev) (k t x v : Int) (r : Ending) (w' : World) : Prop :=
  Below w.heap.size w w' ∧ ∃ v', r = .returned (.tuple #[v', .int .i32 (accessR es k t x v).2.1, .int .i64 (accessR es k t x v).2.2]) ∧ HistOut w w' v0 v' es (accessR es k t x v).1

theorem holdersL_lt {es : List Ev} (h : Low15 es) (x : Int) : (holdersL es x).1 < 65536 ∧ (holdersL es x).2 < 65536 := by
  have := holdK_lt h x es.length (Nat.le_refl _)
  unfold holdK at this
  rw [List.take_length] at this
  exact this

set_option maxRecDepth 100000 in
set_option maxHeartbeats 1000000 in
theorem refHolders_bad (v : Value) (es : List Ev) (x : Int) (w : World) (hs : SlEv w v es) (hx : 4 ≤ x) :
    Calls Tryz.prog 36 #[v, .int .u8 x] w fun r w' => r = .returned (.tuple #[.int .u16 0, .int .u16 0, .int .i64 6]) ∧ w' = w := by
  obtain ⟨ad, c, rfl⟩ := slice_form hs
  clear hs
  go_enter Tryz.func36, Tryz.ntmps36
  go_wp2_with fail
  go_ret3
  exact ⟨rfl, rfl⟩

set_option maxRecDepth 100000 in
set_option maxHeartbeats 4000000 in
theorem refRead (v0 : Value) (es : List Ev) (t x vv : Int) (B : Nat) (w : World) (h : Hist w B v0 es) (hm : es.length ≤ 1048576) (hlow : Low15 es) :
    Calls Tryz.prog 43 #[v0, .int .u8 2, .int .u8 t, .int .u8 x, .int .i32 vv] w (AccessPost w v0 es 2 t x vv) := by
  have HH := hidIt h
  obtain ⟨ha, hc, rfl⟩ := h.1.form
  obtain ⟨o, ho⟩ : ∃ o, openL es t = o := ⟨_, rfl⟩
  have HOP := hidIt (refOpen _ es t w h.slEv hm)
  rw [ho] at HOP
  have HSL := hidIt h.slEv
  clear h
  cases o with
  | false =>
    have HN : Hid (accessR es 2 t x vv = (es, 0, 4)) := by show _ = _; unfold accessR; rw [if_pos ho]
    clear ho
    go_enter Tryz.func43, Tryz.ntmps43
    go_wp2_with (go_at_call 64; refine HOP.out.mono ?_; rintro r w1 ⟨rfl, rfl⟩)
    go_ret3
    exact ⟨Below.refl _ _, .slice ha es.length hc, by rw [HN.out]; rfl, Or.inl ⟨rfl, by rw [HN.out]⟩⟩
  | true =>
    by_cases hx : 4 ≤ x
    · have HN : Hid (accessR es 2 t x vv = (es, 0, 6)) := by show _ = _; unfold accessR; rw [if_neg (by rw [ho]; decide), if_pos hx]
      have HHO := hidIt (refHolders_bad _ es x w HSL.out hx)
      clear ho
      go_enter Tryz.func43, Tryz.ntmps43
      go_wp2_with (first | (go_at_call 64; refine HOP.out.mono ?_; rintro r w1 ⟨rfl, rfl⟩) | (go_at_call 36; refine HHO.out.mono ?_; rintro r w1 ⟨rfl, rfl⟩))
      go_ret3
      exact ⟨Below.refl _ _, .slice ha es.length hc, by rw [HN.out]; rfl, Or.inl ⟨rfl, by rw [HN.out]⟩⟩
    · have HHO := hidIt (refHolders _ es x w HSL.out hm (by omega) hlow)
      have hlt := holdersL_lt hlow x
      have hst := refStranger _ es t ((holdersL es x).2) w HSL.out hm (hlt.2)
      have HAR : Hid (accessR es 2 t x vv = if strangerL es t ((holdersL es x).2) = true then (es, 0, 9) else if 60 ≤ es.length then (es, 0, 10) else (es ++ [⟨2, t, x, 0, (isL es t x)⟩], isL es t x, 0)) := by show _ = _; unfold accessR; rw [if_neg (by rw [ho]; decide), if_neg hx]; rfl
      obtain ⟨⟨am, rm⟩, hho⟩ : ∃ y, holdersL es x = y := ⟨_, rfl⟩
      rw [hho] at HHO hlt hst HAR
      simp only at HHO hlt hst HAR
      obtain ⟨sb, hsb⟩ : ∃ y, strangerL es t (rm) = y := ⟨_, rfl⟩
      rw [hsb] at hst HAR
      have HST := hidIt hst
      have HIS := hidIt (refIs _ es t x w HSL.out hm)
      clear hho hsb hst ho hlow hx hlt
      cases sb with
      | true =>
        have HN : Hid (accessR es 2 t x vv = (es, 0, 9)) := by show _ = _; rw [HAR.out, if_pos rfl]
        go_enter Tryz.func43, Tryz.ntmps43
        go_wp2_with (first | (go_at_call 64; refine HOP.out.mono ?_; rintro r w1 ⟨rfl, rfl⟩) | (go_at_call 36; refine HHO.out.mono ?_; rintro r w1 ⟨rfl, rfl⟩) | (go_at_call 68; refine HST.out.mono ?_; rintro r w1 ⟨rfl, rfl⟩))
        go_ret3
        exact ⟨Below.refl _ _, .slice ha es.length hc, by rw [HN.out]; rfl, Or.inl ⟨rfl, by rw [HN.out]⟩⟩
      | false =>
        obtain ⟨seen, hseen⟩ : ∃ y, isL es t x = y := ⟨_, rfl⟩
        rw [hseen] at HIS HAR
        clear hseen
        go_enter Tryz.func43, Tryz.ntmps43
        go_wp2_with (first | (go_at_call 64; refine HOP.out.mono ?_; rintro r w1 ⟨rfl, rfl⟩) | (go_at_call 36; refine HHO.out.mono ?_; rintro r w1 ⟨rfl, rfl⟩) | (go_at_call 68; refine HST.out.mono ?_; rintro r w1 ⟨rfl, rfl⟩))
        refine HIS.out.mono ?_
        rintro r w2 ⟨rfl, hb2⟩
        have hbe : Below w2.heap.size w2 (w2.alloc (.cells #[.int .u8 2, .int .u8 t, .int .u8 x, .int .i32 0, .int .i32 seen] 41)) := (Below.refl _ _).alloc (Nat.le_refl _) _
        have HAD := hidIt (refAdd _ es 2 t x 0 seen B _ ((HH.out.below hb2).below hbe) hm)
        have HB3 := hidIt (hb2.trans (hbe.mono hb2.size))
        clear hbe
        go_wp2_with fail
        refine HAD.out.mono ?_
        rintro r w3 ⟨hb3, ⟨h60, rfl⟩ | ⟨h60, a2, c2, rfl, hh2⟩⟩
        · have HN : Hid (accessR es 2 t x vv = (es, 0, 10)) := by show _ = _; rw [HAR.out, if_neg (by decide), if_pos h60]
          go_wp2_with fail
          go_ret3
          exact ⟨HB3.out.trans (hb3.mono HB3.out.size), .slice ha es.length hc, by rw [HN.out]; rfl, Or.inl ⟨rfl, by rw [HN.out]⟩⟩
        · have HN : Hid (accessR es 2 t x vv = (es ++ [⟨2, t, x, 0, seen⟩], seen, 0)) := by show _ = _; rw [HAR.out, if_neg (by decide), if_neg (by omega)]
          have HR := hidIt hh2
          clear hh2
          go_wp2_with fail
          go_ret3
          exact ⟨HB3.out.trans (hb3.mono HB3.out.size), .slice a2 (es.length + 1) c2, by rw [HN.out]; rfl, Or.inr (by rw [HN.out]; exact ⟨ownsRow_mono HR.out.1 HB3.out.size, HR.out.2⟩)⟩

set_option maxRecDepth 100000 in
set_option maxHeartbeats 4000000 in
theorem refWrite (v0 : Value) (es : List Ev) (t x vv : Int) (B : Nat) (w : World) (h : Hist w B v0 es) (hm : es.length ≤ 1048576) (hlow : Low15 es) :
    Calls Tryz.prog 43 #[v0, .int .u8 3, .int .u8 t, .int .u8 x, .int .i32 vv] w (AccessPost w v0 es 3 t x vv) := by
  have HH := hidIt h
  obtain ⟨ha, hc, rfl⟩ := h.1.form
  obtain ⟨o, ho⟩ : ∃ o, openL es t = o := ⟨_, rfl⟩
  have HOP := hidIt (refOpen _ es t w h.slEv hm)
  rw [ho] at HOP
  have HSL := hidIt h.slEv
  clear h
  cases o with
  | false =>
    have HN : Hid (accessR es 3 t x vv = (es, 0, 4)) := by show _ = _; unfold accessR; rw [if_pos ho]
    clear ho
    go_enter Tryz.func43, Tryz.ntmps43
    go_wp2_with (go_at_call 64; refine HOP.out.mono ?_; rintro r w1 ⟨rfl, rfl⟩)
    go_ret3
    exact ⟨Below.refl _ _, .slice ha es.length hc, by rw [HN.out]; rfl, Or.inl ⟨rfl, by rw [HN.out]⟩⟩
  | true =>
    by_cases hx : 4 ≤ x
    · have HN : Hid (accessR es 3 t x vv = (es, 0, 6)) := by show _ = _; unfold accessR; rw [if_neg (by rw [ho]; decide), if_pos hx]
      have HHO := hidIt (refHolders_bad _ es x w HSL.out hx)
      clear ho
      go_enter Tryz.func43, Tryz.ntmps43
      go_wp2_with (first | (go_at_call 64; refine HOP.out.mono ?_; rintro r w1 ⟨rfl, rfl⟩) | (go_at_call 36; refine HHO.out.mono ?_; rintro r w1 ⟨rfl, rfl⟩))
      go_ret3
      exact ⟨Below.refl _ _, .slice ha es.length hc, by rw [HN.out]; rfl, Or.inl ⟨rfl, by rw [HN.out]⟩⟩
    · have HHO := hidIt (refHolders _ es x w HSL.out hm (by omega) hlow)
      have hlt := holdersL_lt hlow x
      have hst := refStranger _ es t ((holdersL es x).2 ||| (holdersL es x).1) w HSL.out hm (or16 hlt.2 hlt.1)
      have HAR : Hid (accessR es 3 t x vv = if strangerL es t ((holdersL es x).2 ||| (holdersL es x).1) = true then (es, 0, 9) else if 60 ≤ es.length then (es, 0, 10) else (es ++ [⟨3, t, x, vv, 0⟩], 0, 0)) := by show _ = _; unfold accessR; rw [if_neg (by rw [ho]; decide), if_neg hx]; rfl
      obtain ⟨⟨am, rm⟩, hho⟩ : ∃ y, holdersL es x = y := ⟨_, rfl⟩
      rw [hho] at HHO hlt hst HAR
      simp only at HHO hlt hst HAR
      obtain ⟨sb, hsb⟩ : ∃ y, strangerL es t (rm ||| am) = y := ⟨_, rfl⟩
      rw [hsb] at hst HAR
      have HST := hidIt hst
      have HOR := hidIt (u16_or_nat rm am hlt.2 hlt.1)
      have HIS := hidIt (refIs _ es t x w HSL.out hm)
      clear hho hsb hst ho hlow hx hlt
      cases sb with
      | true =>
        have HN : Hid (accessR es 3 t x vv = (es, 0, 9)) := by show _ = _; rw [HAR.out, if_pos rfl]
        go_enter Tryz.func43, Tryz.ntmps43
        go_wp2_with (first | (go_at_call 64; refine HOP.out.mono ?_; rintro r w1 ⟨rfl, rfl⟩) | (go_at_call 36; refine HHO.out.mono ?_; rintro r w1 ⟨rfl, rfl⟩) | (go_at_call 68; rw [HOR.out]; refine HST.out.mono ?_; rintro r w1 ⟨rfl, rfl⟩))
        go_ret3
        exact ⟨Below.refl _ _, .slice ha es.length hc, by rw [HN.out]; rfl, Or.inl ⟨rfl, by rw [HN.out]⟩⟩
      | false =>
        obtain ⟨seen, hseen⟩ : ∃ y, isL es t x = y := ⟨_, rfl⟩
        rw [hseen] at HIS
        clear hseen
        go_enter Tryz.func43, Tryz.ntmps43
        go_wp2_with (first | (go_at_call 64; refine HOP.out.mono ?_; rintro r w1 ⟨rfl, rfl⟩) | (go_at_call 36; refine HHO.out.mono ?_; rintro r w1 ⟨rfl, rfl⟩) | (go_at_call 68; rw [HOR.out]; refine HST.out.mono ?_; rintro r w1 ⟨rfl, rfl⟩))
        refine HIS.out.mono ?_
        rintro r w2 ⟨rfl, hb2⟩
        have hbe : Below w2.heap.size w2 (w2.alloc (.cells #[.int .u8 3, .int .u8 t, .int .u8 x, .int .i32 vv, .int .i32 0] 41)) := (Below.refl _ _).alloc (Nat.le_refl _) _
        have HAD := hidIt (refAdd _ es 3 t x vv 0 B _ ((HH.out.below hb2).below hbe) hm)
        have HB3 := hidIt (hb2.trans (hbe.mono hb2.size))
        clear hbe
        go_wp2_with fail
        refine HAD.out.mono ?_
        rintro r w3 ⟨hb3, ⟨h60, rfl⟩ | ⟨h60, a2, c2, rfl, hh2⟩⟩
        · have HN : Hid (accessR es 3 t x vv = (es, 0, 10)) := by show _ = _; rw [HAR.out, if_neg (by decide), if_pos h60]
          go_wp2_with fail
          go_ret3
          exact ⟨HB3.out.trans (hb3.mono HB3.out.size), .slice ha es.length hc, by rw [HN.out]; rfl, Or.inl ⟨rfl, by rw [HN.out]⟩⟩
        · have HN : Hid (accessR es 3 t x vv = (es ++ [⟨3, t, x, vv, 0⟩], 0, 0)) := by show _ = _; rw [HAR.out, if_neg (by decide), if_neg (by omega)]
          have HR := hidIt hh2
          clear hh2
          go_wp2_with fail
          go_ret3
          exact ⟨HB3.out.trans (hb3.mono HB3.out.size), .slice a2 (es.length + 1) c2, by rw [HN.out]; rfl, Or.inr (by rw [HN.out]; exact ⟨ownsRow_mono HR.out.1 HB3.out.size, HR.out.2⟩)⟩

set_option maxRecDepth 100000 in
set_option maxHeartbeats 4000000 in
theorem refAdd_ (v0 : Value) (es : List Ev) (t x vv : Int) (B : Nat) (w : World) (h : Hist w B v0 es) (hm : es.length ≤ 1048576) (hlow : Low15 es) :
    Calls Tryz.prog 43 #[v0, .int .u8 4, .int .u8 t, .int .u8 x, .int .i32 vv] w (AccessPost w v0 es 4 t x vv) := by
  have HH := hidIt h
  obtain ⟨ha, hc, rfl⟩ := h.1.form
  obtain ⟨o, ho⟩ : ∃ o, openL es t = o := ⟨_, rfl⟩
  have HOP := hidIt (refOpen _ es t w h.slEv hm)
  rw [ho] at HOP
  have HSL := hidIt h.slEv
  clear h
  cases o with
  | false =>
    have HN : Hid (accessR es 4 t x vv = (es, 0, 4)) := by show _ = _; unfold accessR; rw [if_pos ho]
    clear ho
    go_enter Tryz.func43, Tryz.ntmps43
    go_wp2_with (go_at_call 64; refine HOP.out.mono ?_; rintro r w1 ⟨rfl, rfl⟩)
    go_ret3
    exact ⟨Below.refl _ _, .slice ha es.length hc, by rw [HN.out]; rfl, Or.inl ⟨rfl, by rw [HN.out]⟩⟩
  | true =>
    by_cases hx : 4 ≤ x
    · have HN : Hid (accessR es 4 t x vv = (es, 0, 6)) := by show _ = _; unfold accessR; rw [if_neg (by rw [ho]; decide), if_pos hx]
      have HHO := hidIt (refHolders_bad _ es x w HSL.out hx)
      clear ho
      go_enter Tryz.func43, Tryz.ntmps43
      go_wp2_with (first | (go_at_call 64; refine HOP.out.mono ?_; rintro r w1 ⟨rfl, rfl⟩) | (go_at_call 36; refine HHO.out.mono ?_; rintro r w1 ⟨rfl, rfl⟩))
      go_ret3
      exact ⟨Below.refl _ _, .slice ha es.length hc, by rw [HN.out]; rfl, Or.inl ⟨rfl, by rw [HN.out]⟩⟩
    · have HHO := hidIt (refHolders _ es x w HSL.out hm (by omega) hlow)
      have hlt := holdersL_lt hlow x
      have hst := refStranger _ es t ((holdersL es x).2 ||| (holdersL es x).1) w HSL.out hm (or16 hlt.2 hlt.1)
      have HAR : Hid (accessR es 4 t x vv = if strangerL es t ((holdersL es x).2 ||| (holdersL es x).1) = true then (es, 0, 9) else if 60 ≤ es.length then (es, 0, 10) else (es ++ [⟨4, t, x, vv, (isL es t x)⟩], wrap32 (isL es t x + vv), 0)) := by show _ = _; unfold accessR; rw [if_neg (by rw [ho]; decide), if_neg hx]; rfl
      obtain ⟨⟨am, rm⟩, hho⟩ : ∃ y, holdersL es x = y := ⟨_, rfl⟩
      rw [hho] at HHO hlt hst HAR
      simp only at HHO hlt hst HAR
      obtain ⟨sb, hsb⟩ : ∃ y, strangerL es t (rm ||| am) = y := ⟨_, rfl⟩
      rw [hsb] at hst HAR
      have HST := hidIt hst
      have HOR := hidIt (u16_or_nat rm am hlt.2 hlt.1)
      have HIS := hidIt (refIs _ es t x w HSL.out hm)
      clear hho hsb hst ho hlow hx hlt
      cases sb with
      | true =>
        have HN : Hid (accessR es 4 t x vv = (es, 0, 9)) := by show _ = _; rw [HAR.out, if_pos rfl]
        go_enter Tryz.func43, Tryz.ntmps43
        go_wp2_with (first | (go_at_call 64; refine HOP.out.mono ?_; rintro r w1 ⟨rfl, rfl⟩) | (go_at_call 36; refine HHO.out.mono ?_; rintro r w1 ⟨rfl, rfl⟩) | (go_at_call 68; rw [HOR.out]; refine HST.out.mono ?_; rintro r w1 ⟨rfl, rfl⟩))
        go_ret3
        exact ⟨Below.refl _ _, .slice ha es.length hc, by rw [HN.out]; rfl, Or.inl ⟨rfl, by rw [HN.out]⟩⟩
      | false =>
        obtain ⟨seen, hseen⟩ : ∃ y, isL es t x = y := ⟨_, rfl⟩
        rw [hseen] at HIS HAR
        clear hseen
        go_enter Tryz.func43, Tryz.ntmps43
        go_wp2_with (first | (go_at_call 64; refine HOP.out.mono ?_; rintro r w1 ⟨rfl, rfl⟩) | (go_at_call 36; refine HHO.out.mono ?_; rintro r w1 ⟨rfl, rfl⟩) | (go_at_call 68; rw [HOR.out]; refine HST.out.mono ?_; rintro r w1 ⟨rfl, rfl⟩))
        refine HIS.out.mono ?_
        rintro r w2 ⟨rfl, hb2⟩
        have hbe : Below w2.heap.size w2 (w2.alloc (.cells #[.int .u8 4, .int .u8 t, .int .u8 x, .int .i32 vv, .int .i32 seen] 41)) := (Below.refl _ _).alloc (Nat.le_refl _) _
        have HAD := hidIt (refAdd _ es 4 t x vv seen B _ ((HH.out.below hb2).below hbe) hm)
        have HB3 := hidIt (hb2.trans (hbe.mono hb2.size))
        clear hbe
        go_wp2_with fail
        refine HAD.out.mono ?_
        rintro r w3 ⟨hb3, ⟨h60, rfl⟩ | ⟨h60, a2, c2, rfl, hh2⟩⟩
        · have HN : Hid (accessR es 4 t x vv = (es, 0, 10)) := by show _ = _; rw [HAR.out, if_neg (by decide), if_pos h60]
          go_wp2_with fail
          go_ret3
          exact ⟨HB3.out.trans (hb3.mono HB3.out.size), .slice ha es.length hc, by rw [HN.out]; rfl, Or.inl ⟨rfl, by rw [HN.out]⟩⟩
        · have HN : Hid (accessR es 4 t x vv = (es ++ [⟨4, t, x, vv, seen⟩], wrap32 (seen + vv), 0)) := by show _ = _; rw [HAR.out, if_neg (by decide), if_neg (by omega)]
          have HR := hidIt hh2
          clear hh2
          go_wp2_with fail
          go_ret3
          exact ⟨HB3.out.trans (hb3.mono HB3.out.size), .slice a2 (es.length + 1) c2, by rw [HN.out]; rfl, Or.inr (by rw [HN.out]; exact ⟨ownsRow_mono HR.out.1 HB3.out.size, HR.out.2⟩)⟩

end Go.Proofs.YtfdalbmopaemgaaGreatDoor

namespace Go.Proofs.YtfdalbmopaemgaaGreatDoor
open Go.RowKit

/-! ### A store, by what is asked of it: St w F p es: in w the pointer p is a store that lies in the blocks F and has written down es -/
def ActP (St : World → (Nat → Prop) → Value → List Ev → Prop) (w : World) (F : Nat → Prop) (p : Value) (es' : List Ev) (w' : World) : Prop :=
  ∃ F', St w' F' p es' ∧ (∀ k, k < w.heap.size → ¬ F k → w'.heap[k]? = w.heap[k]?) ∧ (∀ k, F' k → F k ∨ w.heap.size ≤ k) ∧ Below 0 w w'

structure StOk (St : World → (Nat → Prop) → Value → List Ev → Prop) : Prop where
  form : ∀ {w F p es}, St w F p es → ∃ b, p = .pointer (some ⟨b, 0, none⟩)
  frame : ∀ {w F p es} (w' : World), St w F p es → (∀ k, F k → w'.heap[k]? = w.heap[k]?) → w.heap.size ≤ w'.heap.size → St w' F p es
  lt : ∀ {w F p es}, St w F p es → ∀ k, F k → k < w.heap.size
  low : ∀ {w F p es}, St w F p es → Low15 es
  len : ∀ {w F p es}, St w F p es → es.length ≤ 60
  begin_ : ∀ {w F p es} (up : Nat), up ≤ 255 → St w F p es → Calls Tryz.prog 40 #[p, .int .u8 (up : Int)] w fun r w' => r = .returned (.tuple #[.int .u8 (beginR es (up : Int)).2.1, .int .i64 (beginR es (up : Int)).2.2]) ∧ ActP St w F p (beginR es (up : Int)).1 w'
  read : ∀ {w F p es} (t x : Nat), t ≤ 255 → x ≤ 255 → St w F p es → Calls Tryz.prog 42 #[p, .int .u8 (t : Int), .int .u8 (x : Int)] w fun r w' => r = .returned (.tuple #[.int .i32 (accessR es 2 (t : Int) (x : Int) 0).2.1, .int .i64 (accessR es 2 (t : Int) (x : Int) 0).2.2]) ∧ ActP St w F p (accessR es 2 (t : Int) (x : Int) 0).1 w'
  write : ∀ {w F p es} (t x : Nat) (v : Int), t ≤ 255 → x ≤ 255 → -2147483648 ≤ v → v ≤ 2147483647 → St w F p es → Calls Tryz.prog 44 #[p, .int .u8 (t : Int), .int .u8 (x : Int), .int .i32 v] w fun r w' => r = .returned (.int .i64 (accessR es 3 (t : Int) (x : Int) v).2.2) ∧ ActP St w F p (accessR es 3 (t : Int) (x : Int) v).1 w'
  add : ∀ {w F p es} (t x : Nat) (v : Int), t ≤ 255 → x ≤ 255 → -2147483648 ≤ v → v ≤ 2147483647 → St w F p es → Calls Tryz.prog 45 #[p, .int .u8 (t : Int), .int .u8 (x : Int), .int .i32 v] w fun r w' => r = .returned (.tuple #[.int .i32 (accessR es 4 (t : Int) (x : Int) v).2.1, .int .i64 (accessR es 4 (t : Int) (x : Int) v).2.2]) ∧ ActP St w F p (accessR es 4 (t : Int) (x : Int) v).1 w'
  commit : ∀ {w F p es} (t : Nat), t ≤ 255 → St w F p es → Calls Tryz.prog 46 #[p, .int .u8 (t : Int)] w fun r w' => r = .returned (.int .i64 (endR es 5 (t : Int)).2) ∧ ActP St w F p (endR es 5 (t : Int)).1 w'
  abort : ∀ {w F p es} (t : Nat), t ≤ 255 → St w F p es → Calls Tryz.prog 48 #[p, .int .u8 (t : Int)] w fun r w' => r = .returned (.int .i64 (endR es 6 (t : Int)).2) ∧ ActP St w F p (endR es 6 (t : Int)).1 w'

/-- A store and the document's: a player in block pb, with all that is its own from block B on. -/
structure Pl (St : World → (Nat → Prop) → Value → List Ev → Prop) (w : World) (B pb : Nat) (F : Nat → Prop) (sp hv : Value) (es : List Ev) : Prop where
  c0 : w.cell? ⟨pb, 0, none⟩ = some sp
  c1 : w.cell? ⟨pb, 1, none⟩ = some hv
  fz : w.frozen? ⟨pb, 1, none⟩ = false
  st : St w F sp es
  hist : Hist w B hv es
  pbF : ¬ F pb
  hvF : ∀ g, hv.ownBlock = some g → ¬ F g
  hvp : hv.ownBlock ≠ some pb
  base : B ≤ pb
  baseF : ∀ k, F k → B ≤ k

theorem Pl.lt {St : World → (Nat → Prop) → Value → List Ev → Prop} {w : World} {B pb : Nat} {F : Nat → Prop} {sp hv : Value} {es : List Ev} (h : Pl St w B pb F sp hv es) : pb < w.heap.size := World.block_lt_of_cell? w ⟨pb, 0, none⟩ h.c0

/-- Nothing turns where nothing of its own does. -/
theorem Pl.stay {St : World → (Nat → Prop) → Value → List Ev → Prop} (I : StOk St) {w w' : World} {B pb : Nat} {F : Nat → Prop} {sp hv : Value} {es : List Ev} (h : Pl St w B pb F sp hv es) (hs : w.heap.size ≤ w'.heap.size) (hp : w'.heap[pb]? = w.heap[pb]?) (hf : ∀ k, F k → w'.heap[k]? = w.heap[k]?) (hh : ∀ g, hv.ownBlock = some g → w'.heap[g]? = w.heap[g]?) : Pl St w' B pb F sp hv es :=
  ⟨by rw [World.cell?_of_block (a := ⟨pb, 0, none⟩) hp]; exact h.c0, by rw [World.cell?_of_block (a := ⟨pb, 1, none⟩) hp]; exact h.c1, by rw [World.frozen?_of_block (a := ⟨pb, 1, none⟩) hp]; exact h.fz, I.frame w' h.st hf hs, ⟨ownsRow_of_heap h.hist.1 hh, h.hist.2⟩, h.pbF, h.hvF, h.hvp, h.base, h.baseF⟩

theorem Pl.below {St : World → (Nat → Prop) → Value → List Ev → Prop} (I : StOk St) {w w' : World} {B pb : Nat} {F : Nat → Prop} {sp hv : Value} {es : List Ev} (h : Pl St w B pb F sp hv es) (hb : Below w.heap.size w w') : Pl St w' B pb F sp hv es :=
  h.stay I hb.size (hb.block pb h.lt) (fun k hk => hb.block k (I.lt h.st k hk)) (fun g hg => hb.block g (World.ownsRow.lt h.hist.1 g hg).2)

/-- Behind a call of the store, ahead of what is kept of the document's answer. -/
structure Mid (St : World → (Nat → Prop) → Value → List Ev → Prop) (w : World) (B pb : Nat) (F : Nat → Prop) (sp hv : Value) (es es' : List Ev) (F' : Nat → Prop) (wx : World) : Prop where
  st : St wx F' sp es'
  hist : Hist wx B hv es
  c0 : wx.cell? ⟨pb, 0, none⟩ = some sp
  c1 : wx.cell? ⟨pb, 1, none⟩ = some hv
  fz : wx.frozen? ⟨pb, 1, none⟩ = false
  pbF : ¬ F' pb
  hvF : ∀ g, hv.ownBlock = some g → ¬ F' g
  baseF : ∀ k, F' k → B ≤ k
  grow : ∀ k, F' k → F k ∨ w.heap.size ≤ k
  rest : ∀ k, k < w.heap.size → ¬ F k → wx.heap[k]? = w.heap[k]?
  nx : Below 0 w wx

theorem Pl.acts {St : World → (Nat → Prop) → Value → List Ev → Prop} {w w' : World} {B pb : Nat} {F : Nat → Prop} {sp hv : Value} {es es' : List Ev} (h : Pl St w B pb F sp hv es) (ha : ActP St w F sp es' w') (hB : B ≤ w.heap.size) : ∃ F', Mid St w B pb F sp hv es es' F' w' := by
  obtain ⟨F', h1, h2, h3, h4⟩ := ha
  have hp := h2 pb h.lt h.pbF
  have hn : ∀ k, k < w.heap.size → ¬ F k → ¬ F' k := fun k hk hf q => by
    rcases h3 k q with h5 | h5
    · exact hf h5
    · omega
  exact ⟨F', h1, ⟨ownsRow_of_heap h.hist.1 fun g hg => h2 g (World.ownsRow.lt h.hist.1 g hg).2 (h.hvF g hg), h.hist.2⟩, by rw [World.cell?_of_block (a := ⟨pb, 0, none⟩) hp]; exact h.c0, by rw [World.cell?_of_block (a := ⟨pb, 1, none⟩) hp]; exact h.c1, by rw [World.frozen?_of_block (a := ⟨pb, 1, none⟩) hp]; exact h.fz, hn pb h.lt h.pbF, fun g hg => hn g (World.ownsRow.lt h.hist.1 g hg).2 (h.hvF g hg), fun k hk => (h3 k hk).elim (h.baseF k) (fun q => Nat.le_trans hB q), h3, h2, h4⟩

/-- What a step of a player leaves. -/
def PlPost (St : World → (Nat → Prop) → Value → List Ev → Prop) (w : World) (B pb : Nat) (F : Nat → Prop) (sp hv : Value) (r : Ending) (w' : World) : Prop :=
  r = .returned (.bool true) ∧ ∃ F' hv' es', Pl St w' B pb F' sp hv' es' ∧ (∀ k, k < w.heap.size → ¬ F k → k ≠ pb → w'.heap[k]? = w.heap[k]?) ∧ (∀ k, F' k → F k ∨ w.heap.size ≤ k) ∧ (∀ g, hv'.ownBlock = some g → hv.ownBlock = some g ∨ w.heap.size ≤ g) ∧ Below 0 w w'

/-- The document's list is kept. -/
theorem Mid.keep {St : World → (Nat → Prop) → Value → List Ev → Prop} (I : StOk St) {w0 w wx w3 : World} {B pb : Nat} {F F' : Nat → Prop} {sp hv v' : Value} {es es' : List Ev} (h : Pl St w0 B pb F sp hv es) (hb0 : Below w0.heap.size w0 w) (m : Mid St w B pb F sp hv es es' F' wx) (hb : Below wx.heap.size wx w3) (ho : HistOut wx w3 hv v' es es') (hB : B ≤ w.heap.size) :
    ∃ F' hv' es', Pl St (w3.setCell ⟨pb, 1, none⟩ v') B pb F' sp hv' es' ∧ (∀ k, k < w0.heap.size → ¬ F k → k ≠ pb → (w3.setCell ⟨pb, 1, none⟩ v').heap[k]? = w0.heap[k]?) ∧ (∀ k, F' k → F k ∨ w0.heap.size ≤ k) ∧ (∀ g, hv'.ownBlock = some g → hv.ownBlock = some g ∨ w0.heap.size ≤ g) ∧ Below 0 w0 (w3.setCell ⟨pb, 1, none⟩ v') := by
  have hwx : w.heap.size ≤ wx.heap.size := m.nx.size
  have hw0 : w0.heap.size ≤ w.heap.size := hb0.size
  have hpl := h.lt
  have hset : ∀ k, k ≠ pb → (w3.setCell ⟨pb, 1, none⟩ v').heap[k]? = w3.heap[k]? := fun k hk => Below.heap_setCell _ ⟨pb, 1, none⟩ _ _ hk
  have hpb3 : w3.heap[pb]? = wx.heap[pb]? := hb.block pb (by omega)
  have hFlt := I.lt m.st
  have hst : St (w3.setCell ⟨pb, 1, none⟩ v') F' sp es' := I.frame _ m.st (fun k hk => by rw [hset k (fun e => m.pbF (by rw [← e]; exact hk))]; exact hb.block k (hFlt k hk)) (by simpa using hb.size)
  have hval : Hist (w3.setCell ⟨pb, 1, none⟩ v') B v' es' ∧ v'.ownBlock ≠ some pb ∧ (∀ g, v'.ownBlock = some g → ¬ F' g) ∧ (∀ g, v'.ownBlock = some g → hv.ownBlock = some g ∨ w0.heap.size ≤ g) := by
    rcases ho with ⟨rfl, rfl⟩ | ho
    · refine ⟨⟨ownsRow_of_heap m.hist.1 fun g hg => ?_, m.hist.2⟩, h.hvp, m.hvF, fun g hg => Or.inl hg⟩
      rw [hset g (fun e => h.hvp (by rw [← e]; exact hg))]
      exact hb.block g (World.ownsRow.lt m.hist.1 g hg).2
    · have hg' : ∀ g, v'.ownBlock = some g → wx.heap.size ≤ g := fun g hg => (World.ownsRow.lt ho.1 g hg).1
      refine ⟨⟨ownsRow_of_heap (ownsRow_mono ho.1 (by omega)) fun g hg => ?_, ho.2⟩, fun e => by have := hg' pb e; omega, fun g hg q => by have := hg' g hg; have := hFlt g q; omega, fun g hg => Or.inr (by have := hg' g hg; omega)⟩
      exact hset g (fun e => by have := hg' g hg; omega)
  have hc : w3.cell? ⟨pb, 1, none⟩ = some hv := by rw [World.cell?_of_block (a := ⟨pb, 1, none⟩) hpb3]; exact m.c1
  refine ⟨F', v', es', ⟨?_, World.cell?_setCell_same _ _ _ hc, ?_, hst, hval.1, m.pbF, hval.2.2.1, hval.2.1, h.base, m.baseF⟩, fun k hk hf hkp => ?_, fun k hk => (m.grow k hk).imp id (fun q => by omega), hval.2.2.2, ?_⟩
  · rw [World.cell?_setCell_other _ _ _ _ (by intro e; injection e with _ e2 _; cases e2), World.cell?_of_block (a := ⟨pb, 0, none⟩) hpb3]
    exact m.c0
  · rw [World.frozen?_setCell, World.frozen?_of_block (a := ⟨pb, 1, none⟩) hpb3]; exact m.fz
  · rw [hset k hkp, hb.block k (by omega), m.rest k (by omega) hf]
    exact hb0.block k hk
  · exact ((hb0.mono (Nat.zero_le _)).trans (m.nx.trans (hb.mono (Nat.zero_le _)))).setCell (p := ⟨pb, 1, none⟩) (Nat.zero_le _) _

end Go.Proofs.YtfdalbmopaemgaaGreatDoor
