import Derived.Test.YtfdalbmopaemgabGreatDoorSame
import Derived.Laws.BytesArg
namespace Go.Proofs.YtfdalbmopaemgabGreatDoor
open Go.RowKit

/-! ### The document's own texts: number, line, Print -/
theorem itoa_small (n : Nat) (h : n < 10) : Lib.itoa (n : Int) = [UInt8.ofNat (48 + n)] := by rw [itoa_pos, dec_small h]
theorem itoa_big (n : Nat) (h : ¬ n < 10) : Lib.itoa (n : Int) = Lib.itoa ((n / 10 : Nat) : Int) ++ [UInt8.ofNat (48 + n % 10)] := by rw [itoa_pos, itoa_pos, dec_big h]

theorem dig_add (d : Nat) : 48 + UInt8.ofNat d = UInt8.ofNat (48 + d) := by simp

theorem conv_one (W : World) (x : Int) : (convert 141 9 (.slice (some ⟨W.heap.size, 0, none⟩) 1 1)).run Tryz.prog (W.alloc (.cells #[.int .u8 x] 5)) = .ok (.string ⟨#[UInt8.ofNat x.toNat]⟩) (W.alloc (.cells #[.int .u8 x] 5)) := by
  have := run_convert_bytes_arg (P := Tryz.prog) (W.alloc (.cells #[.int .u8 x] 5)) 141 5 Tryz.underlying141 Tryz.underlying5 W.heap.size 0 1 1 [x] rfl (fun i hi => by
    obtain rfl : i = 0 := by omega
    simp [go_sem]) 9 Tryz.underlying9
  rw [this]
  rfl

def RefNum (n : Int) : Prop := ∀ w : World, Calls Tryz.prog 71 #[.int .i64 n] w fun r w' => r = .returned (.string ⟨(Lib.itoa n).toArray⟩) ∧ Below w.heap.size w w'

set_option maxRecDepth 100000 in
set_option maxHeartbeats 400000 in
theorem refNum_nat (n : Nat) : n ≤ 4294967296 → RefNum (n : Int) := by
  induction n using Nat.strongRecOn with
  | _ n ih =>
    intro hn w
    have h1 : (0 : Int) ≤ (n : Int) := by omega
    have h1' : ¬ (n : Int) < 0 := by omega
    have hcv := conv_one
    have hba : ∀ o, Below w.heap.size w (w.alloc o) := fun o => (Below.refl _ _).alloc (Nat.le_refl _) o
    by_cases h : n < 10
    · have h2 : (n : Int) < 10 := by omega
      have HI := hidIt (itoa_small n h)
      clear ih h
      go_enter Tryz.func71, Tryz.ntmps71
      go_wp2_with fail
      go_ret
      refine ⟨?_, hba _⟩
      rw [HI.out]
      exact congrArg (fun c => Ending.returned (.string ⟨#[c]⟩)) (show 48 + UInt8.ofNat (n % 10) = UInt8.ofNat (48 + n) by rw [dig_add, Nat.mod_eq_of_lt (by omega)])
    · have h2 : ¬ (n : Int) < 10 := by omega
      have HI := hidIt (itoa_big n h)
      have IH := hidIt (ih (n / 10) (by omega) (by omega))
      have hlen := itoa_length 9 ((n / 10 : Nat) : Int) (by omega) (by omega)
      clear ih h
      obtain ⟨m, hm⟩ : ∃ m, n / 10 = m := ⟨_, rfl⟩
      have HM := hidIt hm
      rw [hm] at HI IH hlen
      have hq : (n : Int) / 10 = (m : Int) := by omega
      clear hm
      go_enter Tryz.func71, Tryz.ntmps71
      go_wp2_with fail
      refine (IH.out _).mono ?_
      rintro r w1 ⟨rfl, hb⟩
      go_wp2_with fail
      go_ret
      refine ⟨?_, (hba _).trans (hb.mono (by simp))⟩
      rw [HI.out, ← app_str]
      exact congrArg (fun c => Ending.returned (.string (⟨(Lib.itoa (m : Int)).toArray⟩ ++ ⟨#[c]⟩))) (dig_add (n % 10))

set_option maxRecDepth 100000 in
set_option maxHeartbeats 400000 in
theorem refNum (n : Int) (h0 : -2147483648 ≤ n) (h1 : n ≤ 2147483647) : RefNum n := by
  by_cases hn : n < 0
  · obtain ⟨u, rfl⟩ : ∃ u : Nat, n = -(u : Int) := ⟨n.natAbs, by omega⟩
    intro w
    have IH := hidIt (refNum_nat u (by omega))
    have HI := hidIt (itoa_min u (by omega))
    have hlen := itoa_length 9 (u : Int) (by omega) (by omega)
    have hu : (- -(u : Int)) = (u : Int) := by omega
    have hlt : -(u : Int) < 0 := hn
    rw [itoa_pos] at hlen
    go_enter Tryz.func71, Tryz.ntmps71
    go_wp2_with fail
    refine (IH.out _).mono ?_
    rintro r w1 ⟨rfl, hb⟩
    rw [itoa_pos]
    go_wp2_with fail
    go_ret
    refine ⟨?_, hb⟩
    rw [HI.out]
    exact congrArg (fun s => Ending.returned (.string s)) (app_str [45] (Lib.decDigits u))
  · obtain ⟨u, rfl⟩ : ∃ u : Nat, n = (u : Int) := ⟨n.toNat, by omega⟩
    exact refNum_nat u (by omega)

theorem refNum_r (w0 : World) (n : Int) (W : World) (h0 : -2147483648 ≤ n) (h1 : n ≤ 2147483647) (hb : Below w0.heap.size w0 W) :
    Calls Tryz.prog 71 #[.int .i64 n] W fun e w' => ∃ l, e = .returned (.string ⟨l.toArray⟩) ∧ l.length ≤ 11 ∧ Below w0.heap.size w0 w' ∧ W.heap.size ≤ w'.heap.size ∧ (∀ b o, b < W.heap.size → w'.cell? ⟨b, o, none⟩ = W.cell? ⟨b, o, none⟩) ∧ Hid (Lib.itoa n = l) := by
  refine (refNum n h0 h1 W).mono ?_
  rintro e w' ⟨rfl, h⟩
  exact ⟨_, rfl, itoa_length 9 n (by omega) (by omega), hb.trans (h.mono hb.size), h.size, bcells h, rfl⟩

theorem line_B (e : Ev) (h : e.k = 1) : lineL e ++ [10] = [66] ++ ([32] ++ Lib.itoa e.t) ++ ([32] ++ Lib.itoa e.a) ++ [10] := by
  simp [lineL, letterL, numbersL, numL, optL, nArg, nVal, nSeen, onObj, h]
theorem line_R (e : Ev) (h : e.k = 2) : lineL e ++ [10] = [82] ++ ([32] ++ Lib.itoa e.t) ++ ([32] ++ Lib.itoa e.a) ++ ([32] ++ Lib.itoa e.s) ++ [10] := by
  simp [lineL, letterL, numbersL, numL, optL, nArg, nVal, nSeen, onObj, h]
theorem line_W (e : Ev) (h : e.k = 3) : lineL e ++ [10] = [87] ++ ([32] ++ Lib.itoa e.t) ++ ([32] ++ Lib.itoa e.a) ++ ([32] ++ Lib.itoa e.v) ++ [10] := by
  simp [lineL, letterL, numbersL, numL, optL, nArg, nVal, nSeen, onObj, h]
theorem line_A (e : Ev) (h : e.k = 4) : lineL e ++ [10] = [65] ++ ([32] ++ Lib.itoa e.t) ++ ([32] ++ Lib.itoa e.a) ++ ([32] ++ Lib.itoa e.v) ++ ([32] ++ Lib.itoa e.s) ++ [10] := by
  simp [lineL, letterL, numbersL, numL, optL, nArg, nVal, nSeen, onObj, h]
theorem line_C (e : Ev) (h : e.k = 5) : lineL e ++ [10] = [67] ++ ([32] ++ Lib.itoa e.t) ++ [10] := by
  simp [lineL, letterL, numbersL, numL, optL, nArg, nVal, nSeen, onObj, h]
theorem line_X (e : Ev) (h : e.k = 6) : lineL e ++ [10] = [88] ++ ([32] ++ Lib.itoa e.t) ++ [10] := by
  simp [lineL, letterL, numbersL, numL, optL, nArg, nVal, nSeen, onObj, h]

set_option maxRecDepth 100000 in
set_option maxHeartbeats 2000000 in
theorem refLine_any (e : Ev) (w : World) (he : e.Ok) (hk : isKind e.k = true) :
    Calls Tryz.prog 46 #[evV e] w fun r w' => r = .returned (.string ⟨(lineL e ++ [10]).toArray⟩) ∧ Below w.heap.size w w' := by
  obtain ⟨k0, k1, t0, t1, a0, a1, v0, v1, s0, s1⟩ := he
  obtain ⟨k, t, a, v, s⟩ := e
  simp only at k0 k1 t0 t1 a0 a1 v0 v1 s0 s1 hk
  have hba : ∀ o, Below w.heap.size w (w.alloc o) := fun o => (Below.refl _ _).alloc (Nat.le_refl _) o
  have hc : k = 1 ∨ k = 2 ∨ k = 3 ∨ k = 4 ∨ k = 5 ∨ k = 6 := by
    unfold isKind at hk
    simp at hk
    omega
  clear hk
  rcases hc with rfl | rfl | rfl | rfl | rfl | rfl
  all_goals
    go_enter Tryz.func46, Tryz.ntmps46
    go_wp2_with fail
    refine (refNum_r w _ _ (by omega) (by omega) (hba _)).mono ?_
    rintro r w1 ⟨lt, rfl, hlt, hb1, hz1, hc1, HT⟩
    simp at hz1
    have hzz1 : w.heap.size < w1.heap.size := by omega
    go_wp2_with fail
    refine (refNum_r w _ _ (by omega) (by omega) hb1).mono ?_
    rintro r w2 ⟨la, rfl, hla, hb2, hz2, hc2, HA⟩
    have hzz2 : w.heap.size < w2.heap.size := by omega
    go_wp2_with fail
    refine (refNum_r w _ _ (by omega) (by omega) hb2).mono ?_
    rintro r w3 ⟨lv, rfl, hlv, hb3, hz3, hc3, HV⟩
    have hzz3 : w.heap.size < w3.heap.size := by omega
    go_wp2_with fail
    refine (refNum_r w _ _ (by omega) (by omega) hb3).mono ?_
    rintro r w4 ⟨ls, rfl, hls, hb4, hz4, hc4, HSS⟩
    have hzz4 : w.heap.size < w4.heap.size := by omega
    go_wp2_with fail
    go_ret
    refine ⟨?_, hb4⟩
    refine congrArg (fun s => Ending.returned (Value.string s)) ?_
  · rw [line_B _ rfl]
    simp only
    rw [HT.out, HA.out]
    apply ByteArray.ext
    simp
  · rw [line_R _ rfl]
    simp only
    rw [HT.out, HA.out, HSS.out]
    apply ByteArray.ext
    simp
  · rw [line_W _ rfl]
    simp only
    rw [HT.out, HA.out, HV.out]
    apply ByteArray.ext
    simp
  · rw [line_A _ rfl]
    simp only
    rw [HT.out, HA.out, HV.out, HSS.out]
    apply ByteArray.ext
    simp
  · rw [line_C _ rfl]
    simp only
    rw [HT.out]
    apply ByteArray.ext
    simp
  · rw [line_X _ rfl]
    simp only
    rw [HT.out]
    apply ByteArray.ext
    simp

theorem refLine_r (w0 : World) (e : Ev) (W : World) (he : e.Ok) (hk : isKind e.k = true) (hb : Below w0.heap.size w0 W) :
    Calls Tryz.prog 46 #[evV e] W fun r w' => ∃ l, r = .returned (.string ⟨l.toArray⟩) ∧ l.length ≤ 34 ∧ Below w0.heap.size w0 w' ∧ Hid (lineL e ++ [10] = l) := by
  refine (refLine_any e W he hk).mono ?_
  rintro r w' ⟨rfl, h⟩
  exact ⟨_, rfl, by have := lineL_len e he; simp; omega, hb.trans (h.mono hb.size), rfl⟩

theorem text_step2 (es : List Ev) (k : Nat) (h : k < es.length) (l : List UInt8) (ev : Ev) (he : es[k] = ev) (hl : lineL ev ++ [10] = l) :
    (⟨(printL (es.take k)).toArray⟩ ++ ⟨l.toArray⟩ : ByteArray) = ⟨(printL (es.take (k + 1))).toArray⟩ := by
  rw [List.take_succ_eq_append_getElem h, printL_snoc, he, hl, app_str]

set_option maxRecDepth 100000 in
set_option maxHeartbeats 1000000 in
theorem refPrint_any (b off cap : Nat) (es : List Ev) (w : World) (hbw : b < w.heap.size) (hev : EvsAt w b off es) (hok : ∀ e ∈ es, e.Ok) (hmax : es.length ≤ 9223372036854775807) :
    Calls Tryz.prog 20 #[.slice (some ⟨b, off, none⟩) es.length cap] w fun r w' => r = .returned (.tuple #[.string ⟨(printT es).toArray⟩, .int .i64 (printE es)]) ∧ Below w.heap.size w w' := by
  by_cases hl : 60 < es.length
  · have hl' : (60 : Int) < (es.length : Int) := by omega
    go_enter Tryz.func20, Tryz.ntmps20
    go_wp2_with fail
    go_ret2
    exact ⟨tup_str_int (by simp [printT, hl]) (by simp [printE, hl]), Below.refl _ _⟩
  · have hl' : ¬ (60 : Int) < (es.length : Int) := by omega
    go_enter Tryz.func20, Tryz.ntmps20
    go_wp2_with fail
    go_loopw [4, 5] (fun t i wr => ∃ k : Nat, k ≤ es.length ∧ i = .int .i64 k ∧ t = .string ⟨(printL (es.take k)).toArray⟩ ∧ allKinds (es.take k) = true ∧ Below w.heap.size w wr) (fun _ i _ => es.length - (intOf i).toNat)
    case atStart => exact ⟨0, by omega, rfl, rfl, rfl, Below.refl _ _⟩
    case round =>
      obtain ⟨k, hk, rfl, rfl, hall, hnx⟩ := hrel
      by_cases hlt : k < es.length
      · obtain ⟨g0, g1, g2, g3, g4⟩ := (hev k hlt).below hbw hnx
        have heok := hok es[k] (List.getElem_mem _)
        have hlen := printL_len (es.take k) (fun e he => hok e (List.mem_of_mem_take he))
        have hlen2 : (printL (es.take k)).length ≤ 2040 := by rw [List.length_take] at hlen; omega
        have HA : Hid (allKinds (es.take k) = true) := hall
        obtain ⟨ev, hev'⟩ : ∃ ev, es[k] = ev := ⟨_, rfl⟩
        have HE : Hid (es[k] = ev) := hev'
        rw [hev'] at g0 g1 g2 g3 g4 heok
        clear hall hev' hlen
        have hk0 := heok.k0
        have hk1 := heok.k1
        have hlt' : (k : Int) < (es.length : Int) := by omega
        have hk00 : (0 : Int) ≤ (k : Int) := by omega
        cases hkd : isKind ev.k with
        | true =>
          have hkk : 1 ≤ ev.k ∧ ev.k ≤ 6 := by
            unfold isKind at hkd
            simp at hkd
            exact hkd
          obtain ⟨hk1', hk6⟩ := hkk
          have HKD := hidIt hkd
          clear hkd
          go_wp2_with (go_at_call 46; refine (refLine_r w ev _ heok HKD.out hnx).mono ?_; rintro r w1 ⟨l, rfl, hll, hb, HL⟩)
          go_roundw
          case rel => exact ⟨k + 1, by omega, by go_num, congrArg Value.string (text_step2 es k hlt l ev HE.out HL.out), allKinds_take es k hlt HA.out (by rw [HE.out]; exact HKD.out), hb⟩
          case measure => simp [intOf]; omega
        | false =>
          have hno := hidIt (allKinds_no es k hlt (by rw [HE.out]; exact hkd))
          have hkk : ev.k < 1 ∨ 6 < ev.k := by
            unfold isKind at hkd
            simp at hkd
            omega
          clear hkd
          rcases hkk with hkk | hkk
          · go_wp2_with fail
            go_ret2
            exact ⟨tup_str_int (by simp [printT, hno.out]) (by simp [printE, hno.out, hl]), hnx⟩
          · have hkk2 : ¬ ev.k < 1 := by omega
            go_wp2_with fail
            go_ret2
            exact ⟨tup_str_int (by simp [printT, hno.out]) (by simp [printE, hno.out, hl]), hnx⟩
      · have hge : ¬ (k : Int) < (es.length : Int) := by omega
        have hke : k = es.length := by omega
        subst hke
        rw [List.take_length] at hall ⊢
        go_wp2_with fail
        go_ret2
        exact ⟨tup_str_int (by simp [printT, hall, hl]) (by simp [printE, hall, hl]), hnx⟩

set_option maxHeartbeats 400000 in
theorem refPrint_nil (a : Option Addr) (cap : Nat) (w : World) :
    Calls Tryz.prog 20 #[.slice a 0 cap] w fun r w' => r = .returned (.tuple #[.string ⟨(printT []).toArray⟩, .int .i64 (printE [])]) ∧ w' = w := by
  go_enter Tryz.func20, Tryz.ntmps20
  go_wp2_with fail
  go_loop [4, 5] (fun t i => i = .int .i64 0 ∧ t = .string ⟨#[]⟩) (fun _ _ => 0)
  case atStart => exact ⟨rfl, rfl⟩
  case round =>
    obtain ⟨rfl, rfl⟩ := hrel
    go_wp2_with fail
    go_ret2
    exact ⟨rfl, rfl⟩

theorem refPrint_all (v : Value) (es : List Ev) (w : World) (hs : SlEv w v es) (hok : ∀ e ∈ es, e.Ok) (hmax : es.length ≤ 9223372036854775807) :
    Calls Tryz.prog 20 #[v] w fun r w' => r = .returned (.tuple #[.string ⟨(printT es).toArray⟩, .int .i64 (printE es)]) ∧ Below w.heap.size w w' := by
  rcases hs with ⟨rfl, a, c, rfl⟩ | ⟨b, off, cap, rfl, h2, h3⟩
  · refine (refPrint_nil a c w).mono ?_
    rintro r w' ⟨rfl, rfl⟩
    exact ⟨rfl, Below.refl _ _⟩
  · exact refPrint_any b off cap es w h2 h3 hok hmax

end Go.Proofs.YtfdalbmopaemgabGreatDoor
