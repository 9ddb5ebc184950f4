import Derived.Test.YtfdalbmopaemgabGreatDoorW1
namespace Go.Proofs.YtfdalbmopaemgabGreatDoor
open Go.RowKit

/-! ### Events in memory -/
structure EvAt (w : World) (b o : Nat) (e : Ev) : Prop where
  c0 : w.cell? ⟨b, o, none⟩ = some (.int .u8 e.k)
  c1 : w.cell? ⟨b, o + 1, none⟩ = some (.int .u8 e.t)
  c2 : w.cell? ⟨b, o + 2, none⟩ = some (.int .u8 e.a)
  c3 : w.cell? ⟨b, o + 3, none⟩ = some (.int .i32 e.v)
  c4 : w.cell? ⟨b, o + 4, none⟩ = some (.int .i32 e.s)

def EvsAt (w : World) (b off : Nat) (es : List Ev) : Prop := ∀ (i : Nat) (h : i < es.length), EvAt w b (off + i * 5) es[i]

/-- The slice value v holds the events es. -/
def SlEv (w : World) (v : Value) (es : List Ev) : Prop :=
  (es = [] ∧ ∃ a c, v = .slice a 0 c) ∨ (∃ b off cap, v = .slice (some ⟨b, off, none⟩) es.length cap ∧ b < w.heap.size ∧ EvsAt w b off es)

theorem EvAt.below {w w' : World} {B b o : Nat} {e : Ev} (h : EvAt w b o e) (hB : b < B) (hb : Below B w w') : EvAt w' b o e :=
  ⟨by rw [bcells hb _ _ hB]; exact h.c0, by rw [bcells hb _ _ hB]; exact h.c1, by rw [bcells hb _ _ hB]; exact h.c2, by rw [bcells hb _ _ hB]; exact h.c3, by rw [bcells hb _ _ hB]; exact h.c4⟩

theorem EvsAt.below {w w' : World} {B b o : Nat} {es : List Ev} (h : EvsAt w b o es) (hB : b < B) (hb : Below B w w') : EvsAt w' b o es := fun i hi => (h i hi).below hB hb

theorem SlEv.below {w w' : World} {v : Value} {es : List Ev} (h : SlEv w v es) (hb : Below w.heap.size w w') : SlEv w' v es := by
  rcases h with ⟨h1, h2⟩ | ⟨b, off, cap, h1, h2, h3⟩
  · exact Or.inl ⟨h1, h2⟩
  · exact Or.inr ⟨b, off, cap, h1, Nat.lt_of_lt_of_le h2 hb.size, h3.below h2 hb⟩

/-! ### Print -/
def allKinds (es : List Ev) : Bool := es.all fun e => isKind e.k
def printT (es : List Ev) : List UInt8 := if 60 < es.length then [] else if allKinds es then printL es else []
def printE (es : List Ev) : Int := if 60 < es.length then 1 else if allKinds es then 0 else 3

theorem allKinds_take (es : List Ev) (k : Nat) (h : k < es.length) (ha : allKinds (es.take k) = true) (hk : isKind es[k].k = true) : allKinds (es.take (k + 1)) = true := by
  unfold allKinds at ha ⊢
  rw [List.take_succ_eq_append_getElem h, List.all_append, ha]
  simp [hk]

theorem allKinds_no (es : List Ev) (k : Nat) (h : k < es.length) (hk : isKind es[k].k = false) : allKinds es = false := by
  unfold allKinds
  rw [List.all_eq_false]
  exact ⟨es[k], List.getElem_mem _, by simp [hk]⟩

theorem letterL_no (k : Int) (h : isKind k = false) : letterL k = [] := by
  unfold isKind at h
  simp at h
  unfold letterL
  rw [if_neg (by omega), if_neg (by omega), if_neg (by omega), if_neg (by omega), if_neg (by omega), if_neg (by omega)]

theorem tup_str_int {a b : List UInt8} {n m : Int} (h : a = b) (h' : n = m) : Ending.returned (.tuple #[.string ⟨a.toArray⟩, .int .i64 n]) = .returned (.tuple #[.string ⟨b.toArray⟩, .int .i64 m]) := by rw [h, h']

theorem numbers_r (w0 : World) (e : Ev) (W : World) (he : e.Ok) (ht : Tab w0) (hb : Below w0.heap.size w0 W) :
    Calls Tryz.prog 70 #[evV e] W fun r w' => r = .returned (.string ⟨(numbersL e).toArray⟩) ∧ Below w0.heap.size w0 w' := by
  refine (numbers_any e W he (ht.below ht.2 hb)).mono ?_
  rintro r w' ⟨rfl, h⟩
  exact ⟨rfl, hb.trans (h.mono hb.size)⟩

theorem numbersL_len (e : Ev) (he : e.Ok) : (numbersL e).length ≤ 33 := by
  have := lineL_len e he
  unfold lineL at this
  simp only [List.length_append] at this
  omega

theorem text_step (es : List Ev) (k : Nat) (h : k < es.length) (c : UInt8) (ev : Ev) (he : es[k] = ev) (hc : letterL ev.k = [c]) :
    (⟨(printL (es.take k)).toArray⟩ ++ (⟨#[c]⟩ ++ ⟨(numbersL ev).toArray⟩ ++ ⟨#[10]⟩) : ByteArray) = ⟨(printL (es.take (k + 1))).toArray⟩ := by
  rw [List.take_succ_eq_append_getElem h, printL_snoc, he, lineL, hc]
  show (⟨(printL (es.take k)).toArray⟩ ++ (⟨[c].toArray⟩ ++ ⟨(numbersL ev).toArray⟩ ++ ⟨[10].toArray⟩) : ByteArray) = _
  rw [app_str, app_str, app_str]

set_option maxHeartbeats 1000000 in
theorem histPrint_any (b off cap : Nat) (es : List Ev) (w : World) (hbw : b < w.heap.size) (hev : EvsAt w b off es) (hok : ∀ e ∈ es, e.Ok) (hmax : es.length ≤ 9223372036854775807) (ht : Tab w) :
    Calls Tryz.prog 45 #[.slice (some ⟨b, off, none⟩) es.length cap] w fun r w' => r = .returned (.tuple #[.string ⟨(printT es).toArray⟩, .int .i64 (printE es)]) ∧ Below w.heap.size w w' := by
  by_cases hl : 60 < es.length
  · have hl' : (60 : Int) < (es.length : Int) := by omega
    go_enter Tryz.func45, Tryz.ntmps45
    go_wp2
    go_ret2
    exact ⟨tup_str_int (by simp [printT, hl]) (by simp [printE, hl]), Below.refl _ _⟩
  · have hl' : ¬ (60 : Int) < (es.length : Int) := by omega
    go_enter Tryz.func45, Tryz.ntmps45
    go_wp2
    go_loopw [4, 13] (fun t i wr => ∃ k : Nat, k ≤ es.length ∧ i = .int .i64 k ∧ t = .string ⟨(printL (es.take k)).toArray⟩ ∧ allKinds (es.take k) = true ∧ Below w.heap.size w wr) (fun _ i _ => es.length - (intOf i).toNat)
    case atStart => exact ⟨0, by omega, rfl, rfl, rfl, Below.refl _ _⟩
    case round =>
      obtain ⟨k, hk, rfl, rfl, hall, hnx⟩ := hrel
      by_cases hlt : k < es.length
      · obtain ⟨g0, g1, g2, g3, g4⟩ := (hev k hlt).below hbw hnx
        have heok := hok es[k] (List.getElem_mem _)
        have hlen := printL_len (es.take k) (fun e he => hok e (List.mem_of_mem_take he))
        have hlen2 : (printL (es.take k)).length ≤ 2040 := by rw [List.length_take] at hlen; omega
        have hlen3 := numbersL_len es[k] heok
        have HA : Hid (allKinds (es.take k) = true) := hall
        obtain ⟨ev, hev'⟩ : ∃ ev, es[k] = ev := ⟨_, rfl⟩
        have HE : Hid (es[k] = ev) := hev'
        rw [hev'] at g0 g1 g2 g3 g4 heok hlen3
        clear hall hev' hlen
        have hk0 := heok.k0
        have hk1 := heok.k1
        have hlt' : (k : Int) < (es.length : Int) := by omega
        have hba : ∀ o, Below w.heap.size w (wr.alloc o) := fun o => hnx.alloc hnx.size o
        cases hkd : isKind ev.k with
        | true =>
          obtain ⟨c, hc1, _, _⟩ := kindOf_letterL ev.k hkd
          go_wp2_with (first | (go_at_call 69; refine (letter_any _ _ (by omega) (by omega)).mono ?_; rintro r w' ⟨rfl, rfl⟩) | (go_at_call 70; refine (numbers_r w ev _ heok ht (hba _)).mono ?_; rintro r w1 ⟨rfl, hb⟩))
          go_roundw
          case rel => exact ⟨k + 1, by omega, by go_num, congrArg Value.string (text_step es k hlt c ev HE.out hc1), allKinds_take es k hlt HA.out (by rw [HE.out]; exact hkd), hb⟩
          case measure => simp [intOf]; omega
        | false =>
          have hc1 := letterL_no ev.k hkd
          go_wp2_with (first | (go_at_call 69; refine (letter_any _ _ (by omega) (by omega)).mono ?_; rintro r w' ⟨rfl, rfl⟩))
          go_ret2
          have hno := allKinds_no es k hlt (by rw [HE.out]; exact hkd)
          exact ⟨tup_str_int (by simp [printT, hno]) (by simp [printE, hno, hl]), hba _⟩
      · have hge : ¬ (k : Int) < (es.length : Int) := by omega
        have hke : k = es.length := by omega
        subst hke
        rw [List.take_length] at hall ⊢
        go_wp2
        go_ret2
        exact ⟨tup_str_int (by simp [printT, hall, hl]) (by simp [printE, hall, hl]), hnx⟩

set_option maxHeartbeats 400000 in
theorem histPrint_nil (a : Option Addr) (cap : Nat) (w : World) :
    Calls Tryz.prog 45 #[.slice a 0 cap] w fun r w' => r = .returned (.tuple #[.string ⟨(printT []).toArray⟩, .int .i64 (printE [])]) ∧ w' = w := by
  go_enter Tryz.func45, Tryz.ntmps45
  go_wp2
  go_loop [4, 13] (fun t i => i = .int .i64 0 ∧ t = .string ⟨#[]⟩) (fun _ _ => 0)
  case atStart => exact ⟨rfl, rfl⟩
  case round =>
    obtain ⟨rfl, rfl⟩ := hrel
    go_wp2
    go_ret2
    exact ⟨rfl, rfl⟩

theorem histPrint_all (v : Value) (es : List Ev) (w : World) (hs : SlEv w v es) (hok : ∀ e ∈ es, e.Ok) (hmax : es.length ≤ 9223372036854775807) (ht : Tab w) :
    Calls Tryz.prog 45 #[v] w fun r w' => r = .returned (.tuple #[.string ⟨(printT es).toArray⟩, .int .i64 (printE es)]) ∧ Below w.heap.size w w' := by
  rcases hs with ⟨rfl, a, c, rfl⟩ | ⟨b, off, cap, rfl, h2, h3⟩
  · refine (histPrint_nil a c w).mono ?_
    rintro r w' ⟨rfl, rfl⟩
    exact ⟨rfl, Below.refl _ _⟩
  · exact histPrint_any b off cap es w h2 h3 hok hmax ht

set_option maxHeartbeats 400000 in
theorem print_all (v : Value) (es : List Ev) (w : World) (hs : SlEv w v es) (hok : ∀ e ∈ es, e.Ok) (hmax : es.length ≤ 9223372036854775807) (ht : Tab w) :
    Calls Tryz.prog 19 #[v] w fun r w' => r = .returned (.tuple #[.string ⟨(printT es).toArray⟩, .int .i64 (printE es)]) ∧ Below w.heap.size w w' := by
  go_enter Tryz.func19, Tryz.ntmps19
  go_wp2_with (go_at_call 45; refine (histPrint_all v es _ hs hok hmax ht).mono ?_; rintro r w1 ⟨rfl, hb⟩)
  go_ret2
  exact ⟨rfl, hb⟩

end Go.Proofs.YtfdalbmopaemgabGreatDoor
