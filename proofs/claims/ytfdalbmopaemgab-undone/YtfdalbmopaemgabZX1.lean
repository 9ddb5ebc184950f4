import Derived.Test.YtfdalbmopaemgabZV12
import Derived.Test.YtfdalbmopaemgabZD
namespace Go.Proofs.Ytfdalbmopaemgab
open Go.RowKit

/-! ### Steps of a store -/
structure StD where
  k : Nat
  t : Nat
  x : Nat
  v : Int

structure StD.Ok (d : StD) : Prop where
  k : d.k ≤ 255
  t : d.t ≤ 255
  x : d.x ≤ 255
  v0 : -2147483648 ≤ d.v
  v1 : d.v ≤ 2147483647

abbrev stepV (d : StD) : Value := .agg #[.int .u8 (d.k : Int), .int .u8 (d.t : Int), .int .u8 (d.x : Int), .int .i32 d.v]

def actR (es : List Ev) (d : StD) : List Ev :=
  if d.k = 1 then (beginR es (d.t : Int)).1 else if d.k = 2 then (accessR es 2 (d.t : Int) (d.x : Int) 0).1 else if d.k = 3 then (accessR es 3 (d.t : Int) (d.x : Int) d.v).1 else if d.k = 4 then (accessR es 4 (d.t : Int) (d.x : Int) d.v).1
  else if d.k = 5 then (endR es 5 (d.t : Int)).1 else if d.k = 6 then (endR es 6 (d.t : Int)).1 else es

def ActPost (w : World) (b : Nat) (es' : List Ev) (r : Ending) (w' : World) : Prop := r = .returned (.tuple #[]) ∧ StP w b es' w'

set_option maxRecDepth 100000 in
set_option maxHeartbeats 4000000 in
theorem act_any (b : Nat) (d : StD) (es : List Ev) (w : World) (h : StC w b es) (hd : d.Ok) :
    Calls Try.prog 21 #[.pointer (some ⟨b, 0, none⟩), stepV d] w (ActPost w b (actR es d)) := by
  obtain ⟨k, t, x, v⟩ := d
  obtain ⟨hk, ht, hx, _, _⟩ := hd
  simp only at hk ht hx
  have hbx := (Below.refl w.heap.size w).alloc (Nat.le_refl _) (.cells #[.int .u8 (k : Int), .int .u8 (t : Int), .int .u8 (x : Int), .int .i32 v] 46)
  have h1 := h.of_heap (hbx.block b h.lt) hbx.size
  have HF := hidIt (FrB.new b hbx)
  have HS := hidIt h1
  clear h h1 hbx
  by_cases k1 : k = 1
  · subst k1
    have HC := hidIt (gbegin b t es _ HS.out ht)
    go_enter Try.func21, Try.ntmps21
    go_wp2_with fail
    refine HC.out.mono ?_
    rintro r w1 ⟨rfl, hst⟩
    have HR := hidIt (StP.go HF.out hst)
    clear hst
    go_wp2_with fail
    go_end0
    exact ⟨rfl, HR.out⟩
  by_cases k2 : k = 2
  · subst k2
    have HC := hidIt (gread b t x es _ HS.out ht hx)
    clear k1
    go_enter Try.func21, Try.ntmps21
    go_wp2_with fail
    refine HC.out.mono ?_
    rintro r w1 ⟨rfl, hst⟩
    have HR := hidIt (StP.go HF.out hst)
    clear hst
    go_wp2_with fail
    go_end0
    exact ⟨rfl, HR.out⟩
  by_cases k3 : k = 3
  · subst k3
    have HC := hidIt (gwrite b t x v es _ HS.out ht hx)
    clear k1 k2
    go_enter Try.func21, Try.ntmps21
    go_wp2_with fail
    refine HC.out.mono ?_
    rintro r w1 ⟨rfl, hst⟩
    have HR := hidIt (StP.go HF.out hst)
    clear hst
    go_wp2_with fail
    go_end0
    exact ⟨rfl, HR.out⟩
  by_cases k4 : k = 4
  · subst k4
    have HC := hidIt (gadd b t x v es _ HS.out ht hx)
    clear k1 k2 k3
    go_enter Try.func21, Try.ntmps21
    go_wp2_with fail
    refine HC.out.mono ?_
    rintro r w1 ⟨rfl, hst⟩
    have HR := hidIt (StP.go HF.out hst)
    clear hst
    go_wp2_with fail
    go_end0
    exact ⟨rfl, HR.out⟩
  by_cases k5 : k = 5
  · subst k5
    have HC := hidIt (gcommit b t es _ HS.out ht)
    clear k1 k2 k3 k4
    go_enter Try.func21, Try.ntmps21
    go_wp2_with fail
    refine HC.out.mono ?_
    rintro r w1 ⟨rfl, hst⟩
    have HR := hidIt (StP.go HF.out hst)
    clear hst
    go_wp2_with fail
    go_end0
    exact ⟨rfl, HR.out⟩
  by_cases k6 : k = 6
  · subst k6
    have HC := hidIt (gabort b t es _ HS.out ht)
    clear k1 k2 k3 k4 k5
    go_enter Try.func21, Try.ntmps21
    go_wp2_with fail
    refine HC.out.mono ?_
    rintro r w1 ⟨rfl, hst⟩
    have HR := hidIt (StP.go HF.out hst)
    clear hst
    go_wp2_with fail
    go_end0
    exact ⟨rfl, HR.out⟩
  have q1 : ((k : Int) == 1) = false := by simp; omega
  have q2 : ((k : Int) == 2) = false := by simp; omega
  have q3 : ((k : Int) == 3) = false := by simp; omega
  have q4 : ((k : Int) == 4) = false := by simp; omega
  have q5 : ((k : Int) == 5) = false := by simp; omega
  have q6 : ((k : Int) == 6) = false := by simp; omega
  have HV : Hid (actR es ⟨k, t, x, v⟩ = es) := by show _ = _; unfold actR; rw [if_neg k1, if_neg k2, if_neg k3, if_neg k4, if_neg k5, if_neg k6]
  clear k1 k2 k3 k4 k5 k6
  go_enter Try.func21, Try.ntmps21
  go_wp2_with fail
  go_end0
  exact ⟨rfl, by rw [HV.out]; exact ⟨HS.out, HF.out⟩⟩

/-! ### A list of steps -/
structure StepAt (w : World) (b o : Nat) (d : StD) : Prop where
  c0 : w.cell? ⟨b, o, none⟩ = some (.int .u8 (d.k : Int))
  c1 : w.cell? ⟨b, o + 1, none⟩ = some (.int .u8 (d.t : Int))
  c2 : w.cell? ⟨b, o + 2, none⟩ = some (.int .u8 (d.x : Int))
  c3 : w.cell? ⟨b, o + 3, none⟩ = some (.int .i32 d.v)

theorem StepAt.of_heap {w w' : World} {b o : Nat} {d : StD} (h : StepAt w b o d) (hh : w'.heap[b]? = w.heap[b]?) : StepAt w' b o d :=
  ⟨by rw [World.cell?_of_block (a := ⟨b, _, none⟩) hh]; exact h.c0, by rw [World.cell?_of_block (a := ⟨b, _, none⟩) hh]; exact h.c1, by rw [World.cell?_of_block (a := ⟨b, _, none⟩) hh]; exact h.c2, by rw [World.cell?_of_block (a := ⟨b, _, none⟩) hh]; exact h.c3⟩

/-- The slice value v holds the steps ds, and lies below B. -/
def SlSt (w : World) (B : Nat) (v : Value) (ds : List StD) : Prop :=
  (ds = [] ∧ ∃ a c, v = .slice a 0 c) ∨ (∃ b off cap, v = .slice (some ⟨b, off, none⟩) ds.length cap ∧ b < B ∧ b < w.heap.size ∧ ∀ (i : Nat) (h : i < ds.length), StepAt w b (off + i * 4) ds[i])

theorem SlSt.stay {w w' : World} {B : Nat} {v : Value} {ds : List StD} (h : SlSt w B v ds) (hs : w.heap.size ≤ w'.heap.size) (hh : ∀ k, k < B → k < w.heap.size → w'.heap[k]? = w.heap[k]?) : SlSt w' B v ds := by
  rcases h with h | ⟨b, off, cap, h1, h2, h3, h4⟩
  · exact Or.inl h
  · exact Or.inr ⟨b, off, cap, h1, h2, by omega, fun i hi => (h4 i hi).of_heap (hh b h2 h3)⟩

theorem SlSt.form {w : World} {B : Nat} {v : Value} {ds : List StD} (h : SlSt w B v ds) : ∃ a c, v = .slice a ds.length c := by
  rcases h with ⟨rfl, a, c, rfl⟩ | ⟨b, off, cap, h1, _⟩
  · exact ⟨a, c, rfl⟩
  · exact ⟨_, cap, h1⟩

theorem SlSt.at_ {w : World} {B : Nat} {a : Option Addr} {n c : Nat} {ds : List StD} (h : SlSt w B (.slice a n c) ds) (i : Nat) (hi : i < ds.length) : ∃ b off, a = some ⟨b, off, none⟩ ∧ b < B ∧ b < w.heap.size ∧ StepAt w b (off + i * 4) ds[i] := by
  rcases h with ⟨rfl, _⟩ | ⟨b, off, cap, h1, h2, h3, h4⟩
  · simp at hi
  · simp only [Value.slice.injEq] at h1
    exact ⟨b, off, h1.1, h2, h3, h4 i hi⟩

def actsR (es : List Ev) (ds : List StD) : List Ev := ds.foldl actR es

theorem actsR_snoc (es : List Ev) (ds : List StD) (k : Nat) (hk : k < ds.length) : actsR es (ds.take (k + 1)) = actR (actsR es (ds.take k)) ds[k] := by
  unfold actsR
  rw [List.take_succ_eq_append_getElem hk, List.foldl_append]
  rfl

def AsLoop (w : World) (b : Nat) (es : List Ev) (ds : List StD) (k : Nat) (wr : World) : Prop := StP w b (actsR es (ds.take k)) wr

set_option maxRecDepth 100000 in
set_option maxHeartbeats 2000000 in
theorem acts_any (b B : Nat) (v : Value) (m : Nat) (ds : List StD) (es : List Ev) (w : World) (h : StC w b es) (hs : SlSt w B v ds) (hB : B ≤ b) (hok : ∀ d ∈ ds, d.Ok) (hmax : ds.length ≤ 9223372036854775807) :
    Calls Try.prog 10 #[.pointer (some ⟨b, 0, none⟩), v, .int .i64 (m : Int)] w (ActPost w b (actsR es (ds.take m))) := by
  obtain ⟨a, c, rfl⟩ := hs.form
  have HS := hidIt hs
  have HOK := hidIt hok
  have H0 : Hid (AsLoop w b es ds 0 w) := ⟨by rw [List.take_zero]; exact h, FrB.refl _ _⟩
  clear hs hok h
  go_enter Try.func10, Try.ntmps10
  go_wp2_with fail
  go_loopw [6] (fun i wr => ∃ k : Nat, k ≤ ds.length ∧ k ≤ m ∧ i = .int .i64 k ∧ AsLoop w b es ds k wr) (fun i _ => ds.length - (intOf i).toNat)
  case atStart => exact ⟨0, by omega, by omega, rfl, H0.out⟩
  case round =>
    clear H0
    obtain ⟨k, hk, hkm, rfl, hst⟩ := hrel
    by_cases hlt : k < ds.length
    · have hlt' : (k : Int) < (ds.length : Int) := by omega
      have hk0 : (0 : Int) ≤ (k : Int) := by omega
      by_cases hlm : k < m
      · have hlm' : (k : Int) < (m : Int) := by omega
        have hsr := HS.out.stay hst.2.below.size (fun q hq hq' => hst.2.rest q hq' (by omega))
        obtain ⟨sb, off, rfl, hsB, hsw, g0, g1, g2, g3⟩ := hsr.at_ k hlt
        have hd := HOK.out ds[k] (List.getElem_mem _)
        have HN := hidIt (actsR_snoc es ds k hlt)
        obtain ⟨d, hdd⟩ : ∃ d, ds[k] = d := ⟨_, rfl⟩
        rw [hdd] at g0 g1 g2 g3 hd HN
        have HA := hidIt (act_any b d _ wr hst.1 hd)
        have HST := hidIt hst
        clear hst hdd hsr
        go_wp2_with fail
        refine HA.out.mono ?_
        rintro r w2 ⟨rfl, h2⟩
        have HR : Hid (AsLoop w b es ds (k + 1) w2) := by show StP _ _ _ _; rw [HN.out]; exact StP.go HST.out.2 h2
        clear h2
        go_wp2_with fail
        go_roundw
        case rel => exact ⟨k + 1, by omega, by omega, by go_num, HR.out⟩
        case measure => simp [intOf]; omega
      · have hlm' : ¬ (k : Int) < (m : Int) := by omega
        have hke : k = m := by omega
        subst hke
        go_wp2_with fail
        go_end0
        exact ⟨rfl, hst⟩
    · have hlt' : ¬ (k : Int) < (ds.length : Int) := by omega
      have hke : k = ds.length := by omega
      subst hke
      have HR : Hid (StP w b (actsR es (ds.take m)) wr) := by
        have := hst
        unfold AsLoop at this
        rw [List.take_of_length_le (Nat.le_refl _)] at this
        show StP _ _ _ _
        rw [List.take_of_length_le hkm]
        exact this
      go_wp2_with fail
      go_end0
      exact ⟨rfl, HR.out⟩

end Go.Proofs.Ytfdalbmopaemgab
