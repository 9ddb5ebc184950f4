import Derived.Test.YtfdalbmopaemgabZV7
namespace Go.Proofs.Ytfdalbmopaemgab
open Go.RowKit

/-- A store in the block b that has written down es. -/
def StC (w : World) (b : Nat) (es : List Ev) : Prop := ∃ T W O, QInv es T W O ∧ StAt w b T O es ∧ es.length ≤ 60

def StP (w : World) (b : Nat) (es' : List Ev) (w' : World) : Prop := StC w' b es' ∧ FrB w w' b

theorem StC.lt {w : World} {b : Nat} {es : List Ev} (h : StC w b es) : b < w.heap.size := by
  obtain ⟨T, W, O, q, h, _⟩ := h
  exact h.tr.lt

theorem StC.of_heap {w w' : World} {b : Nat} {es : List Ev} (h : StC w b es) (hh : w'.heap[b]? = w.heap[b]?) (hz : w.heap.size ≤ w'.heap.size) : StC w' b es := by
  obtain ⟨T, W, O, q, h, hl⟩ := h
  exact ⟨T, W, O, q, h.of_heap hh hz, hl⟩

theorem StC.drewN {w : World} {b : Nat} {es : List Ev} (h : StC w b es) (n : Nat) : StC (w.drewN n) b es := h.of_heap rfl (Nat.le_refl _)

theorem RInv.access_fine {es : List Ev} {T : Tr} {W : Nat → List Nat} (r : RInv es T W) (k : Int) (t x : Nat) (v : Int) (hk : k = 2 ∨ k = 3 ∨ k = 4) (h : accessR es k (t : Int) (x : Int) v = (es ++ [accEv es k (t : Int) (x : Int) v], accN es k (t : Int) (x : Int) v, 0)) : RInv (es ++ [accEv es k (t : Int) (x : Int) v]) T (upd W t (W t ++ [es.length])) := by
  rcases r.access_or k t x v hk with h1 | ⟨_, _, h3⟩
  · rw [h] at h1
    have := congrArg List.length h1
    simp at this
  · exact h3

theorem QInv.strangers {es : List Ev} {T : Tr} {W : Nat → List Nat} {O : Nat → Ob} (q : QInv es T W O) (k : Int) (t x : Nat) (hk : k ≠ 2) (ho : openL es (t : Int) = true) (hst : strangerL es (t : Int) (othersL es k (x : Int)) = false) : ∀ c, c ≠ 0 → Live T c → (holdersL es (x : Int)).2.testBit c = true → c ∈ pth T.par t := fun c hc hcl hb => by
  have j := q.r.s.jj
  have htn := live_le j (live_of_open j ho).1
  have hcr := live15 hcl
  have := stranger_none hst c (by omega) hcr (by unfold othersL; rw [if_neg hk, Nat.testBit_or, hb]; rfl)
  rw [within_pth j c t htn] at this
  simpa using this

theorem tup2 {k k' : IntKind} {a b c d : Int} (h : a = b) (h' : c = d) : Ending.returned (.tuple #[.int k a, .int k' c]) = .returned (.tuple #[.int k b, .int k' d]) := by rw [h, h']

set_option maxRecDepth 100000 in
set_option maxHeartbeats 2000000 in
theorem sread_any (b t x : Nat) (es : List Ev) (w : World) (h : StC w b es) (ht : t ≤ 255) (hx : x ≤ 255) :
    Calls Try.prog 27 #[.pointer (some ⟨b, 0, none⟩), .int .u8 (t : Int), .int .u8 (x : Int)] w fun r w' => r = .returned (.tuple #[.int .i32 (accessR es 2 (t : Int) (x : Int) 0).2.1, .int .i64 (accessR es 2 (t : Int) (x : Int) 0).2.2]) ∧ StP w b (accessR es 2 (t : Int) (x : Int) 0).1 w' := by
  have HS := hidIt h
  obtain ⟨T, W, O, q, h, hlen⟩ := h
  have HA := hidIt (accessFault_any b t x false 2 (by simp) T W O es w q h ht hx)
  by_cases hf : whyL es 2 (t : Int) (x : Int) = 0
  · rw [hf] at HA
    obtain ⟨hR, ho, hx4, hst, hl⟩ := accessR_fine es 2 (t : Int) (x : Int) 0 hf
    have hr := q.r.access_fine 2 t x 0 (Or.inl rfl) hR
    have hev : accEv es 2 (t : Int) (x : Int) 0 = ⟨2, (t : Int), (x : Int), 0, isL es (t : Int) (x : Int)⟩ := by unfold accEv; rw [if_pos rfl, if_neg (by decide)]
    have hx4' : x < 4 := by omega
    have ht15 := open15 q.r.s.jj ho
    have HV := hidIt (valueFor_any b t x T W O es w q h ho hx4')
    have HH := hidIt (holdRead_any b (33 + x * 18) t (O x) w (h.ob x hx4') h.tr.fz ht15.2 (q.lt16 x hx4').1)
    have HQ := hidIt (q.read (accEv es 2 (t : Int) (x : Int) 0) t x hx4' rfl rfl ho hr)
    rw [hev] at HQ
    have HST := hidIt h
    have HR := hidIt hR
    rw [hev] at HR
    have hn : Hid (accN es 2 (t : Int) (x : Int) 0 = isL es (t : Int) (x : Int)) := by show _ = _; unfold accN; rw [if_pos rfl]
    clear q h hf ho hst hr hev hR
    go_enter Try.func27, Try.ntmps27
    go_wp2_with fail
    refine HA.out.mono ?_
    rintro r w1 ⟨rfl, rfl⟩
    go_wp2_with fail
    refine HV.out.mono ?_
    rintro r w1 ⟨rfl, rfl⟩
    go_wp2_with fail
    refine HH.out.mono ?_
    rintro r w2 ⟨rfl, hob, hon⟩
    have HW := hidIt (writeDown_any b T (upd O x ⟨(O x).rd ||| bitN t, (O x).wr, (O x).own⟩) es ⟨2, (t : Int), (x : Int), 0, isL es (t : Int) (x : Int)⟩ w2 (HST.out.setOb x hx4' _ hob hon) hl)
    have HON := hidIt hon
    clear hob hon
    go_wp2_with fail
    refine HW.out.mono ?_
    rintro r w3 ⟨rfl, hs3, hf3⟩
    have HR3 := hidIt (And.intro hs3 hf3)
    clear hs3 hf3
    go_wp2_with fail
    go_ret2
    exact ⟨by rw [HR.out, hn.out]; rfl, by rw [HR.out]; exact ⟨⟨T, _, _, HQ.out, HR3.out.1, by simp; omega⟩, HON.out.toB.fr.trans HR3.out.2⟩⟩
  · have hR := hidIt (accessR_fault es 2 (t : Int) (x : Int) 0 hf)
    have hf' : (whyL es 2 (t : Int) (x : Int) != 0) = true := by simpa using hf
    generalize whyL es 2 (t : Int) (x : Int) = z at HA hR hf'
    clear q h hf
    go_enter Try.func27, Try.ntmps27
    go_wp2_with fail
    refine HA.out.mono ?_
    rintro r w1 ⟨rfl, rfl⟩
    go_wp2_with fail
    go_ret2
    exact ⟨by rw [hR.out]; rfl, by rw [hR.out]; exact ⟨HS.out, FrB.refl _ _⟩⟩

set_option maxRecDepth 100000 in
set_option maxHeartbeats 2000000 in
theorem swrite_any (b t x : Nat) (v : Int) (es : List Ev) (w : World) (h : StC w b es) (ht : t ≤ 255) (hx : x ≤ 255) :
    Calls Try.prog 28 #[.pointer (some ⟨b, 0, none⟩), .int .u8 (t : Int), .int .u8 (x : Int), .int .i32 v] w fun r w' => r = .returned (.int .i64 (accessR es 3 (t : Int) (x : Int) v).2.2) ∧ StP w b (accessR es 3 (t : Int) (x : Int) v).1 w' := by
  have HS := hidIt h
  obtain ⟨T, W, O, q, h, hlen⟩ := h
  have HA := hidIt (accessFault_any b t x true 3 (by simp) T W O es w q h ht hx)
  by_cases hf : whyL es 3 (t : Int) (x : Int) = 0
  · rw [hf] at HA
    obtain ⟨hR, ho, hx4, hst, hl⟩ := accessR_fine es 3 (t : Int) (x : Int) v hf
    have hr := q.r.access_fine 3 t x v (Or.inr (Or.inl rfl)) hR
    have hev : accEv es 3 (t : Int) (x : Int) v = ⟨3, (t : Int), (x : Int), v, 0⟩ := by unfold accEv; rw [if_neg (by decide), if_pos rfl]
    have hx4' : x < 4 := by omega
    have ht15 := open15 q.r.s.jj ho
    have HH := hidIt (write_any b (33 + x * 18) t v (O x) w (h.ob x hx4') h.tr.fz ht15.2 (q.lt16 x hx4').2)
    have HQ := hidIt (q.write (accEv es 3 (t : Int) (x : Int) v) t x hx4' (Or.inl rfl) rfl ho (q.strangers 3 t x (by decide) ho hst) hr)
    rw [hev] at HQ
    have hb : becL ⟨3, (t : Int), (x : Int), v, 0⟩ = v := by unfold becL; rw [if_pos rfl]
    rw [hb] at HQ
    have HST := hidIt h
    have HR := hidIt hR
    rw [hev] at HR
    clear q h hf ho hst hr hev hR hb
    go_enter Try.func28, Try.ntmps28
    go_wp2_with fail
    refine HA.out.mono ?_
    rintro r w1 ⟨rfl, rfl⟩
    go_wp2_with fail
    refine HH.out.mono ?_
    rintro r w2 ⟨rfl, hob, hon⟩
    have HW := hidIt (writeDown_any b T (upd O x ⟨(O x).rd, (O x).wr ||| bitN t, upd (O x).own t v⟩) es ⟨3, (t : Int), (x : Int), v, 0⟩ w2 (HST.out.setOb x hx4' _ hob hon) hl)
    have HON := hidIt hon
    clear hob hon
    go_wp2_with fail
    refine HW.out.mono ?_
    rintro r w3 ⟨rfl, hs3, hf3⟩
    have HR3 := hidIt (And.intro hs3 hf3)
    clear hs3 hf3
    go_wp2_with fail
    go_ret
    exact ⟨by rw [HR.out]; rfl, by rw [HR.out]; exact ⟨⟨T, _, _, HQ.out, HR3.out.1, by simp; omega⟩, HON.out.toB.fr.trans HR3.out.2⟩⟩
  · have hR := hidIt (accessR_fault es 3 (t : Int) (x : Int) v hf)
    have hf' : (whyL es 3 (t : Int) (x : Int) != 0) = true := by simpa using hf
    generalize whyL es 3 (t : Int) (x : Int) = z at HA hR hf'
    clear q h hf
    go_enter Try.func28, Try.ntmps28
    go_wp2_with fail
    refine HA.out.mono ?_
    rintro r w1 ⟨rfl, rfl⟩
    go_wp2_with fail
    go_ret
    exact ⟨by rw [hR.out]; rfl, by rw [hR.out]; exact ⟨HS.out, FrB.refl _ _⟩⟩

set_option maxRecDepth 100000 in
set_option maxHeartbeats 2000000 in
theorem sadd_any (b t x : Nat) (v : Int) (es : List Ev) (w : World) (h : StC w b es) (ht : t ≤ 255) (hx : x ≤ 255) :
    Calls Try.prog 29 #[.pointer (some ⟨b, 0, none⟩), .int .u8 (t : Int), .int .u8 (x : Int), .int .i32 v] w fun r w' => r = .returned (.tuple #[.int .i32 (accessR es 4 (t : Int) (x : Int) v).2.1, .int .i64 (accessR es 4 (t : Int) (x : Int) v).2.2]) ∧ StP w b (accessR es 4 (t : Int) (x : Int) v).1 w' := by
  have HS := hidIt h
  obtain ⟨T, W, O, q, h, hlen⟩ := h
  have HA := hidIt (accessFault_any b t x true 4 (by simp) T W O es w q h ht hx)
  by_cases hf : whyL es 4 (t : Int) (x : Int) = 0
  · rw [hf] at HA
    obtain ⟨hR, ho, hx4, hst, hl⟩ := accessR_fine es 4 (t : Int) (x : Int) v hf
    have hr := q.r.access_fine 4 t x v (Or.inr (Or.inr rfl)) hR
    have hev : accEv es 4 (t : Int) (x : Int) v = ⟨4, (t : Int), (x : Int), v, isL es (t : Int) (x : Int)⟩ := by unfold accEv; rw [if_neg (by decide), if_neg (by decide)]
    have hx4' : x < 4 := by omega
    have ht15 := open15 q.r.s.jj ho
    have HV := hidIt (valueFor_any b t x T W O es w q h ho hx4')
    have HH := hidIt (write_any b (33 + x * 18) t (wrap32 (isL es (t : Int) (x : Int) + v)) (O x) w (h.ob x hx4') h.tr.fz ht15.2 (q.lt16 x hx4').2)
    have HQ := hidIt (q.write (accEv es 4 (t : Int) (x : Int) v) t x hx4' (Or.inr rfl) rfl ho (q.strangers 4 t x (by decide) ho hst) hr)
    rw [hev] at HQ
    have hb : becL ⟨4, (t : Int), (x : Int), v, isL es (t : Int) (x : Int)⟩ = wrap32 (isL es (t : Int) (x : Int) + v) := by unfold becL; rw [if_neg (show ¬ (4 : Int) = 3 by decide), if_pos rfl]
    rw [hb] at HQ
    have HST := hidIt h
    have HR := hidIt hR
    rw [hev] at HR
    have hn : Hid (accN es 4 (t : Int) (x : Int) v = wrap32 (isL es (t : Int) (x : Int) + v)) := by show _ = _; unfold accN; rw [if_neg (by decide), if_neg (by decide)]
    clear q h hf ho hst hr hev hR hb
    generalize isL es (t : Int) (x : Int) = seen at HV HH HQ HR hn
    go_enter Try.func29, Try.ntmps29
    go_wp2_with fail
    refine HA.out.mono ?_
    rintro r w1 ⟨rfl, rfl⟩
    go_wp2_with fail
    refine HV.out.mono ?_
    rintro r w1 ⟨rfl, rfl⟩
    go_wp2_with fail
    refine HH.out.mono ?_
    rintro r w2 ⟨rfl, hob, hon⟩
    have HW := hidIt (writeDown_any b T (upd O x ⟨(O x).rd, (O x).wr ||| bitN t, upd (O x).own t (wrap32 (seen + v))⟩) es ⟨4, (t : Int), (x : Int), v, seen⟩ w2 (HST.out.setOb x hx4' _ hob hon) hl)
    have HON := hidIt hon
    clear hob hon
    go_wp2_with fail
    refine HW.out.mono ?_
    rintro r w3 ⟨rfl, hs3, hf3⟩
    have HR3 := hidIt (And.intro hs3 hf3)
    clear hs3 hf3
    go_wp2_with fail
    go_ret2
    exact ⟨by rw [HR.out, hn.out]; rfl, by rw [HR.out]; exact ⟨⟨T, _, _, HQ.out, HR3.out.1, by simp; omega⟩, HON.out.toB.fr.trans HR3.out.2⟩⟩
  · have hR := hidIt (accessR_fault es 4 (t : Int) (x : Int) v hf)
    have hf' : (whyL es 4 (t : Int) (x : Int) != 0) = true := by simpa using hf
    generalize whyL es 4 (t : Int) (x : Int) = z at HA hR hf'
    clear q h hf
    go_enter Try.func29, Try.ntmps29
    go_wp2_with fail
    refine HA.out.mono ?_
    rintro r w1 ⟨rfl, rfl⟩
    go_wp2_with fail
    go_ret2
    exact ⟨by rw [hR.out]; rfl, by rw [hR.out]; exact ⟨HS.out, FrB.refl _ _⟩⟩

end Go.Proofs.Ytfdalbmopaemgab
