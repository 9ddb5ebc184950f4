import Derived.Test.YtfdalbmopaemgaaGreatDoorZU5
namespace Go.Proofs.YtfdalbmopaemgaaGreatDoor
open Go.RowKit

/-- What is asked of New. -/
def StNew (St : World → (Nat → Prop) → Value → List Ev → Prop) : Prop := ∀ w, Calls Tryz.prog 22 #[] w fun r w' => ∃ b F, r = .returned (.pointer (some ⟨b, 0, none⟩)) ∧ St w' F (.pointer (some ⟨b, 0, none⟩)) [] ∧ (∀ k, F k → w.heap.size ≤ k) ∧ Below w.heap.size w w'

/-- One player more: behind the append to the players and the store of them. -/
theorem GInv.push {St : World → (Nat → Prop) → Value → List Ev → Prop} (I : StOk St) {w w' : World} {B wb : Nat} {hv pv pv' : Value} {hs : List (Value × Int)} {ds : List PlD} (h : GInv St w B wb hv hs pv ds) (d : PlD) (hd : Pl St w B d.pb d.F d.sp d.hv d.es)
    (hsep : ∀ k, d.own k → k ≠ wb ∧ hv.ownBlock ≠ some k ∧ pv.ownBlock ≠ some k ∧ ∀ x ∈ hs, x.1.ownBlock ≠ some k) (htwo : ∀ i (hi : i < ds.length), ∀ k, d.own k → ¬ ds[i].own k)
    (ho : w'.ownsRow B 35 1 pv' (ds.length + 1) (ptrs ds ++ [.pointer (some ⟨d.pb, 0, none⟩)])) (ha : AppPost w w' pv pv') :
    GInv St (w'.setCell ⟨wb, 0, none⟩ pv') B wb hv hs pv' (ds ++ [d]) := by
  have hsz : w.heap.size ≤ w'.heap.size := by rcases ha with ⟨g, _, _, hg⟩ | ⟨g, _, _, hg⟩ <;> exact hg.size
  have hblk : ∀ k, k < w.heap.size → pv.ownBlock ≠ some k → w'.heap[k]? = w.heap[k]? := fun k hk hn => by
    rcases ha with ⟨g, e1, _, hg⟩ | ⟨g, _, _, hg⟩
    · exact hg.block k hk (fun e => hn (by rw [e1, e]))
    · exact hg.block k hk (by intro e; cases e)
  have hset : ∀ k, k ≠ wb → (w'.setCell ⟨wb, 0, none⟩ pv').heap[k]? = w'.heap[k]? := fun k hk => Below.heap_setCell _ ⟨wb, 0, none⟩ _ _ hk
  have hall : ∀ k, k < w.heap.size → pv.ownBlock ≠ some k → k ≠ wb → (w'.setCell ⟨wb, 0, none⟩ pv').heap[k]? = w.heap[k]? := fun k hk hn hkw => (hset k hkw).trans (hblk k hk hn)
  have hown' : ∀ g, pv'.ownBlock = some g → pv.ownBlock = some g ∨ w.heap.size ≤ g := fun g hg => by
    rcases ha with ⟨g', e1, e2, _⟩ | ⟨g', e2, e3, _⟩
    · rw [e2] at hg; cases hg; exact Or.inl e1
    · rw [e2] at hg; cases hg; exact Or.inr e3
  have hwb' : w'.heap[wb]? = w.heap[wb]? := hblk wb h.inv.wb_lt h.pfar
  have hpfar : pv'.ownBlock ≠ some wb := fun e => by
    rcases hown' wb e with q | q
    · exact h.pfar q
    · have := h.inv.wb_lt; omega
  have hsz2 : (w'.setCell ⟨wb, 0, none⟩ pv').heap.size = w'.heap.size := by simp
  have hne : ∀ k, pv.ownBlock ≠ some k → k < w.heap.size → pv'.ownBlock ≠ some k := fun k h1 h2 e => by
    rcases hown' k e with q | q
    · exact h1 q
    · omega
  have hgetl : ∀ i (hi : i < (ds ++ [d]).length), (∃ hi' : i < ds.length, (ds ++ [d])[i] = ds[i]) ∨ (i = ds.length ∧ (ds ++ [d])[i] = d) := fun i hi => by
    by_cases e : i < ds.length
    · exact Or.inl ⟨e, List.getElem_append_left e⟩
    · have : i = ds.length := by simp at hi; omega
      subst this
      exact Or.inr ⟨rfl, by simp⟩
  refine ⟨⟨?_, ?_, ?_, h.inv.far, h.inv.base, fun x hx => ?_⟩, ?_, ?_, ?_, hpfar, fun g hg => ?_, fun x hx g hg => ?_, fun i hi => ?_, fun i hi k hk => ?_, fun i j hi hj hij k hk hk' => ?_⟩
  · rw [World.cell?_setCell_other _ _ _ _ (by intro e; injection e with _ e2 _; cases e2), World.cell?_of_block (a := ⟨wb, 1, none⟩) hwb']
    exact h.inv.cell
  · rw [World.frozen?_setCell, World.frozen?_of_block (a := ⟨wb, 1, none⟩) hwb']; exact h.inv.froz
  · exact ownsRow_of_heap h.inv.row fun g hg => hall g (h.inv.hv_lt g hg).2 (fun e => h.pap g e hg) (fun e => h.inv.far (by rw [← e]; exact hg))
  · exact (h.inv.each x hx).stay (by rw [hsz2]; exact hsz) fun g hg => hall g ((h.inv.each x hx).lt g hg).2 (h.pho x hx g hg) (fun e => (h.inv.each x hx).far (by rw [← e]; exact hg))
  · exact World.cell?_setCell_same _ _ _ (u := pv) (by rw [World.cell?_of_block (a := ⟨wb, 0, none⟩) hwb']; exact h.pcell)
  · rw [World.frozen?_setCell, World.frozen?_of_block (a := ⟨wb, 0, none⟩) hwb']; exact h.pfz
  · have hp : ptrs (ds ++ [d]) = ptrs ds ++ [.pointer (some ⟨d.pb, 0, none⟩)] := by simp [ptrs]
    rw [hp, List.length_append]
    exact ownsRow_of_heap ho fun g hg => hset g (fun e => hpfar (by rw [← e]; exact hg))
  · intro e
    rcases hown' g hg with q | q
    · exact h.pap g q e
    · have := (h.inv.hv_lt g e).2; omega
  · exact hne g (h.pho x hx g hg) ((h.inv.each x hx).lt g hg).2
  · rcases hgetl i hi with ⟨hi', e⟩ | ⟨_, e⟩
    · rw [e]
      exact (h.each i hi').same I (by rw [hsz2]; exact hsz) fun k hk => hall k (PlD.own_lt I (h.each i hi') hk) (h.sep i hi' k hk).2.2.1 (h.sep i hi' k hk).1
    · rw [e]
      exact hd.same I (by rw [hsz2]; exact hsz) fun k hk => hall k (PlD.own_lt I hd hk) (hsep k hk).2.2.1 (hsep k hk).1
  · rcases hgetl i hi with ⟨hi', e⟩ | ⟨_, e⟩
    · rw [e] at hk
      have q := h.sep i hi' k hk
      exact ⟨q.1, q.2.1, hne k q.2.2.1 (PlD.own_lt I (h.each i hi') hk), q.2.2.2⟩
    · rw [e] at hk
      have q := hsep k hk
      exact ⟨q.1, q.2.1, hne k q.2.2.1 (PlD.own_lt I hd hk), q.2.2.2⟩
  · rcases hgetl i hi with ⟨hi', e⟩ | ⟨ei, e⟩
    · rw [e] at hk
      rcases hgetl j hj with ⟨hj', e'⟩ | ⟨_, e'⟩
      · rw [e'] at hk'
        exact h.two i j hi' hj' hij k hk hk'
      · rw [e'] at hk'
        exact htwo i hi' k hk' hk
    · rw [e] at hk
      rcases hgetl j hj with ⟨hj', e'⟩ | ⟨ej, _⟩
      · rw [e'] at hk'
        exact htwo j hj' k hk hk'
      · omega

theorem Tryz.infoPtr : (Tryz.prog.info? 35).map (fun i => (i.zero, i.size, i.bytes)) = some (some (.pointer none), 1, 8) := by kernel_rfl

theorem ptr_new (w : World) (T : TypeId) (b : Nat) : ∀ j u, ([.pointer (some ⟨b, 0, none⟩)] : List Value)[j]? = some u → (w.alloc (.cells #[.pointer (some ⟨b, 0, none⟩)] T)).cell? ((⟨w.heap.size, 0, none⟩ : Addr).add j) = some u := by
  intro j u hj
  cases j with
  | zero => simp at hj; subst hj; simp [go_sem, Addr.add]
  | succ j => simp at hj

def NewPost (St : World → (Nat → Prop) → Value → List Ev → Prop) (w : World) (B wb : Nat) (hv : Value) (hs : List (Value × Int)) (n : Nat) (r : Ending) (w' : World) : Prop :=
  r = .returned (.bool true) ∧ ∃ pv' ds', GInv St w' B wb hv hs pv' ds' ∧ ds'.length = n + 1 ∧ Below B w w'

set_option maxRecDepth 100000 in
set_option maxHeartbeats 4000000 in
theorem created_any {St : World → (Nat → Prop) → Value → List Ev → Prop} (I : StOk St) (N : StNew St) (B wb : Nat) (hv : Value) (hs : List (Value × Int)) (pv : Value) (ds : List PlD) (w : World) (h : GInv St w B wb hv hs pv ds) (hn : ds.length ≤ 1048576) :
    Calls Tryz.prog 13 #[.pointer (some ⟨wb, 0, none⟩)] w (NewPost St w B wb hv hs ds.length) := by
  have HG := hidIt h
  have hBw : B ≤ w.heap.size := Nat.le_trans h.inv.base (Nat.le_of_lt h.inv.wb_lt)
  have hwl := h.inv.wb_lt
  obtain ⟨pa, pc, hpf⟩ := ownsRow_form h.prow
  have HPF := hidIt hpf
  obtain ⟨i0, hi, hz0, hz1, hz2⟩ := info_parts Tryz.infoPtr
  have HI := hidIt hi
  have HZ0 := hidIt hz0
  have HZ1 := hidIt hz1
  have HZ2 := hidIt hz2
  clear hi hz0 hz1 hz2 h hpf
  go_enter Tryz.func13, Tryz.ntmps13
  go_wp2_with fail
  refine (N w).mono ?_
  rintro r w2 ⟨sb, F, rfl, hst, hF, hb2⟩
  have hg2 := HG.out.below I hb2
  have c0 := hg2.pcell
  rw [HPF.out] at c0
  have f0 := hg2.pfz
  have hw2 : w.heap.size ≤ w2.heap.size := hb2.size
  have hwb2 : wb < w2.heap.size := by omega
  have HG2 := hidIt hg2
  have HST := hidIt hst
  have HFF := hidIt hF
  clear hg2 hst hF
  go_wp2_with (at_builtin; refine wpList_append_two _ rfl _ _ 27 rfl B 35 i0 (.pointer none) 1 8 Tryz.underlying27 HI.out HZ0.out HZ1.out HZ2.out rfl (by decide) pv ds.length (ptrs ds) HPF.out.symm ((HG2.out.below I ((Below.refl _ _).alloc (Nat.le_refl _) (.cells #[.pointer (some ⟨sb, 0, none⟩), .slice none 0 0] 46))).below I ((Below.refl _ _).alloc (Nat.le_refl _) _)).prow ⟨w2.heap.size + 1, 0, none⟩ 1 1 [.pointer (some ⟨w2.heap.size, 0, none⟩)] rfl rfl ?c1 ?c2 (by decide) ?c3 ?c4 ?c5 ?_)
  case c1 =>
    have h7 := ptr_new (w2.alloc (.cells #[.pointer (some ⟨sb, 0, none⟩), .slice none 0 0] 46)) 35 w2.heap.size
    rwa [World.size_alloc] at h7
  case c2 =>
    intro u hu
    rw [List.mem_singleton] at hu
    subst hu
    rfl
  case c3 => unfold maxLen; omega
  case c4 => omega
  case c5 => simp; omega
  intro pv' w4 hown4 happ4
  have hb3a : Below w2.heap.size w2 (w2.alloc (.cells #[.pointer (some ⟨sb, 0, none⟩), .slice none 0 0] 46)) := (Below.refl _ _).alloc (Nat.le_refl _) _
  have hb3 : Below w2.heap.size w2 ((w2.alloc (.cells #[.pointer (some ⟨sb, 0, none⟩), .slice none 0 0] 46)).alloc (.cells #[.pointer (some ⟨w2.heap.size, 0, none⟩)] 35)) := hb3a.alloc (by simp) _
  have hg3 := HG2.out.below I hb3
  have hlt := I.lt HST.out
  have hpb : ((w2.alloc (.cells #[.pointer (some ⟨sb, 0, none⟩), .slice none 0 0] 46)).alloc (.cells #[.pointer (some ⟨w2.heap.size, 0, none⟩)] 35)).heap[w2.heap.size]? = (w2.alloc (.cells #[.pointer (some ⟨sb, 0, none⟩), .slice none 0 0] 46)).heap[w2.heap.size]? := ((Below.refl _ _).alloc (Nat.le_refl _) _).block _ (by simp)
  have hd : Pl St ((w2.alloc (.cells #[.pointer (some ⟨sb, 0, none⟩), .slice none 0 0] 46)).alloc (.cells #[.pointer (some ⟨w2.heap.size, 0, none⟩)] 35)) B w2.heap.size F (.pointer (some ⟨sb, 0, none⟩)) (.slice none 0 0) [] :=
    ⟨by rw [World.cell?_of_block (a := ⟨w2.heap.size, 0, none⟩) hpb]; simp [go_sem], by rw [World.cell?_of_block (a := ⟨w2.heap.size, 1, none⟩) hpb]; simp [go_sem], by rw [World.frozen?_of_block (a := ⟨w2.heap.size, 1, none⟩) hpb]; simp [go_sem],
     I.frame _ HST.out (fun k hk => hb3.block k (hlt k hk)) hb3.size, ⟨Own.nil _ _, fun _ => rfl⟩, fun q => by have := hlt _ q; omega, fun g hg => by simp [Value.ownBlock] at hg, by simp [Value.ownBlock], by omega, fun k hk => by have := HFF.out k hk; omega⟩
  have hdo : ∀ k, PlD.own ⟨w2.heap.size, F, .pointer (some ⟨sb, 0, none⟩), .slice none 0 0, []⟩ k → w.heap.size ≤ k := fun k hk => by
    rcases hk with hk | hk | hk
    · simp only at hk; omega
    · exact HFF.out k hk
    · simp [Value.ownBlock] at hk
  have hpush := hg3.push I ⟨w2.heap.size, F, .pointer (some ⟨sb, 0, none⟩), .slice none 0 0, []⟩ hd
    (fun k hk => ⟨fun e => by have := hdo k hk; omega, fun e => by have := hdo k hk; have := (HG.out.inv.hv_lt k e).2; omega, fun e => by have := hdo k hk; have := (World.ownsRow.lt HG.out.prow k e).2; omega, fun x hx e => by have := hdo k hk; have := ((HG.out.inv.each x hx).lt k e).2; omega⟩)
    (fun i hi k hk q => by have := hdo k hk; have := PlD.own_lt I (HG.out.each i hi) q; omega) hown4 happ4
  have hwb4 : w4.heap[wb]? = ((w2.alloc (.cells #[.pointer (some ⟨sb, 0, none⟩), .slice none 0 0] 46)).alloc (.cells #[.pointer (some ⟨w2.heap.size, 0, none⟩)] 35)).heap[wb]? := by
    rcases happ4 with ⟨g, e1, _, hg⟩ | ⟨g, _, _, hg⟩
    · exact hg.block wb (by simp; omega) (fun e => HG2.out.pfar (by rw [e1, e]))
    · exact hg.block wb (by simp; omega) (by intro e; cases e)
  have k1 : w4.cell? ⟨wb, 0, none⟩ = some (.slice pa ds.length pc) := by rw [World.cell?_of_block (a := ⟨wb, 0, none⟩) hwb4, bcells hb3 _ _ hwb2]; exact c0
  have k2 : w4.frozen? ⟨wb, 0, none⟩ = false := by rw [World.frozen?_of_block (a := ⟨wb, 0, none⟩) hwb4]; exact hg3.pfz
  have hb4 := below_app ((hb2.mono hBw).trans (hb3.mono (Nat.le_trans hBw hw2))) happ4 (fun g hg => (World.ownsRow.lt HG2.out.prow g hg).1) (by simp; omega)
  obtain ⟨a4, c4, rfl⟩ := ownsRow_form hown4
  have HR := hidIt (And.intro hpush (hb4.setCell (p := ⟨wb, 0, none⟩) HG.out.inv.base (.slice a4 (ds.length + 1) c4)))
  clear hown4 happ4 hb3a hb3 hg3 hlt hpb hd hdo hpush hwb4 hb4
  go_wp2_with fail
  go_ret
  exact ⟨rfl, _, _, HR.out.1, by simp, HR.out.2⟩

end Go.Proofs.YtfdalbmopaemgaaGreatDoor
