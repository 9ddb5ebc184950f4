import Derived.Test.YtfdalbmopaemgabGreatDoorZU6
import Derived.Deep.RegionHeld3
namespace Go.Proofs.YtfdalbmopaemgabGreatDoor
open Go.RowKit

theorem HistOut.form {w w' : World} {va : Option Addr} {vn vc : Nat} {v' : Value} {es es' : List Ev} (h : HistOut w w' (.slice va vn vc) v' es es') : ∃ a n c, v' = .slice a n c := by
  rcases h with ⟨rfl, _⟩ | h
  · exact ⟨va, vn, vc, rfl⟩
  · obtain ⟨a, c, rfl⟩ := h.1.form
    exact ⟨a, _, c, rfl⟩

set_option maxRecDepth 100000 in
set_option maxHeartbeats 4000000 in
theorem acted_begin {St : World → (Nat → Prop) → Value → List Ev → Prop} (I : StOk St) (B pb : Nat) (F : Nat → Prop) (sp hv : Value) (es : List Ev) (on : Int) (ox ov : Int) (ot : Nat) (ha : Option Addr) (hl hc : Nat) (os : ByteArray) (w : World) (h : Pl St w B pb F sp hv es) (hot : ot ≤ 255) (hB : B ≤ w.heap.size) :
    Calls Tryz.prog 16 #[.pointer (some ⟨pb, 0, none⟩), opV ⟨6, on, (ot : Int), ox, ov, .slice ha hl hc, os⟩] w (PlPost St w B pb F sp hv) := by
  have HP := hidIt h
  have hbx : Below w.heap.size w (w.alloc (opC ⟨6, on, (ot : Int), ox, ov, .slice ha hl hc, os⟩)) := (Below.refl _ _).alloc (Nat.le_refl _) _
  have hp1 := h.below I hbx
  have hp2 : Pl St (w.alloc (opC ⟨6, on, (ot : Int), ox, ov, .slice ha hl hc, os⟩)).drew B pb F sp hv es := hp1.stay I (Nat.le_refl _) rfl (fun _ _ => rfl) (fun _ _ => rfl)
  obtain ⟨sb, hsb⟩ := I.form h.st
  obtain ⟨va, vc, hva⟩ := h.hist.1.form
  have c0 := h.c0
  have hlt := h.lt
  rw [hsb] at c0
  have HP2 := hidIt hp2
  have HCB := hidIt (I.begin_ ot hot hp2.st)
  rw [hsb] at HCB
  have HFN : Hid (¬ F w.heap.size) := fun q => by have := I.lt h.st _ q; omega
  have HLEN := hidIt (I.len h.st)
  have HLOW := hidIt (I.low h.st)
  have HVA := hidIt hva
  have HSB := hidIt hsb
  obtain ⟨⟨bl, bn, be⟩, hbr⟩ : ∃ y, beginR es (ot : Int) = y := ⟨_, rfl⟩
  have HBR := hidIt hbr
  rw [hbr] at HCB
  simp only at HCB
  clear h hp1 hp2 hsb hva hbr
  go_enter Tryz.func16, Tryz.ntmps16
  go_upto_region 3 with fail
  go_cut [5, 6] from 30 (fun s5 s6 wx => s5 = .int .u8 bn ∧ s6 = .int .i64 be ∧ ∃ F', Mid St (w.alloc (opC ⟨6, on, (ot : Int), ox, ov, .slice ha hl hc, os⟩)).drew B pb F sp hv es bl F' wx)
  case first =>
    have d9 : (w.alloc (opC ⟨6, on, (ot : Int), ox, ov, .slice ha hl hc, os⟩)).drew.cell? ⟨pb, 0, none⟩ = some (.pointer (some ⟨sb, 0, none⟩)) := by rw [← HSB.out]; exact HP2.out.c0
    have d2 : (w.alloc (opC ⟨6, on, (ot : Int), ox, ov, .slice ha hl hc, os⟩)).drew.cell? ⟨w.heap.size, 2, none⟩ = some (.int .u8 (ot : Int)) := by simp [go_sem]
    go_region_held3 (fun w' => w'.cell? ⟨pb, 0, none⟩ = some (.pointer (some ⟨sb, 0, none⟩)) ∧ w'.cell? ⟨w.heap.size, 2, none⟩ = some (.int .u8 (ot : Int))) (go_keep) (first | (go_at_call 35; refine HCB.out.mono ?_; rintro r w2 ⟨rfl, hact⟩; rw [← HSB.out] at hact; obtain ⟨F2, hm2⟩ := HP2.out.acts hact (by simp; omega); have k0 := hm2.c0; rw [HSB.out] at k0; have hblk2 := hm2.rest w.heap.size (by simp) HFN.out; have o2 : w2.cell? ⟨w.heap.size, 2, none⟩ = some (.int .u8 (ot : Int)) := (by rw [World.cell?_of_block (a := ⟨w.heap.size, 2, none⟩) hblk2]; simp [go_sem]); have HM := hidIt hm2; clear hact hm2 hblk2))
    all_goals (go_wp2_with fail; go_meet; exact ⟨rfl, rfl, F2, HM.out⟩)
  case rest =>
    obtain ⟨wd, hwd⟩ : ∃ x, x = wc := ⟨_, rfl⟩
    subst hwd
    obtain ⟨rfl, rfl, F', hm⟩ := hcut
    have c1 := hm.c1
    rw [HVA.out] at c1
    have hblk := hm.rest w.heap.size (by simp) HFN.out
    have o2 : wd.cell? ⟨w.heap.size, 2, none⟩ = some (.int .u8 (ot : Int)) := by rw [World.cell?_of_block (a := ⟨w.heap.size, 2, none⟩) hblk]; simp [go_sem]
    have hist1 : Hist wd.drew B hv es := hm.hist.below ⟨rfl, rfl, rfl, Nat.le_refl _, fun _ _ => rfl⟩
    have HCR := hidIt (refBegin hv es (ot : Int) B wd.drew hist1 (by have := HLEN.out; omega))
    rw [HVA.out] at HCR
    have hwl : w.heap.size < wd.heap.size := by have := hm.nx.size; simp at this; omega
    have hpl : pb < wd.heap.size := World.block_lt_of_cell? wd ⟨pb, 1, none⟩ hm.c1
    have HM := hidIt hm
    clear hm hblk hist1
    go_upto_region 4 with fail
    go_cut [5, 6, 7, 8, 9] from 30 (fun s5 s6 s7 s8 s9 wx => s5 = .int .u8 bn ∧ s6 = .int .i64 be ∧ s8 = .int .u8 bn ∧ s9 = .int .i64 be ∧ ∃ a n c, s7 = .slice a n c ∧ HistOut wd wx hv (.slice a n c) es bl ∧ Below wd.heap.size wd wx)
    case first =>
      go_region_held3 (fun w' => w'.cell? ⟨pb, 1, none⟩ = some (.slice va es.length vc) ∧ w'.cell? ⟨w.heap.size, 2, none⟩ = some (.int .u8 (ot : Int))) (go_keep) (first | (go_at_call 36; refine HCR.out.mono ?_; rintro r w3 ⟨hb3, v3, hr3, ho3⟩; rw [HBR.out] at hr3 ho3; simp only at hr3 ho3; obtain ⟨a3, n3, c3, rfl⟩ := ho3.form; subst hr3; have k1 : w3.cell? ⟨pb, 1, none⟩ = some (.slice va es.length vc) := (by rw [bcells hb3 _ _ hpl]; exact c1); have p2 : w3.cell? ⟨w.heap.size, 2, none⟩ = some (.int .u8 (ot : Int)) := (by rw [bcells hb3 _ _ hwl]; exact o2); have HO := hidIt ho3; have HB3 := hidIt hb3; clear ho3 hb3))
      all_goals (go_wp2_with fail; go_meet; exact ⟨rfl, rfl, rfl, rfl, a3, n3, c3, rfl, by rw [HVA.out]; exact HO.out, ⟨HB3.out.os, HB3.out.tape, HB3.out.output, HB3.out.size, HB3.out.block⟩⟩)
    case rest =>
      obtain ⟨rfl, rfl, rfl, rfl, a3, n3, c3, rfl, ho3, hb3⟩ := hcut
      have k1 : wc.cell? ⟨pb, 1, none⟩ = some (.slice va es.length vc) := by rw [bcells hb3 _ _ hpl]; exact c1
      have k2 : wc.frozen? ⟨pb, 1, none⟩ = false := by rw [World.frozen?_of_block (a := ⟨pb, 1, none⟩) (hb3.block pb hpl)]; exact HM.out.fz
      have HR := hidIt (HM.out.keep I HP.out (below_drewN hbx 1) hb3 ho3 (by simp; omega))
      clear ho3 hb3
      go_wp2_with fail
      go_ret
      exact ⟨ret_bool (by simp), HR.out⟩

set_option maxRecDepth 100000 in
set_option maxHeartbeats 4000000 in
theorem acted_commit {St : World → (Nat → Prop) → Value → List Ev → Prop} (I : StOk St) (B pb : Nat) (F : Nat → Prop) (sp hv : Value) (es : List Ev) (on : Int) (ox ov : Int) (ot : Nat) (ha : Option Addr) (hl hc : Nat) (os : ByteArray) (w : World) (h : Pl St w B pb F sp hv es) (hot : ot ≤ 255) (hB : B ≤ w.heap.size) :
    Calls Tryz.prog 16 #[.pointer (some ⟨pb, 0, none⟩), opV ⟨10, on, (ot : Int), ox, ov, .slice ha hl hc, os⟩] w (PlPost St w B pb F sp hv) := by
  have HP := hidIt h
  have hbx : Below w.heap.size w (w.alloc (opC ⟨10, on, (ot : Int), ox, ov, .slice ha hl hc, os⟩)) := (Below.refl _ _).alloc (Nat.le_refl _) _
  have hp1 := h.below I hbx
  have hp2 : Pl St (w.alloc (opC ⟨10, on, (ot : Int), ox, ov, .slice ha hl hc, os⟩)).drew B pb F sp hv es := hp1.stay I (Nat.le_refl _) rfl (fun _ _ => rfl) (fun _ _ => rfl)
  obtain ⟨sb, hsb⟩ := I.form h.st
  obtain ⟨va, vc, hva⟩ := h.hist.1.form
  have c0 := h.c0
  have hlt := h.lt
  rw [hsb] at c0
  have HP2 := hidIt hp2
  have HCB := hidIt (I.commit ot hot hp2.st)
  rw [hsb] at HCB
  have HFN : Hid (¬ F w.heap.size) := fun q => by have := I.lt h.st _ q; omega
  have HLEN := hidIt (I.len h.st)
  have HLOW := hidIt (I.low h.st)
  have HVA := hidIt hva
  have HSB := hidIt hsb
  obtain ⟨⟨bl, be⟩, hbr⟩ : ∃ y, endR es 5 (ot : Int) = y := ⟨_, rfl⟩
  have HBR := hidIt hbr
  rw [hbr] at HCB
  simp only at HCB
  clear h hp1 hp2 hsb hva hbr
  go_enter Tryz.func16, Tryz.ntmps16
  go_upto_region 23 with fail
  go_cut [24] from 30 (fun s24 wx => s24 = .int .i64 be ∧ ∃ F', Mid St (w.alloc (opC ⟨10, on, (ot : Int), ox, ov, .slice ha hl hc, os⟩)).drew B pb F sp hv es bl F' wx)
  case first =>
    have d9 : (w.alloc (opC ⟨10, on, (ot : Int), ox, ov, .slice ha hl hc, os⟩)).drew.cell? ⟨pb, 0, none⟩ = some (.pointer (some ⟨sb, 0, none⟩)) := by rw [← HSB.out]; exact HP2.out.c0
    have d2 : (w.alloc (opC ⟨10, on, (ot : Int), ox, ov, .slice ha hl hc, os⟩)).drew.cell? ⟨w.heap.size, 2, none⟩ = some (.int .u8 (ot : Int)) := by simp [go_sem]
    go_region_held3 (fun w' => w'.cell? ⟨pb, 0, none⟩ = some (.pointer (some ⟨sb, 0, none⟩)) ∧ w'.cell? ⟨w.heap.size, 2, none⟩ = some (.int .u8 (ot : Int))) (go_keep) (first | (go_at_call 41; refine HCB.out.mono ?_; rintro r w2 ⟨rfl, hact⟩; rw [← HSB.out] at hact; obtain ⟨F2, hm2⟩ := HP2.out.acts hact (by simp; omega); have k0 := hm2.c0; rw [HSB.out] at k0; have hblk2 := hm2.rest w.heap.size (by simp) HFN.out; have o2 : w2.cell? ⟨w.heap.size, 2, none⟩ = some (.int .u8 (ot : Int)) := (by rw [World.cell?_of_block (a := ⟨w.heap.size, 2, none⟩) hblk2]; simp [go_sem]); have HM := hidIt hm2; clear hact hm2 hblk2))
    all_goals (go_wp2_with fail; go_meet; exact ⟨rfl, F2, HM.out⟩)
  case rest =>
    obtain ⟨wd, hwd⟩ : ∃ x, x = wc := ⟨_, rfl⟩
    subst hwd
    obtain ⟨rfl, F', hm⟩ := hcut
    have c1 := hm.c1
    rw [HVA.out] at c1
    have hblk := hm.rest w.heap.size (by simp) HFN.out
    have o2 : wd.cell? ⟨w.heap.size, 2, none⟩ = some (.int .u8 (ot : Int)) := by rw [World.cell?_of_block (a := ⟨w.heap.size, 2, none⟩) hblk]; simp [go_sem]
    have hist1 : Hist wd.drew B hv es := hm.hist.below ⟨rfl, rfl, rfl, Nat.le_refl _, fun _ _ => rfl⟩
    have HCR := hidIt (refEnd hv es 5 (ot : Int) B wd.drew hist1 (by have := HLEN.out; omega))
    rw [HVA.out] at HCR
    have hwl : w.heap.size < wd.heap.size := by have := hm.nx.size; simp at this; omega
    have hpl : pb < wd.heap.size := World.block_lt_of_cell? wd ⟨pb, 1, none⟩ hm.c1
    have HM := hidIt hm
    clear hm hblk hist1
    go_upto_region 24 with fail
    go_cut [24, 25, 26] from 30 (fun s24 s25 s26 wx => s24 = .int .i64 be ∧ s26 = .int .i64 be ∧ ∃ a n c, s25 = .slice a n c ∧ HistOut wd wx hv (.slice a n c) es bl ∧ Below wd.heap.size wd wx)
    case first =>
      go_region_held3 (fun w' => w'.cell? ⟨pb, 1, none⟩ = some (.slice va es.length vc) ∧ w'.cell? ⟨w.heap.size, 2, none⟩ = some (.int .u8 (ot : Int))) (go_keep) (first | (go_at_call 42; refine HCR.out.mono ?_; rintro r w3 ⟨hb3, v3, hr3, ho3⟩; rw [HBR.out] at hr3 ho3; simp only at hr3 ho3; obtain ⟨a3, n3, c3, rfl⟩ := ho3.form; subst hr3; have k1 : w3.cell? ⟨pb, 1, none⟩ = some (.slice va es.length vc) := (by rw [bcells hb3 _ _ hpl]; exact c1); have p2 : w3.cell? ⟨w.heap.size, 2, none⟩ = some (.int .u8 (ot : Int)) := (by rw [bcells hb3 _ _ hwl]; exact o2); have HO := hidIt ho3; have HB3 := hidIt hb3; clear ho3 hb3))
      all_goals (go_wp2_with fail; go_meet; exact ⟨rfl, rfl, a3, n3, c3, rfl, by rw [HVA.out]; exact HO.out, ⟨HB3.out.os, HB3.out.tape, HB3.out.output, HB3.out.size, HB3.out.block⟩⟩)
    case rest =>
      obtain ⟨rfl, rfl, a3, n3, c3, rfl, ho3, hb3⟩ := hcut
      have k1 : wc.cell? ⟨pb, 1, none⟩ = some (.slice va es.length vc) := by rw [bcells hb3 _ _ hpl]; exact c1
      have k2 : wc.frozen? ⟨pb, 1, none⟩ = false := by rw [World.frozen?_of_block (a := ⟨pb, 1, none⟩) (hb3.block pb hpl)]; exact HM.out.fz
      have HR := hidIt (HM.out.keep I HP.out (below_drewN hbx 1) hb3 ho3 (by simp; omega))
      clear ho3 hb3
      go_wp2_with fail
      go_ret
      exact ⟨ret_bool (by simp), HR.out⟩

set_option maxRecDepth 100000 in
set_option maxHeartbeats 4000000 in
theorem acted_abort {St : World → (Nat → Prop) → Value → List Ev → Prop} (I : StOk St) (B pb : Nat) (F : Nat → Prop) (sp hv : Value) (es : List Ev) (on : Int) (ox ov : Int) (ot : Nat) (ha : Option Addr) (hl hc : Nat) (os : ByteArray) (w : World) (h : Pl St w B pb F sp hv es) (hot : ot ≤ 255) (hB : B ≤ w.heap.size) :
    Calls Tryz.prog 16 #[.pointer (some ⟨pb, 0, none⟩), opV ⟨11, on, (ot : Int), ox, ov, .slice ha hl hc, os⟩] w (PlPost St w B pb F sp hv) := by
  have HP := hidIt h
  have hbx : Below w.heap.size w (w.alloc (opC ⟨11, on, (ot : Int), ox, ov, .slice ha hl hc, os⟩)) := (Below.refl _ _).alloc (Nat.le_refl _) _
  have hp1 := h.below I hbx
  have hp2 : Pl St (w.alloc (opC ⟨11, on, (ot : Int), ox, ov, .slice ha hl hc, os⟩)).drew B pb F sp hv es := hp1.stay I (Nat.le_refl _) rfl (fun _ _ => rfl) (fun _ _ => rfl)
  obtain ⟨sb, hsb⟩ := I.form h.st
  obtain ⟨va, vc, hva⟩ := h.hist.1.form
  have c0 := h.c0
  have hlt := h.lt
  rw [hsb] at c0
  have HP2 := hidIt hp2
  have HCB := hidIt (I.abort ot hot hp2.st)
  rw [hsb] at HCB
  have HFN : Hid (¬ F w.heap.size) := fun q => by have := I.lt h.st _ q; omega
  have HLEN := hidIt (I.len h.st)
  have HLOW := hidIt (I.low h.st)
  have HVA := hidIt hva
  have HSB := hidIt hsb
  obtain ⟨⟨bl, be⟩, hbr⟩ : ∃ y, endR es 6 (ot : Int) = y := ⟨_, rfl⟩
  have HBR := hidIt hbr
  rw [hbr] at HCB
  simp only at HCB
  clear h hp1 hp2 hsb hva hbr
  go_enter Tryz.func16, Tryz.ntmps16
  go_upto_region 27 with fail
  go_cut [27] from 30 (fun s27 wx => s27 = .int .i64 be ∧ ∃ F', Mid St (w.alloc (opC ⟨11, on, (ot : Int), ox, ov, .slice ha hl hc, os⟩)).drew B pb F sp hv es bl F' wx)
  case first =>
    have d9 : (w.alloc (opC ⟨11, on, (ot : Int), ox, ov, .slice ha hl hc, os⟩)).drew.cell? ⟨pb, 0, none⟩ = some (.pointer (some ⟨sb, 0, none⟩)) := by rw [← HSB.out]; exact HP2.out.c0
    have d2 : (w.alloc (opC ⟨11, on, (ot : Int), ox, ov, .slice ha hl hc, os⟩)).drew.cell? ⟨w.heap.size, 2, none⟩ = some (.int .u8 (ot : Int)) := by simp [go_sem]
    go_region_held3 (fun w' => w'.cell? ⟨pb, 0, none⟩ = some (.pointer (some ⟨sb, 0, none⟩)) ∧ w'.cell? ⟨w.heap.size, 2, none⟩ = some (.int .u8 (ot : Int))) (go_keep) (first | (go_at_call 43; refine HCB.out.mono ?_; rintro r w2 ⟨rfl, hact⟩; rw [← HSB.out] at hact; obtain ⟨F2, hm2⟩ := HP2.out.acts hact (by simp; omega); have k0 := hm2.c0; rw [HSB.out] at k0; have hblk2 := hm2.rest w.heap.size (by simp) HFN.out; have o2 : w2.cell? ⟨w.heap.size, 2, none⟩ = some (.int .u8 (ot : Int)) := (by rw [World.cell?_of_block (a := ⟨w.heap.size, 2, none⟩) hblk2]; simp [go_sem]); have HM := hidIt hm2; clear hact hm2 hblk2))
    all_goals (go_wp2_with fail; go_meet; exact ⟨rfl, F2, HM.out⟩)
  case rest =>
    obtain ⟨wd, hwd⟩ : ∃ x, x = wc := ⟨_, rfl⟩
    subst hwd
    obtain ⟨rfl, F', hm⟩ := hcut
    have c1 := hm.c1
    rw [HVA.out] at c1
    have hblk := hm.rest w.heap.size (by simp) HFN.out
    have o2 : wd.cell? ⟨w.heap.size, 2, none⟩ = some (.int .u8 (ot : Int)) := by rw [World.cell?_of_block (a := ⟨w.heap.size, 2, none⟩) hblk]; simp [go_sem]
    have hist1 : Hist wd.drew B hv es := hm.hist.below ⟨rfl, rfl, rfl, Nat.le_refl _, fun _ _ => rfl⟩
    have HCR := hidIt (refEnd hv es 6 (ot : Int) B wd.drew hist1 (by have := HLEN.out; omega))
    rw [HVA.out] at HCR
    have hwl : w.heap.size < wd.heap.size := by have := hm.nx.size; simp at this; omega
    have hpl : pb < wd.heap.size := World.block_lt_of_cell? wd ⟨pb, 1, none⟩ hm.c1
    have HM := hidIt hm
    clear hm hblk hist1
    go_upto_region 28 with fail
    go_cut [27, 28, 29] from 30 (fun s27 s28 s29 wx => s27 = .int .i64 be ∧ s29 = .int .i64 be ∧ ∃ a n c, s28 = .slice a n c ∧ HistOut wd wx hv (.slice a n c) es bl ∧ Below wd.heap.size wd wx)
    case first =>
      go_region_held3 (fun w' => w'.cell? ⟨pb, 1, none⟩ = some (.slice va es.length vc) ∧ w'.cell? ⟨w.heap.size, 2, none⟩ = some (.int .u8 (ot : Int))) (go_keep) (first | (go_at_call 42; refine HCR.out.mono ?_; rintro r w3 ⟨hb3, v3, hr3, ho3⟩; rw [HBR.out] at hr3 ho3; simp only at hr3 ho3; obtain ⟨a3, n3, c3, rfl⟩ := ho3.form; subst hr3; have k1 : w3.cell? ⟨pb, 1, none⟩ = some (.slice va es.length vc) := (by rw [bcells hb3 _ _ hpl]; exact c1); have p2 : w3.cell? ⟨w.heap.size, 2, none⟩ = some (.int .u8 (ot : Int)) := (by rw [bcells hb3 _ _ hwl]; exact o2); have HO := hidIt ho3; have HB3 := hidIt hb3; clear ho3 hb3))
      all_goals (go_wp2_with fail; go_meet; exact ⟨rfl, rfl, a3, n3, c3, rfl, by rw [HVA.out]; exact HO.out, ⟨HB3.out.os, HB3.out.tape, HB3.out.output, HB3.out.size, HB3.out.block⟩⟩)
    case rest =>
      obtain ⟨rfl, rfl, a3, n3, c3, rfl, ho3, hb3⟩ := hcut
      have k1 : wc.cell? ⟨pb, 1, none⟩ = some (.slice va es.length vc) := by rw [bcells hb3 _ _ hpl]; exact c1
      have k2 : wc.frozen? ⟨pb, 1, none⟩ = false := by rw [World.frozen?_of_block (a := ⟨pb, 1, none⟩) (hb3.block pb hpl)]; exact HM.out.fz
      have HR := hidIt (HM.out.keep I HP.out (below_drewN hbx 1) hb3 ho3 (by simp; omega))
      clear ho3 hb3
      go_wp2_with fail
      go_ret
      exact ⟨ret_bool (by simp), HR.out⟩

end Go.Proofs.YtfdalbmopaemgabGreatDoor
