import Derived.Test.YtfdalbmopaemgabGreatDoorZU2
import Derived.Deep.RegionHeld3
namespace Go.Proofs.YtfdalbmopaemgabGreatDoor
open Go.RowKit

set_option maxRecDepth 100000 in
set_option maxHeartbeats 4000000 in
theorem acted_read {St : World → (Nat → Prop) → Value → List Ev → Prop} (I : StOk St) (B pb : Nat) (F : Nat → Prop) (sp hv : Value) (es : List Ev) (on : Int) (ov : Int) (xx : Nat) (ot : Nat) (ha : Option Addr) (hl hc : Nat) (os : ByteArray) (w : World) (h : Pl St w B pb F sp hv es) (hot : ot ≤ 255) (hxx : xx ≤ 255) (hB : B ≤ w.heap.size) :
    Calls Tryz.prog 16 #[.pointer (some ⟨pb, 0, none⟩), opV ⟨7, on, (ot : Int), (xx : Int), ov, .slice ha hl hc, os⟩] w (PlPost St w B pb F sp hv) := by
  have HP := hidIt h
  have hbx : Below w.heap.size w (w.alloc (opC ⟨7, on, (ot : Int), (xx : Int), ov, .slice ha hl hc, os⟩)) := (Below.refl _ _).alloc (Nat.le_refl _) _
  have hp1 := h.below I hbx
  have hp2 : Pl St (w.alloc (opC ⟨7, on, (ot : Int), (xx : Int), ov, .slice ha hl hc, os⟩)).drew B pb F sp hv es := hp1.stay I (Nat.le_refl _) rfl (fun _ _ => rfl) (fun _ _ => rfl)
  obtain ⟨sb, hsb⟩ := I.form h.st
  obtain ⟨va, vc, hva⟩ := h.hist.1.form
  have c0 := h.c0
  have hlt := h.lt
  rw [hsb] at c0
  have HP2 := hidIt hp2
  have HCB := hidIt (I.read ot xx hot hxx hp2.st)
  rw [hsb] at HCB
  have HFN : Hid (¬ F w.heap.size) := fun q => by have := I.lt h.st _ q; omega
  have HLEN := hidIt (I.len h.st)
  have HLOW := hidIt (I.low h.st)
  have HVA := hidIt hva
  have HSB := hidIt hsb
  obtain ⟨⟨bl, bn, be⟩, hbr⟩ : ∃ y, accessR es 2 (ot : Int) (xx : Int) 0 = y := ⟨_, rfl⟩
  have HBR := hidIt hbr
  rw [hbr] at HCB
  simp only at HCB
  clear h hp1 hp2 hsb hva hbr
  go_enter Tryz.func16, Tryz.ntmps16
  go_upto_region 8 with fail
  go_cut [10, 11] from 30 (fun s10 s11 wx => s10 = .int .i32 bn ∧ s11 = .int .i64 be ∧ ∃ F', Mid St (w.alloc (opC ⟨7, on, (ot : Int), (xx : Int), ov, .slice ha hl hc, os⟩)).drew B pb F sp hv es bl F' wx)
  case first =>
    have d9 : (w.alloc (opC ⟨7, on, (ot : Int), (xx : Int), ov, .slice ha hl hc, os⟩)).drew.cell? ⟨pb, 0, none⟩ = some (.pointer (some ⟨sb, 0, none⟩)) := by rw [← HSB.out]; exact HP2.out.c0
    have d2 : (w.alloc (opC ⟨7, on, (ot : Int), (xx : Int), ov, .slice ha hl hc, os⟩)).drew.cell? ⟨w.heap.size, 2, none⟩ = some (.int .u8 (ot : Int)) := by simp [go_sem]
    have d3 : (w.alloc (opC ⟨7, on, (ot : Int), (xx : Int), ov, .slice ha hl hc, os⟩)).drew.cell? ⟨w.heap.size, 3, none⟩ = some (.int .u8 (xx : Int)) := by simp [go_sem]
    go_region_held3 (fun w' => w'.cell? ⟨pb, 0, none⟩ = some (.pointer (some ⟨sb, 0, none⟩)) ∧ w'.cell? ⟨w.heap.size, 2, none⟩ = some (.int .u8 (ot : Int)) ∧ w'.cell? ⟨w.heap.size, 3, none⟩ = some (.int .u8 (xx : Int))) (go_keep) (first | (go_at_call 37; refine HCB.out.mono ?_; rintro r w2 ⟨rfl, hact⟩; rw [← HSB.out] at hact; obtain ⟨F2, hm2⟩ := HP2.out.acts hact (by simp; omega); have k0 := hm2.c0; rw [HSB.out] at k0; have hblk2 := hm2.rest w.heap.size (by simp) HFN.out; have o2 : w2.cell? ⟨w.heap.size, 2, none⟩ = some (.int .u8 (ot : Int)) := (by rw [World.cell?_of_block (a := ⟨w.heap.size, 2, none⟩) hblk2]; simp [go_sem]); have o3 : w2.cell? ⟨w.heap.size, 3, none⟩ = some (.int .u8 (xx : Int)) := (by rw [World.cell?_of_block (a := ⟨w.heap.size, 3, none⟩) hblk2]; simp [go_sem]); have HM := hidIt hm2; clear hact hm2 hblk2))
    all_goals (go_wp2_with fail; go_meet; exact ⟨rfl, rfl, F2, HM.out⟩)
  case rest =>
    obtain ⟨wd, hwd⟩ : ∃ x, x = wc := ⟨_, rfl⟩
    subst hwd
    obtain ⟨rfl, rfl, F', hm⟩ := hcut
    have c1 := hm.c1
    rw [HVA.out] at c1
    have hblk := hm.rest w.heap.size (by simp) HFN.out
    have o2 : wd.cell? ⟨w.heap.size, 2, none⟩ = some (.int .u8 (ot : Int)) := by rw [World.cell?_of_block (a := ⟨w.heap.size, 2, none⟩) hblk]; simp [go_sem]
    have o3 : wd.cell? ⟨w.heap.size, 3, none⟩ = some (.int .u8 (xx : Int)) := by rw [World.cell?_of_block (a := ⟨w.heap.size, 3, none⟩) hblk]; simp [go_sem]
    have hist1 : Hist wd.drew B hv es := hm.hist.below ⟨rfl, rfl, rfl, Nat.le_refl _, fun _ _ => rfl⟩
    have HCR := hidIt (refRead hv es (ot : Int) (xx : Int) 0 B wd.drew hist1 (by have := HLEN.out; omega) HLOW.out)
    rw [HVA.out] at HCR
    have hwl : w.heap.size < wd.heap.size := by have := hm.nx.size; simp at this; omega
    have hpl : pb < wd.heap.size := World.block_lt_of_cell? wd ⟨pb, 1, none⟩ hm.c1
    have HM := hidIt hm
    clear hm hblk hist1
    go_upto_region 9 with fail
    go_cut [10, 11, 12, 13, 14] from 30 (fun s10 s11 s12 s13 s14 wx => s10 = .int .i32 bn ∧ s11 = .int .i64 be ∧ s13 = .int .i32 bn ∧ s14 = .int .i64 be ∧ ∃ a n c, s12 = .slice a n c ∧ HistOut wd wx hv (.slice a n c) es bl ∧ Below wd.heap.size wd wx)
    case first =>
      go_region_held3 (fun w' => w'.cell? ⟨pb, 1, none⟩ = some (.slice va es.length vc) ∧ w'.cell? ⟨w.heap.size, 2, none⟩ = some (.int .u8 (ot : Int)) ∧ w'.cell? ⟨w.heap.size, 3, none⟩ = some (.int .u8 (xx : Int))) (go_keep) (first | (go_at_call 38; refine HCR.out.mono ?_; rintro r w3 ⟨hb3, v3, hr3, ho3⟩; rw [HBR.out] at hr3 ho3; simp only at hr3 ho3; obtain ⟨a3, n3, c3, rfl⟩ := ho3.form; subst hr3; have k1 : w3.cell? ⟨pb, 1, none⟩ = some (.slice va es.length vc) := (by rw [bcells hb3 _ _ hpl]; exact c1); have p2 : w3.cell? ⟨w.heap.size, 2, none⟩ = some (.int .u8 (ot : Int)) := (by rw [bcells hb3 _ _ hwl]; exact o2); have p3 : w3.cell? ⟨w.heap.size, 3, none⟩ = some (.int .u8 (xx : Int)) := (by rw [bcells hb3 _ _ hwl]; exact o3); have HO := hidIt ho3; have HB3 := hidIt hb3; clear ho3 hb3))
      all_goals (go_wp2_with fail; go_meet; exact ⟨rfl, rfl, rfl, rfl, a3, n3, c3, rfl, by rw [HVA.out]; exact HO.out, ⟨HB3.out.os, HB3.out.tape, HB3.out.output, HB3.out.size, HB3.out.block⟩⟩)
    case rest =>
      obtain ⟨rfl, rfl, rfl, rfl, a3, n3, c3, rfl, ho3, hb3⟩ := hcut
      have k1 : wc.cell? ⟨pb, 1, none⟩ = some (.slice va es.length vc) := by rw [bcells hb3 _ _ hpl]; exact c1
      have k2 : wc.frozen? ⟨pb, 1, none⟩ = false := by rw [World.frozen?_of_block (a := ⟨pb, 1, none⟩) (hb3.block pb hpl)]; exact HM.out.fz
      have HR := hidIt (HM.out.keep I HP.out (below_drewN hbx 1) hb3 ho3 (by simp; omega))
      clear ho3 hb3
      go_wp2_with fail
      go_ret
      exact ⟨ret_bool (by simp), HR.out⟩

set_option maxRecDepth 100000 in
set_option maxHeartbeats 4000000 in
theorem acted_write {St : World → (Nat → Prop) → Value → List Ev → Prop} (I : StOk St) (B pb : Nat) (F : Nat → Prop) (sp hv : Value) (es : List Ev) (on : Int) (ov : Int) (xx : Nat) (ot : Nat) (ha : Option Addr) (hl hc : Nat) (os : ByteArray) (w : World) (h : Pl St w B pb F sp hv es) (hot : ot ≤ 255) (hxx : xx ≤ 255) (hv0 : -2147483648 ≤ ov) (hv1 : ov ≤ 2147483647) (hB : B ≤ w.heap.size) :
    Calls Tryz.prog 16 #[.pointer (some ⟨pb, 0, none⟩), opV ⟨8, on, (ot : Int), (xx : Int), ov, .slice ha hl hc, os⟩] w (PlPost St w B pb F sp hv) := by
  have HP := hidIt h
  have hbx : Below w.heap.size w (w.alloc (opC ⟨8, on, (ot : Int), (xx : Int), ov, .slice ha hl hc, os⟩)) := (Below.refl _ _).alloc (Nat.le_refl _) _
  have hp1 := h.below I hbx
  have hp2 : Pl St (w.alloc (opC ⟨8, on, (ot : Int), (xx : Int), ov, .slice ha hl hc, os⟩)).drew B pb F sp hv es := hp1.stay I (Nat.le_refl _) rfl (fun _ _ => rfl) (fun _ _ => rfl)
  obtain ⟨sb, hsb⟩ := I.form h.st
  obtain ⟨va, vc, hva⟩ := h.hist.1.form
  have c0 := h.c0
  have hlt := h.lt
  rw [hsb] at c0
  have HP2 := hidIt hp2
  have HCB := hidIt (I.write ot xx ov hot hxx hv0 hv1 hp2.st)
  rw [hsb] at HCB
  have HFN : Hid (¬ F w.heap.size) := fun q => by have := I.lt h.st _ q; omega
  have HLEN := hidIt (I.len h.st)
  have HLOW := hidIt (I.low h.st)
  have HVA := hidIt hva
  have HSB := hidIt hsb
  obtain ⟨⟨bl, bn, be⟩, hbr⟩ : ∃ y, accessR es 3 (ot : Int) (xx : Int) ov = y := ⟨_, rfl⟩
  have HBR := hidIt hbr
  rw [hbr] at HCB
  simp only at HCB
  clear h hp1 hp2 hsb hva hbr
  go_enter Tryz.func16, Tryz.ntmps16
  go_upto_region 13 with fail
  go_cut [15] from 30 (fun s15 wx => s15 = .int .i64 be ∧ ∃ F', Mid St (w.alloc (opC ⟨8, on, (ot : Int), (xx : Int), ov, .slice ha hl hc, os⟩)).drew B pb F sp hv es bl F' wx)
  case first =>
    have d9 : (w.alloc (opC ⟨8, on, (ot : Int), (xx : Int), ov, .slice ha hl hc, os⟩)).drew.cell? ⟨pb, 0, none⟩ = some (.pointer (some ⟨sb, 0, none⟩)) := by rw [← HSB.out]; exact HP2.out.c0
    have d2 : (w.alloc (opC ⟨8, on, (ot : Int), (xx : Int), ov, .slice ha hl hc, os⟩)).drew.cell? ⟨w.heap.size, 2, none⟩ = some (.int .u8 (ot : Int)) := by simp [go_sem]
    have d3 : (w.alloc (opC ⟨8, on, (ot : Int), (xx : Int), ov, .slice ha hl hc, os⟩)).drew.cell? ⟨w.heap.size, 3, none⟩ = some (.int .u8 (xx : Int)) := by simp [go_sem]
    have d4 : (w.alloc (opC ⟨8, on, (ot : Int), (xx : Int), ov, .slice ha hl hc, os⟩)).drew.cell? ⟨w.heap.size, 4, none⟩ = some (.int .i32 ov) := by simp [go_sem]
    go_region_held3 (fun w' => w'.cell? ⟨pb, 0, none⟩ = some (.pointer (some ⟨sb, 0, none⟩)) ∧ w'.cell? ⟨w.heap.size, 2, none⟩ = some (.int .u8 (ot : Int)) ∧ w'.cell? ⟨w.heap.size, 3, none⟩ = some (.int .u8 (xx : Int)) ∧ w'.cell? ⟨w.heap.size, 4, none⟩ = some (.int .i32 ov)) (go_keep) (first | (go_at_call 39; refine HCB.out.mono ?_; rintro r w2 ⟨rfl, hact⟩; rw [← HSB.out] at hact; obtain ⟨F2, hm2⟩ := HP2.out.acts hact (by simp; omega); have k0 := hm2.c0; rw [HSB.out] at k0; have hblk2 := hm2.rest w.heap.size (by simp) HFN.out; have o2 : w2.cell? ⟨w.heap.size, 2, none⟩ = some (.int .u8 (ot : Int)) := (by rw [World.cell?_of_block (a := ⟨w.heap.size, 2, none⟩) hblk2]; simp [go_sem]); have o3 : w2.cell? ⟨w.heap.size, 3, none⟩ = some (.int .u8 (xx : Int)) := (by rw [World.cell?_of_block (a := ⟨w.heap.size, 3, none⟩) hblk2]; simp [go_sem]); have o4 : w2.cell? ⟨w.heap.size, 4, none⟩ = some (.int .i32 ov) := (by rw [World.cell?_of_block (a := ⟨w.heap.size, 4, none⟩) hblk2]; simp [go_sem]); have HM := hidIt hm2; clear hact hm2 hblk2))
    all_goals (go_wp2_with fail; go_meet; exact ⟨rfl, F2, HM.out⟩)
  case rest =>
    obtain ⟨wd, hwd⟩ : ∃ x, x = wc := ⟨_, rfl⟩
    subst hwd
    obtain ⟨rfl, F', hm⟩ := hcut
    have c1 := hm.c1
    rw [HVA.out] at c1
    have hblk := hm.rest w.heap.size (by simp) HFN.out
    have o2 : wd.cell? ⟨w.heap.size, 2, none⟩ = some (.int .u8 (ot : Int)) := by rw [World.cell?_of_block (a := ⟨w.heap.size, 2, none⟩) hblk]; simp [go_sem]
    have o3 : wd.cell? ⟨w.heap.size, 3, none⟩ = some (.int .u8 (xx : Int)) := by rw [World.cell?_of_block (a := ⟨w.heap.size, 3, none⟩) hblk]; simp [go_sem]
    have o4 : wd.cell? ⟨w.heap.size, 4, none⟩ = some (.int .i32 ov) := by rw [World.cell?_of_block (a := ⟨w.heap.size, 4, none⟩) hblk]; simp [go_sem]
    have hist1 : Hist wd.drew B hv es := hm.hist.below ⟨rfl, rfl, rfl, Nat.le_refl _, fun _ _ => rfl⟩
    have HCR := hidIt (refWrite hv es (ot : Int) (xx : Int) ov B wd.drew hist1 (by have := HLEN.out; omega) HLOW.out)
    rw [HVA.out] at HCR
    have hwl : w.heap.size < wd.heap.size := by have := hm.nx.size; simp at this; omega
    have hpl : pb < wd.heap.size := World.block_lt_of_cell? wd ⟨pb, 1, none⟩ hm.c1
    have HM := hidIt hm
    clear hm hblk hist1
    go_upto_region 14 with fail
    go_cut [15, 16, 17, 18] from 30 (fun s15 s16 s17 s18 wx => s15 = .int .i64 be ∧ s17 = .int .i32 bn ∧ s18 = .int .i64 be ∧ ∃ a n c, s16 = .slice a n c ∧ HistOut wd wx hv (.slice a n c) es bl ∧ Below wd.heap.size wd wx)
    case first =>
      go_region_held3 (fun w' => w'.cell? ⟨pb, 1, none⟩ = some (.slice va es.length vc) ∧ w'.cell? ⟨w.heap.size, 2, none⟩ = some (.int .u8 (ot : Int)) ∧ w'.cell? ⟨w.heap.size, 3, none⟩ = some (.int .u8 (xx : Int)) ∧ w'.cell? ⟨w.heap.size, 4, none⟩ = some (.int .i32 ov)) (go_keep) (first | (go_at_call 38; refine HCR.out.mono ?_; rintro r w3 ⟨hb3, v3, hr3, ho3⟩; rw [HBR.out] at hr3 ho3; simp only at hr3 ho3; obtain ⟨a3, n3, c3, rfl⟩ := ho3.form; subst hr3; have k1 : w3.cell? ⟨pb, 1, none⟩ = some (.slice va es.length vc) := (by rw [bcells hb3 _ _ hpl]; exact c1); have p2 : w3.cell? ⟨w.heap.size, 2, none⟩ = some (.int .u8 (ot : Int)) := (by rw [bcells hb3 _ _ hwl]; exact o2); have p3 : w3.cell? ⟨w.heap.size, 3, none⟩ = some (.int .u8 (xx : Int)) := (by rw [bcells hb3 _ _ hwl]; exact o3); have p4 : w3.cell? ⟨w.heap.size, 4, none⟩ = some (.int .i32 ov) := (by rw [bcells hb3 _ _ hwl]; exact o4); have HO := hidIt ho3; have HB3 := hidIt hb3; clear ho3 hb3))
      all_goals (go_wp2_with fail; go_meet; exact ⟨rfl, rfl, rfl, a3, n3, c3, rfl, by rw [HVA.out]; exact HO.out, ⟨HB3.out.os, HB3.out.tape, HB3.out.output, HB3.out.size, HB3.out.block⟩⟩)
    case rest =>
      obtain ⟨rfl, rfl, rfl, a3, n3, c3, rfl, ho3, hb3⟩ := hcut
      have k1 : wc.cell? ⟨pb, 1, none⟩ = some (.slice va es.length vc) := by rw [bcells hb3 _ _ hpl]; exact c1
      have k2 : wc.frozen? ⟨pb, 1, none⟩ = false := by rw [World.frozen?_of_block (a := ⟨pb, 1, none⟩) (hb3.block pb hpl)]; exact HM.out.fz
      have HR := hidIt (HM.out.keep I HP.out (below_drewN hbx 1) hb3 ho3 (by simp; omega))
      clear ho3 hb3
      go_wp2_with fail
      go_ret
      exact ⟨ret_bool (by simp), HR.out⟩

set_option maxRecDepth 100000 in
set_option maxHeartbeats 4000000 in
theorem acted_add {St : World → (Nat → Prop) → Value → List Ev → Prop} (I : StOk St) (B pb : Nat) (F : Nat → Prop) (sp hv : Value) (es : List Ev) (on : Int) (ov : Int) (xx : Nat) (ot : Nat) (ha : Option Addr) (hl hc : Nat) (os : ByteArray) (w : World) (h : Pl St w B pb F sp hv es) (hot : ot ≤ 255) (hxx : xx ≤ 255) (hv0 : -2147483648 ≤ ov) (hv1 : ov ≤ 2147483647) (hB : B ≤ w.heap.size) :
    Calls Tryz.prog 16 #[.pointer (some ⟨pb, 0, none⟩), opV ⟨9, on, (ot : Int), (xx : Int), ov, .slice ha hl hc, os⟩] w (PlPost St w B pb F sp hv) := by
  have HP := hidIt h
  have hbx : Below w.heap.size w (w.alloc (opC ⟨9, on, (ot : Int), (xx : Int), ov, .slice ha hl hc, os⟩)) := (Below.refl _ _).alloc (Nat.le_refl _) _
  have hp1 := h.below I hbx
  have hp2 : Pl St (w.alloc (opC ⟨9, on, (ot : Int), (xx : Int), ov, .slice ha hl hc, os⟩)).drew B pb F sp hv es := hp1.stay I (Nat.le_refl _) rfl (fun _ _ => rfl) (fun _ _ => rfl)
  obtain ⟨sb, hsb⟩ := I.form h.st
  obtain ⟨va, vc, hva⟩ := h.hist.1.form
  have c0 := h.c0
  have hlt := h.lt
  rw [hsb] at c0
  have HP2 := hidIt hp2
  have HCB := hidIt (I.add ot xx ov hot hxx hv0 hv1 hp2.st)
  rw [hsb] at HCB
  have HFN : Hid (¬ F w.heap.size) := fun q => by have := I.lt h.st _ q; omega
  have HLEN := hidIt (I.len h.st)
  have HLOW := hidIt (I.low h.st)
  have HVA := hidIt hva
  have HSB := hidIt hsb
  obtain ⟨⟨bl, bn, be⟩, hbr⟩ : ∃ y, accessR es 4 (ot : Int) (xx : Int) ov = y := ⟨_, rfl⟩
  have HBR := hidIt hbr
  rw [hbr] at HCB
  simp only at HCB
  clear h hp1 hp2 hsb hva hbr
  go_enter Tryz.func16, Tryz.ntmps16
  go_upto_region 18 with fail
  go_cut [19, 20] from 30 (fun s19 s20 wx => s19 = .int .i32 bn ∧ s20 = .int .i64 be ∧ ∃ F', Mid St (w.alloc (opC ⟨9, on, (ot : Int), (xx : Int), ov, .slice ha hl hc, os⟩)).drew B pb F sp hv es bl F' wx)
  case first =>
    have d9 : (w.alloc (opC ⟨9, on, (ot : Int), (xx : Int), ov, .slice ha hl hc, os⟩)).drew.cell? ⟨pb, 0, none⟩ = some (.pointer (some ⟨sb, 0, none⟩)) := by rw [← HSB.out]; exact HP2.out.c0
    have d2 : (w.alloc (opC ⟨9, on, (ot : Int), (xx : Int), ov, .slice ha hl hc, os⟩)).drew.cell? ⟨w.heap.size, 2, none⟩ = some (.int .u8 (ot : Int)) := by simp [go_sem]
    have d3 : (w.alloc (opC ⟨9, on, (ot : Int), (xx : Int), ov, .slice ha hl hc, os⟩)).drew.cell? ⟨w.heap.size, 3, none⟩ = some (.int .u8 (xx : Int)) := by simp [go_sem]
    have d4 : (w.alloc (opC ⟨9, on, (ot : Int), (xx : Int), ov, .slice ha hl hc, os⟩)).drew.cell? ⟨w.heap.size, 4, none⟩ = some (.int .i32 ov) := by simp [go_sem]
    go_region_held3 (fun w' => w'.cell? ⟨pb, 0, none⟩ = some (.pointer (some ⟨sb, 0, none⟩)) ∧ w'.cell? ⟨w.heap.size, 2, none⟩ = some (.int .u8 (ot : Int)) ∧ w'.cell? ⟨w.heap.size, 3, none⟩ = some (.int .u8 (xx : Int)) ∧ w'.cell? ⟨w.heap.size, 4, none⟩ = some (.int .i32 ov)) (go_keep) (first | (go_at_call 40; refine HCB.out.mono ?_; rintro r w2 ⟨rfl, hact⟩; rw [← HSB.out] at hact; obtain ⟨F2, hm2⟩ := HP2.out.acts hact (by simp; omega); have k0 := hm2.c0; rw [HSB.out] at k0; have hblk2 := hm2.rest w.heap.size (by simp) HFN.out; have o2 : w2.cell? ⟨w.heap.size, 2, none⟩ = some (.int .u8 (ot : Int)) := (by rw [World.cell?_of_block (a := ⟨w.heap.size, 2, none⟩) hblk2]; simp [go_sem]); have o3 : w2.cell? ⟨w.heap.size, 3, none⟩ = some (.int .u8 (xx : Int)) := (by rw [World.cell?_of_block (a := ⟨w.heap.size, 3, none⟩) hblk2]; simp [go_sem]); have o4 : w2.cell? ⟨w.heap.size, 4, none⟩ = some (.int .i32 ov) := (by rw [World.cell?_of_block (a := ⟨w.heap.size, 4, none⟩) hblk2]; simp [go_sem]); have HM := hidIt hm2; clear hact hm2 hblk2))
    all_goals (go_wp2_with fail; go_meet; exact ⟨rfl, rfl, F2, HM.out⟩)
  case rest =>
    obtain ⟨wd, hwd⟩ : ∃ x, x = wc := ⟨_, rfl⟩
    subst hwd
    obtain ⟨rfl, rfl, F', hm⟩ := hcut
    have c1 := hm.c1
    rw [HVA.out] at c1
    have hblk := hm.rest w.heap.size (by simp) HFN.out
    have o2 : wd.cell? ⟨w.heap.size, 2, none⟩ = some (.int .u8 (ot : Int)) := by rw [World.cell?_of_block (a := ⟨w.heap.size, 2, none⟩) hblk]; simp [go_sem]
    have o3 : wd.cell? ⟨w.heap.size, 3, none⟩ = some (.int .u8 (xx : Int)) := by rw [World.cell?_of_block (a := ⟨w.heap.size, 3, none⟩) hblk]; simp [go_sem]
    have o4 : wd.cell? ⟨w.heap.size, 4, none⟩ = some (.int .i32 ov) := by rw [World.cell?_of_block (a := ⟨w.heap.size, 4, none⟩) hblk]; simp [go_sem]
    have hist1 : Hist wd.drew B hv es := hm.hist.below ⟨rfl, rfl, rfl, Nat.le_refl _, fun _ _ => rfl⟩
    have HCR := hidIt (refAdd_ hv es (ot : Int) (xx : Int) ov B wd.drew hist1 (by have := HLEN.out; omega) HLOW.out)
    rw [HVA.out] at HCR
    have hwl : w.heap.size < wd.heap.size := by have := hm.nx.size; simp at this; omega
    have hpl : pb < wd.heap.size := World.block_lt_of_cell? wd ⟨pb, 1, none⟩ hm.c1
    have HM := hidIt hm
    clear hm hblk hist1
    go_upto_region 19 with fail
    go_cut [19, 20, 21, 22, 23] from 30 (fun s19 s20 s21 s22 s23 wx => s19 = .int .i32 bn ∧ s20 = .int .i64 be ∧ s22 = .int .i32 bn ∧ s23 = .int .i64 be ∧ ∃ a n c, s21 = .slice a n c ∧ HistOut wd wx hv (.slice a n c) es bl ∧ Below wd.heap.size wd wx)
    case first =>
      go_region_held3 (fun w' => w'.cell? ⟨pb, 1, none⟩ = some (.slice va es.length vc) ∧ w'.cell? ⟨w.heap.size, 2, none⟩ = some (.int .u8 (ot : Int)) ∧ w'.cell? ⟨w.heap.size, 3, none⟩ = some (.int .u8 (xx : Int)) ∧ w'.cell? ⟨w.heap.size, 4, none⟩ = some (.int .i32 ov)) (go_keep) (first | (go_at_call 38; refine HCR.out.mono ?_; rintro r w3 ⟨hb3, v3, hr3, ho3⟩; rw [HBR.out] at hr3 ho3; simp only at hr3 ho3; obtain ⟨a3, n3, c3, rfl⟩ := ho3.form; subst hr3; have k1 : w3.cell? ⟨pb, 1, none⟩ = some (.slice va es.length vc) := (by rw [bcells hb3 _ _ hpl]; exact c1); have p2 : w3.cell? ⟨w.heap.size, 2, none⟩ = some (.int .u8 (ot : Int)) := (by rw [bcells hb3 _ _ hwl]; exact o2); have p3 : w3.cell? ⟨w.heap.size, 3, none⟩ = some (.int .u8 (xx : Int)) := (by rw [bcells hb3 _ _ hwl]; exact o3); have p4 : w3.cell? ⟨w.heap.size, 4, none⟩ = some (.int .i32 ov) := (by rw [bcells hb3 _ _ hwl]; exact o4); have HO := hidIt ho3; have HB3 := hidIt hb3; clear ho3 hb3))
      all_goals (go_wp2_with fail; go_meet; exact ⟨rfl, rfl, rfl, rfl, a3, n3, c3, rfl, by rw [HVA.out]; exact HO.out, ⟨HB3.out.os, HB3.out.tape, HB3.out.output, HB3.out.size, HB3.out.block⟩⟩)
    case rest =>
      obtain ⟨rfl, rfl, rfl, rfl, a3, n3, c3, rfl, ho3, hb3⟩ := hcut
      have k1 : wc.cell? ⟨pb, 1, none⟩ = some (.slice va es.length vc) := by rw [bcells hb3 _ _ hpl]; exact c1
      have k2 : wc.frozen? ⟨pb, 1, none⟩ = false := by rw [World.frozen?_of_block (a := ⟨pb, 1, none⟩) (hb3.block pb hpl)]; exact HM.out.fz
      have HR := hidIt (HM.out.keep I HP.out (below_drewN hbx 1) hb3 ho3 (by simp; omega))
      clear ho3 hb3
      go_wp2_with fail
      go_ret
      exact ⟨ret_bool (by simp), HR.out⟩

end Go.Proofs.YtfdalbmopaemgabGreatDoor
