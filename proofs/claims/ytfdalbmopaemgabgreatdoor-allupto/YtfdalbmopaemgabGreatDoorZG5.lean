import Derived.Test.YtfdalbmopaemgabGreatDoorZG3
import Derived.Deep.CutRange
import Derived.BigQuiet
import Derived.Deep.RegionWith
namespace Go.Proofs.YtfdalbmopaemgabGreatDoor
open Go.RowKit

theorem one_new (w : World) (T : TypeId) (k : Nat) : ∀ ad, some (⟨w.heap.size, 0, none⟩ : Addr) = some ad → ∀ j u, (intC [k])[j]? = some u → (w.alloc (.cells #[.int .i64 (k : Int)] T)).drew.cell? (ad.add j) = some u := by
  intro ad had j u hu
  obtain rfl := Option.some.inj had
  cases j with
  | zero => simp [intC] at hu; subst hu; simp [go_sem, Addr.add]
  | succ j => simp [intC] at hu

theorem own_cells {w : World} {B : Nat} {e : TypeId} {va : Option Addr} {n c : Nat} {xs : List Value} (h : w.ownsRow B e 1 (.slice va n c) n xs) : ∀ ad, va = some ad → ∀ j u, xs[j]? = some u → w.cell? (ad.add j) = some u := by
  intro ad had j u hu
  subst had
  rcases h.2 with ⟨h1, _⟩ | ⟨g, cap, cur, h1, _⟩
  · cases h1
  · simp only [Value.slice.injEq, Option.some.injEq] at h1
    obtain ⟨rfl, _, rfl⟩ := h1
    exact h.cells (g := g) rfl j u hu

theorem own_none {w : World} {B : Nat} {e : TypeId} {va : Option Addr} {n c : Nat} {xs : List Value} (h : w.ownsRow B e 1 (.slice va n c) n xs) : va = none → n = 0 := by
  intro hva
  subst hva
  rcases h.2 with ⟨h1, h2⟩ | ⟨g, cap, cur, h1, _⟩
  · exact h2
  · cases h1

theorem PoSt.happen {n0 : Nat} {w : World} {T T' : Tr} {W : Nat → List Nat} {V : Nat → Value} {wr w3 : World} (h : PoSt n0 w T W V wr) (htr : TrAt w3 n0 T') (hb : Below n0 wr w3) (hr : ∀ k, k ≠ n0 → k < wr.heap.size → w3.heap[k]? = wr.heap[k]?) : PoSt n0 w T' W V w3 :=
  ⟨htr, h.wa.stay hb.size fun k hk hl => hr k (by omega) hl, h.nx.trans hb⟩

/-- What is known behind an append, ahead of the store. -/
theorem PoSt.app {n0 : Nat} {w : World} {T : Tr} {W : Nat → List Nat} {V : Nat → Value} {W1 w2 : World} (h : PoSt n0 w T W V W1) (x : Nat) (hx : x ≤ 15) {v' : Value} {m : Nat} (happ : AppPost0 W1 w2 (V x) v' m) (b : Nat) (e : Ev) (he : EvAt W1 b 0 e) (hb : n0 + 1 < b) (hfar : ∀ y, y ≤ 15 → (V y).ownBlock ≠ some b) (hlt : b < W1.heap.size) :
    w2.cell? ⟨n0 + 1, x, none⟩ = some (V x) ∧ w2.frozen? ⟨n0 + 1, x, none⟩ = false ∧ EvAt w2 b 0 e ∧ EvAt (w2.setCell ⟨n0 + 1, x, none⟩ v') b 0 e := by
  have hbw : w2.heap[n0 + 1]? = W1.heap[n0 + 1]? := happ.block _ h.wa.lt (fun q => by have := (h.wa.own_lt x hx _ q).1; omega)
  refine ⟨by rw [World.cell?_of_block (a := ⟨n0 + 1, x, none⟩) hbw]; exact h.wa.cell x hx, by rw [World.frozen?_of_block (a := ⟨n0 + 1, x, none⟩) hbw]; exact h.wa.fz x, he.of_heap (happ.block b hlt (hfar x hx)), he.of_heap ?_⟩
  rw [Below.heap_setCell _ ⟨n0 + 1, x, none⟩ _ _ (show b ≠ n0 + 1 by omega)]
  exact happ.block b hlt (hfar x hx)

def PoMid (n0 : Nat) (w : World) (T : Tr) (W' : Nat → List Nat) (b : Nat) (e : Ev) (wx : World) : Prop := (∃ V', PoSt n0 w T W' V' wx) ∧ EvAt wx b 0 e ∧ b < wx.heap.size

theorem evat_new (w : World) (kk : Int) (tt aa : Nat) (vv ss : Int) (T : TypeId) : EvAt (w.alloc (.cells #[.int .u8 kk, .int .u8 (tt : Int), .int .u8 (aa : Int), .int .i32 vv, .int .i32 ss] T)) w.heap.size 0 ⟨kk, (tt : Int), (aa : Int), vv, ss⟩ := by
  refine ⟨?_, ?_, ?_, ?_, ?_⟩ <;> simp [go_sem]

theorem gStep_obj {W : Nat → List Nat} {par : Nat → Int} {k : Nat} {kk : Int} {tt : Nat} (h : onObj kk = true) : gStep W par k kk tt = upd W tt (W tt ++ [k]) := by unfold gStep; rw [if_pos h]
theorem gStep_com {W : Nat → List Nat} {par : Nat → Int} {k tt p : Nat} (h : par tt = (p : Int)) : gStep W par k 5 tt = upd W p (W p ++ W tt) := by unfold gStep; rw [if_neg (by decide), if_pos rfl, h, Int.toNat_natCast]
theorem gStep_not {W : Nat → List Nat} {par : Nat → Int} {k : Nat} {kk : Int} {tt : Nat} (h : onObj kk = false) (h5 : kk ≠ 5) : gStep W par k kk tt = W := by unfold gStep; rw [if_neg (by rw [h]; decide), if_neg h5]

set_option maxRecDepth 100000 in
set_option maxHeartbeats 4000000 in
theorem playOrder_any (a : Option Addr) (c : Nat) (es : List Ev) (w : World) (hs : SlEv w (.slice a es.length c) es) (hok : ∀ e ∈ es, e.Ok) (hck : (checkG [] es).1 = 0) :
    Calls Tryz.prog 79 #[.slice a es.length c] w (PoPost w es) := by
  have HS := hidIt hs
  have HOK := hidIt hok
  have HCN := hidIt (check_none es [] hck)
  have hlen := check_len hck
  clear hs hok hck
  have HST := hidIt (po_start w 50 145 es)
  obtain ⟨i0, hi, hz0, hz1, hz2⟩ := info_parts Tryz.infoInt
  have HI0 := hidIt hi
  have HX0 := hidIt hz0
  have HX1 := hidIt hz1
  have HX2 := hidIt hz2
  clear hi hz0 hz1 hz2
  go_enter Tryz.func79, Tryz.ntmps79
  go_wp2_with fail
  go_loopw [10] (fun i wr => ∃ k : Nat, k ≤ es.length ∧ i = .int .i64 k ∧ PoLoop w es k wr) (fun i _ => es.length - (intOf i).toNat)
  case atStart => exact ⟨0, by omega, rfl, HST.out⟩
  case round =>
    clear HST
    obtain ⟨k, hk, rfl, T, W, V, hst, hgi, hga⟩ := hrel
    by_cases hlt : k < es.length
    · have hlt' : (k : Int) < (es.length : Int) := by omega
      have hk0 : (0 : Int) ≤ (k : Int) := by omega
      have HS2 := hidIt (HS.out.below hst.nx)
      obtain ⟨bb, off, rfl, hbw, g0, g1, g2, g3, g4⟩ := HS2.out.at_ k hlt
      have hevo := HOK.out es[k] (List.getElem_mem _)
      have hw0 := HCN.out k hlt
      rw [List.nil_append] at hw0
      obtain ⟨kk, tt, aa, vv, ss, hev, hk0', hk1', ht', ha'⟩ := ev_nat es[k] hevo
      rw [hev] at g0 g1 g2 g3 g4 hw0
      have HGI := hidIt (hgi.step hlt kk tt aa vv ss hev hw0)
      have HGA : Hid (gatherG tr0 (fun _ => []) 0 es = gatherG (stepT T kk tt aa) (gStep W T.par k kk tt) (k + 1) (es.drop (k + 1))) := hga.trans (gather_drop hlt kk tt aa vv ss hev)
      have HM := hidIt (step_ok hgi.jj kk tt aa vv ss hw0).1
      obtain ⟨h60, hkd, hop, ha4⟩ := wrong_facts hw0
      have HJ := hidIt hgi.jj
      have HGB : Hid (∀ x, (W x).length ≤ 60) := fun x => by have := hgi.bound x; omega
      have HSTT := hidIt hst
      have hl1 : w.heap.size + 1 < wr.heap.size := hst.wa.lt
      have hbx := (Below.refl wr.heap.size wr).alloc (Nat.le_refl _) (.cells #[.int .u8 kk, .int .u8 (tt : Int), .int .u8 (aa : Int), .int .i32 vv, .int .i32 ss] 45)
      have HPE := hidIt (hst.below hbx)
      have HEV := hidIt (evat_new wr kk tt aa vv ss 45)
      have HFAR : Hid (∀ y, y ≤ 15 → (V y).ownBlock ≠ some wr.heap.size) := fun y hy e => by have := (hst.wa.own_lt y hy _ e).2; omega
      clear hga hw0 hev hevo hgi hst h60 hkd hbx
      cases hobj : onObj kk with
      | true =>
        have hr := onObj_iff.1 hobj
        have hto := hop (by omega)
        have hrg := HJ.out.open_range hto
        have h15 := HJ.out.n15
        have htt : tt ≤ 15 := by omega
        have htt' : (tt : Int) < 16 := by omega
        have k5 : (kk == 5) = false := by simp; omega
        obtain ⟨va, vc, hva⟩ := HSTT.out.wa.form tt htt
        have c1 := HSTT.out.wa.cell tt htt
        rw [hva] at c1
        have f1 := HSTT.out.wa.fz tt
        have hP1 := (HPE.out.below ((Below.refl _ _).alloc (Nat.le_refl _) (.cells #[.int .i64 (k : Int)] 3))).drew
        have hE1 : EvAt ((wr.alloc (.cells #[.int .u8 kk, .int .u8 (tt : Int), .int .u8 (aa : Int), .int .i32 vv, .int .i32 ss] 45)).alloc (.cells #[.int .i64 (k : Int)] 3)).drew wr.heap.size 0 ⟨kk, (tt : Int), (aa : Int), vv, ss⟩ :=
          HEV.out.of_heap (((Below.refl _ _).alloc (Nat.le_refl _) (.cells #[.int .i64 (k : Int)] 3)).block _ (by simp))
        have c2 : ((wr.alloc (.cells #[.int .u8 kk, .int .u8 (tt : Int), .int .u8 (aa : Int), .int .i32 vv, .int .i32 ss] 45)).alloc (.cells #[.int .i64 (k : Int)] 3)).cell? ⟨w.heap.size + 1, tt, none⟩ = some (.slice va (W tt).length vc) := (hP1.wa.cell tt htt).trans (by rw [hva])
        have hO1 := hP1.wa.own tt htt
        rw [hva] at hO1
        have hN1 := one_new (wr.alloc (.cells #[.int .u8 kk, .int .u8 (tt : Int), .int .u8 (aa : Int), .int .i32 vv, .int .i32 ss] 45)) 3 k
        rw [World.size_alloc] at hN1
        have HP1 := hidIt hP1
        have HE1 := hidIt hE1
        have HO1 := hidIt hO1
        have HN1 := hidIt hN1
        have HB7 : Hid ((W tt).length + 1 ≤ maxLen) := by show _ ≤ _; have := HGB.out tt; unfold maxLen; omega
        have HB8 : Hid (((W tt).length + 1) * 8 ≤ 140737488355328) := by show _ ≤ _; have := HGB.out tt; omega
        have HB9 : Hid (w.heap.size + 1 + 1 ≤ ((wr.alloc (.cells #[.int .u8 kk, .int .u8 (tt : Int), .int .u8 (aa : Int), .int .i32 vv, .int .i32 ss] 45)).alloc (.cells #[.int .i64 (k : Int)] 3)).drew.heap.size) := by show _ ≤ _; simp; omega
        have HVA := hidIt hva
        have HON := hidIt hobj
        clear hr hto hrg h15 hva hobj hop ha4 hP1 hE1 hO1 hN1
        go_upto_region 7 with (go_at_call 110; refine (onObject_any _ _).mono ?_; rintro e w' ⟨rfl, rfl⟩; rw [HON.out])
        go_cut [10] from 10 to 46 (fun s10 wx => s10 = .int .i64 k ∧ PoMid w.heap.size w T (upd W tt (W tt ++ [k])) wr.heap.size ⟨kk, (tt : Int), (aa : Int), vv, ss⟩ wx)
        case first =>
         go_region_law (refine step_append_two rfl (.tmp 23) (.tmp 25) 122 rfl (w.heap.size + 1 + 1) 3 i0 (.int .i64 0) 1 8 Tryz.underlying122 HI0.out HX0.out HX1.out HX2.out rfl (by decide) (.slice va (W tt).length vc) (W tt).length (intC (W tt)) (by simp [Act.eval]) HO1.out (some ⟨wr.heap.size + 1, 0, none⟩) 1 1 (intC [k]) (by simp [Act.eval]) (fun h => absurd h (by decide)) (fun h => by cases h) rfl HN1.out (intC_one _) HB7.out HB8.out HB9.out ?_; intro v2 w2 hown2 happ2; rw [← HVA.out] at happ2; obtain ⟨x1, x2, x4, x3⟩ := HP1.out.app tt htt happ2 wr.heap.size _ HE1.out hl1 HFAR.out (by simp; omega); rw [HVA.out] at x1; have hown3 : w2.ownsRow (w.heap.size + 1 + 1) 3 1 v2 (W tt ++ [k]).length (intC (W tt ++ [k])) := (by rw [intC_append, List.length_append]; exact hown2); have HPS := hidIt (HP1.out.push tt htt [k] v2 hown3 happ2); have HY : Hid (wr.heap.size < (w2.setCell ⟨w.heap.size + 1, tt, none⟩ v2).heap.size) := (by have h5 := happ2.size; simp at h5; show _ < _; simp; omega); have HX3 := hidIt x3; clear x3; obtain ⟨z0, z1, z2, z3, z4⟩ := x4; simp only [Nat.zero_add] at z0 z1 z2 z3 z4; obtain ⟨a2, c2, rfl⟩ := ownsRow_form hown2; clear hown2 happ2 hown3)
         all_goals (go_wp2_with fail; go_meet; exact ⟨rfl, ⟨_, HPS.out⟩, HX3.out, HY.out⟩)
        case rest =>
          obtain ⟨rfl, ⟨V', hps⟩, ⟨y0, y1, y2, y3, y4⟩, hbl⟩ := hcut
          simp only [Nat.zero_add] at y0 y1 y2 y3 y4
          have HPS := hidIt hps
          clear hps
          go_wp2_with fail
          refine (happen_any w.heap.size T kk tt aa vv ss _ HPS.out.tr HM.out ha').mono ?_
          rintro r w3 ⟨rfl, htr3, hb3, hr3⟩
          have HR : Hid (PoLoop w es (k + 1) w3) := ⟨_, _, V', HPS.out.happen htr3 hb3 hr3, by rw [← gStep_obj HON.out]; exact HGI.out, by rw [← gStep_obj HON.out]; exact HGA.out⟩
          clear htr3 hb3 hr3
          go_wp2_with fail
          go_roundw
          case rel => exact ⟨k + 1, by omega, by go_num, HR.out⟩
          case measure => simp [intOf]; omega
      | false =>
        by_cases h5 : kk = 5
        · subst h5
          have hto := hop (by omega)
          have hrg := HJ.out.open_range hto
          have h15 := HJ.out.n15
          have htt : tt ≤ 15 := by omega
          have htt' : (tt : Int) < 16 := by omega
          have hlow := HJ.out.low tt (by omega) (by omega)
          have hpar := HJ.out.par tt htt
          obtain ⟨p, hp⟩ : ∃ p : Nat, T.par tt = (p : Int) := ⟨(T.par tt).toNat, by omega⟩
          have hp15 : p ≤ 15 := by omega
          have hp' : (p : Int) < 16 := by omega
          obtain ⟨va, vc, hva⟩ := HSTT.out.wa.form tt htt
          obtain ⟨pa, pc, hpa⟩ := HSTT.out.wa.form p hp15
          have c1 := HSTT.out.wa.cell tt htt
          rw [hva] at c1
          have c2 := HSTT.out.wa.cell p hp15
          rw [hpa] at c2
          have hP1 := HPE.out.drew
          have hO1 := hP1.wa.own p hp15
          rw [hpa] at hO1
          have hO2 := hP1.wa.own tt htt
          rw [hva] at hO2
          have HN1 : Hid ((W tt).length = 0 → va = none ∧ vc = 0) := fun h0 => by
            have hn := HSTT.out.wa.nil tt htt (List.length_eq_zero_iff.1 h0)
            rw [hva] at hn
            simp only [Value.slice.injEq] at hn
            exact ⟨hn.1, hn.2.2⟩
          have HN2 := hidIt (own_none hO2)
          have HN3 := hidIt (own_cells hO2)
          have HP1 := hidIt hP1
          have HO1 := hidIt hO1
          have HE1 : Hid (EvAt (wr.alloc (.cells #[.int .u8 5, .int .u8 (tt : Int), .int .u8 (aa : Int), .int .i32 vv, .int .i32 ss] 45)).drew wr.heap.size 0 ⟨5, (tt : Int), (aa : Int), vv, ss⟩) := HEV.out.of_heap rfl
          have HB6 : Hid ((intC (W tt)).length = (W tt).length * 1) := by show _ = _; rw [intC_length, Nat.mul_one]
          have HB7 : Hid ((W p).length + (W tt).length ≤ maxLen) := by show _ ≤ _; have := HGB.out tt; have := HGB.out p; unfold maxLen; omega
          have HB8 : Hid (((W p).length + (W tt).length) * 8 ≤ 140737488355328) := by show _ ≤ _; have := HGB.out tt; have := HGB.out p; omega
          have HB9 : Hid (w.heap.size + 1 + 1 ≤ (wr.alloc (.cells #[.int .u8 5, .int .u8 (tt : Int), .int .u8 (aa : Int), .int .i32 vv, .int .i32 ss] 45)).drew.heap.size) := by show _ ≤ _; simp; omega
          have HPA := hidIt hpa
          have HPP := hidIt hp
          have HON := hidIt hobj
          have HPC := hidIt (parent_any w.heap.size tt T _ HPE.out.tr htt)
          rw [hp] at HPC
          clear hto hrg h15 hva hpa hobj hop ha4 hP1 hO1 hO2 hlow hpar hp
          go_upto_region 10 with (first | (go_at_call 110; refine (onObject_any _ _).mono ?_; rintro e w' ⟨rfl, rfl⟩; rw [HON.out]) | (go_at_call 98; refine HPC.out.mono ?_; rintro e w' ⟨rfl, rfl⟩))
          go_cut [10] from 10 to 46 (fun s10 wx => s10 = .int .i64 k ∧ PoMid w.heap.size w T (upd W p (W p ++ W tt)) wr.heap.size ⟨5, (tt : Int), (aa : Int), vv, ss⟩ wx)
          case first =>
            go_region_law (refine step_append_two rfl (.tmp 37) (.tmp 41) 122 rfl (w.heap.size + 1 + 1) 3 i0 (.int .i64 0) 1 8 Tryz.underlying122 HI0.out HX0.out HX1.out HX2.out rfl (by decide) (.slice pa (W p).length pc) (W p).length (intC (W p)) (by simp [Act.eval]) HO1.out va (W tt).length vc (intC (W tt)) (by simp [Act.eval]) HN1.out HN2.out HB6.out HN3.out (intC_one _) HB7.out HB8.out HB9.out ?_; intro v2 w2 hown2 happ2; rw [← HPA.out] at happ2; obtain ⟨x1, x2, x4, x3⟩ := HP1.out.app p hp15 happ2 wr.heap.size _ HE1.out hl1 HFAR.out (by simp); rw [HPA.out] at x1; have hown3 : w2.ownsRow (w.heap.size + 1 + 1) 3 1 v2 (W p ++ W tt).length (intC (W p ++ W tt)) := (by rw [intC_append, List.length_append]; exact hown2); have HPS := hidIt (HP1.out.push p hp15 (W tt) v2 hown3 happ2); have HY : Hid (wr.heap.size < (w2.setCell ⟨w.heap.size + 1, p, none⟩ v2).heap.size) := (by have h5 := happ2.size; simp at h5; show _ < _; simp; omega); have HX3 := hidIt x3; clear x3 x4; obtain ⟨a2, c2, rfl⟩ := ownsRow_form hown2; clear hown2 happ2 hown3)
            all_goals (go_wp2_with fail; go_meet; exact ⟨rfl, ⟨_, HPS.out⟩, HX3.out, HY.out⟩)
          case rest =>
            obtain ⟨rfl, ⟨V', hps⟩, ⟨y0, y1, y2, y3, y4⟩, hbl⟩ := hcut
            simp only [Nat.zero_add] at y0 y1 y2 y3 y4
            have HPS := hidIt hps
            clear hps c1 c2
            go_wp2_with fail
            refine (happen_any w.heap.size T 5 tt aa vv ss _ HPS.out.tr HM.out ha').mono ?_
            rintro r w3 ⟨rfl, htr3, hb3, hr3⟩
            have HR : Hid (PoLoop w es (k + 1) w3) := ⟨_, _, V', HPS.out.happen htr3 hb3 hr3, by rw [← gStep_com HPP.out]; exact HGI.out, by rw [← gStep_com HPP.out]; exact HGA.out⟩
            clear htr3 hb3 hr3
            go_wp2_with fail
            go_roundw
            case rel => exact ⟨k + 1, by omega, by go_num, HR.out⟩
            case measure => simp [intOf]; omega
        · have k5 : (kk == 5) = false := by simpa using h5
          have HON := hidIt hobj
          have HSAME := hidIt (gStep_not (W := W) (par := T.par) (k := k) (tt := tt) hobj h5)
          clear hobj hop ha4 h5
          go_wp2_with (go_at_call 110; refine (onObject_any _ _).mono ?_; rintro e w' ⟨rfl, rfl⟩; rw [HON.out])
          refine (happen_any w.heap.size T kk tt aa vv ss _ HPE.out.tr HM.out ha').mono ?_
          rintro r w3 ⟨rfl, htr3, hb3, hr3⟩
          have HR : Hid (PoLoop w es (k + 1) w3) := ⟨_, _, V, HPE.out.happen htr3 hb3 hr3, by have h7 := HGI.out; rw [HSAME.out] at h7; exact h7, by have h7 := HGA.out; rw [HSAME.out] at h7; exact h7⟩
          clear htr3 hb3 hr3
          go_wp2_with fail
          go_roundw
          case rel => exact ⟨k + 1, by omega, by go_num, HR.out⟩
          case measure => simp [intOf]; omega
    · have hge : ¬ (k : Int) < (es.length : Int) := by omega
      obtain ⟨va, vc, hva⟩ := hst.wa.form 0 (by omega)
      have c1 := hst.wa.cell 0 (by omega)
      rw [hva] at c1
      have hord : orderL es = W 0 := by
        unfold orderL
        rw [hga, List.drop_eq_nil_of_le (by omega)]
        rfl
      have hown := hst.wa.own 0 (by omega)
      rw [hva] at hown
      have HR : Hid (wr.ownsRow w.heap.size 3 1 (.slice va (W 0).length vc) (orderL es).length (intC (orderL es)) ∧ Below w.heap.size w wr) := ⟨by rw [hord]; exact ownsRow_mono hown (by omega), hst.nx⟩
      clear hst hgi hga hva hord hown
      go_wp2_with fail
      go_ret
      exact ⟨_, rfl, HR.out.1, HR.out.2⟩

end Go.Proofs.YtfdalbmopaemgabGreatDoor

namespace Go.Proofs.YtfdalbmopaemgabGreatDoor
open Go.RowKit

/-! ### Playing -/
def becL (e : Ev) : Int := if e.k = 3 then e.v else if e.k = 4 then wrap32 (e.s + e.v) else e.s

def playL (es : List Ev) : (Nat → Int) → List Nat → Int × (Nat → Int)
  | V, [] => (-1, V)
  | V, p :: l => match es[p]? with
    | none => playL es V l
    | some e => if nSeen e.k = true ∧ V e.a.toNat ≠ e.s then ((p : Int), V) else playL es (upd V e.a.toNat (becL e)) l

abbrev valsV (V : Nat → Int) : Value := .agg #[.int .i32 (V 0), .int .i32 (V 1), .int .i32 (V 2), .int .i32 (V 3)]

def replayG (es : List Ev) : Int × (Nat → Int) × Int :=
  if (checkG [] es).1 = 0 then ((playL es (fun _ => 0) (orderL es)).1, (playL es (fun _ => 0) (orderL es)).2, 0) else (0, fun _ => 0, (checkG [] es).1)

def RePost (w : World) (es : List Ev) (r : Ending) (w' : World) : Prop :=
  r = .returned (.tuple #[.int .i64 (replayG es).1, valsV (replayG es).2.1, .int .i64 (replayG es).2.2]) ∧ Below w.heap.size w w'

theorem gi_upto {es : List Ev} (hok : ∀ e ∈ es, e.Ok) (hck : (checkG [] es).1 = 0) : ∀ k, k ≤ es.length → ∃ T W, GI es k T W ∧ gatherG tr0 (fun _ => []) 0 es = gatherG T W k (es.drop k)
  | 0, _ => ⟨tr0, fun _ => [], GI.start es, rfl⟩
  | k + 1, hk => by
    obtain ⟨T, W, hg, he⟩ := gi_upto hok hck k (by omega)
    have hlt : k < es.length := by omega
    obtain ⟨kk, tt, aa, vv, ss, hev, _⟩ := ev_nat es[k] (hok _ (List.getElem_mem _))
    have hw := check_none es [] hck k hlt
    rw [List.nil_append, hev] at hw
    exact ⟨_, _, hg.step hlt kk tt aa vv ss hev hw, he.trans (gather_drop hlt kk tt aa vv ss hev)⟩

theorem gi_all {es : List Ev} (hok : ∀ e ∈ es, e.Ok) (hck : (checkG [] es).1 = 0) : ∃ T W, GI es es.length T W ∧ orderL es = W 0 := by
  obtain ⟨T, W, hg, he⟩ := gi_upto hok hck es.length (Nat.le_refl _)
  refine ⟨T, W, hg, ?_⟩
  unfold orderL
  rw [he, List.drop_length]
  rfl

set_option maxHeartbeats 1000000 in
theorem becomes_any (k t a v s : Int) (w : World) :
    Calls Tryz.prog 81 #[evV ⟨k, t, a, v, s⟩] w fun r w' => r = .returned (.int .i32 (becL ⟨k, t, a, v, s⟩)) ∧ Below w.heap.size w w' := by
  have hba : ∀ o, Below w.heap.size w (w.alloc o) := fun o => (Below.refl _ _).alloc (Nat.le_refl _) o
  cases h3 : (k == 3) with
  | true =>
    have HV : Hid (becL ⟨k, t, a, v, s⟩ = v) := by show _ = _; unfold becL; rw [if_pos (by simpa using h3)]
    go_enter Tryz.func81, Tryz.ntmps81
    go_wp2_with fail
    go_ret
    exact ⟨ret_int HV.out.symm, hba _⟩
  | false =>
    cases h4 : (k == 4) with
    | true =>
      have HV : Hid (becL ⟨k, t, a, v, s⟩ = wrap32 (s + v)) := by show _ = _; unfold becL; rw [if_neg (by simpa using h3), if_pos (by simpa using h4)]
      go_enter Tryz.func81, Tryz.ntmps81
      go_wp2_with fail
      go_ret
      exact ⟨ret_int HV.out.symm, hba _⟩
    | false =>
      have HV : Hid (becL ⟨k, t, a, v, s⟩ = s) := by show _ = _; unfold becL; rw [if_neg (by simpa using h3), if_neg (by simpa using h4)]
      go_enter Tryz.func81, Tryz.ntmps81
      go_wp2_with fail
      go_ret
      exact ⟨ret_int HV.out.symm, hba _⟩

theorem becomes_r (k t a v s : Int) (W : World) :
    Calls Tryz.prog 81 #[evV ⟨k, t, a, v, s⟩] W fun r w' => r = .returned (.int .i32 (becL ⟨k, t, a, v, s⟩)) ∧ Below W.heap.size W w' ∧ (∀ b o, b < W.heap.size → w'.cell? ⟨b, o, none⟩ = W.cell? ⟨b, o, none⟩) := by
  refine (becomes_any k t a v s W).mono ?_
  rintro r w' ⟨rfl, h⟩
  exact ⟨rfl, h, bcells h⟩

/-! ### The values in memory -/
structure VAt (w : World) (b : Nat) (V : Nat → Int) : Prop where
  cell : ∀ i, i < 4 → w.cell? ⟨b, i, none⟩ = some (.int .i32 (V i))
  fz : ∀ o, w.frozen? ⟨b, o, none⟩ = false
  lt : b < w.heap.size

theorem VAt.of_heap {w w' : World} {b : Nat} {V : Nat → Int} (h : VAt w b V) (hh : w'.heap[b]? = w.heap[b]?) (hz : w.heap.size ≤ w'.heap.size) : VAt w' b V :=
  ⟨fun i hi => by rw [World.cell?_of_block (a := ⟨b, _, none⟩) hh]; exact h.cell i hi, fun o => by rw [World.frozen?_of_block (a := ⟨b, _, none⟩) hh]; exact h.fz o, Nat.lt_of_lt_of_le h.lt hz⟩

theorem VAt.below {w w' : World} {b : Nat} {V : Nat → Int} (h : VAt w b V) (hb : Below w.heap.size w w') : VAt w' b V := h.of_heap (hb.block b h.lt) hb.size
theorem VAt.drew {w : World} {b : Nat} {V : Nat → Int} (h : VAt w b V) : VAt w.drew b V := ⟨h.cell, h.fz, h.lt⟩

theorem VAt.drewN {w : World} {b : Nat} {V : Nat → Int} (h : VAt w b V) (n : Nat) : VAt (w.drewN n) b V := ⟨h.cell, h.fz, h.lt⟩

theorem VAt.set {w : World} {b : Nat} {V : Nat → Int} (h : VAt w b V) (i : Nat) (hi : i < 4) (v : Int) : VAt (w.setCell ⟨b, i, none⟩ (.int .i32 v)) b (upd V i v) := by
  refine ⟨fun j hj => ?_, fun o => by rw [World.frozen?_setCell]; exact h.fz o, by simpa using h.lt⟩
  unfold upd
  by_cases e : j = i
  · subst e
    rw [if_pos rfl]
    exact World.cell?_setCell_same _ _ _ (h.cell j hj)
  · rw [if_neg e, World.cell?_setCell_other _ _ _ _ (by intro q; injection q with _ q2 _; exact e q2.symm)]
    exact h.cell j hj

theorem vat_new (w : World) (T : TypeId) : VAt (w.alloc (.cells #[.int .i32 0, .int .i32 0, .int .i32 0, .int .i32 0] T)) w.heap.size (fun _ => 0) := by
  refine ⟨fun i hi => ?_, fun o => by simp [go_sem], by simp⟩
  have hc : i = 0 ∨ i = 1 ∨ i = 2 ∨ i = 3 := by omega
  rcases hc with rfl | rfl | rfl | rfl <;> simp [go_sem]

/-- All but the block b is as it was. -/
structure ExB (w w' : World) (b : Nat) : Prop where
  below : Below b w w'
  rest : ∀ k, k ≠ b → k < w.heap.size → w'.heap[k]? = w.heap[k]?

theorem ExB.refl (w : World) (b : Nat) : ExB w w b := ⟨Below.refl _ _, fun _ _ _ => rfl⟩
theorem ExB.more {w w' w'' : World} {b : Nat} (h : ExB w w' b) (hb : Below w'.heap.size w' w'') (hlt : b ≤ w'.heap.size) : ExB w w'' b :=
  ⟨h.below.trans (hb.mono hlt), fun k hk hl => (hb.block k (Nat.lt_of_lt_of_le hl h.below.size)).trans (h.rest k hk hl)⟩
theorem ExB.set {w w' : World} {b : Nat} (h : ExB w w' b) (o : Nat) (v : Value) : ExB w (w'.setCell ⟨b, o, none⟩ v) b :=
  ⟨h.below.setCell (p := ⟨b, o, none⟩) (Nat.le_refl _) _, fun k hk hl => by rw [Below.heap_setCell _ ⟨b, o, none⟩ _ _ hk]; exact h.rest k hk hl⟩
theorem ExB.drew {w w' : World} {b : Nat} (h : ExB w w' b) : ExB w w'.drew b := ⟨below_drewN h.below 1, h.rest⟩
theorem ExB.drewN {w w' : World} {b : Nat} (h : ExB w w' b) (n : Nat) : ExB w (w'.drewN n) b := ⟨below_drewN h.below n, h.rest⟩

def RpLoop (w2 : World) (bv : Nat) (es : List Ev) (ord : List Nat) (j : Nat) (wr : World) : Prop :=
  ∃ V, VAt wr bv V ∧ ExB w2 wr bv ∧ playL es (fun _ => 0) ord = playL es V (ord.drop j)

theorem play_stop {es : List Ev} {V : Nat → Int} {ord : List Nat} {j p : Nat} {e : Ev} (hj : j < ord.length) (hp : ord[j] = p) (he : es[p]? = some e) (h : nSeen e.k = true ∧ V e.a.toNat ≠ e.s) : playL es V (ord.drop j) = ((p : Int), V) := by
  rw [List.drop_eq_getElem_cons hj, hp, playL, he]
  simp only
  rw [if_pos h]

theorem play_on {es : List Ev} {V : Nat → Int} {ord : List Nat} {j p : Nat} {e : Ev} (hj : j < ord.length) (hp : ord[j] = p) (he : es[p]? = some e) (h : ¬ (nSeen e.k = true ∧ V e.a.toNat ≠ e.s)) : playL es V (ord.drop j) = playL es (upd V e.a.toNat (becL e)) (ord.drop (j + 1)) := by
  rw [List.drop_eq_getElem_cons hj, hp, playL, he]
  simp only
  rw [if_neg h]

theorem set4_below {B : Nat} {a w : World} (h : Below B a w) (b : Nat) (hb : B ≤ b) (v0 v1 v2 v3 : Value) : Below B a ((((w.setCell ⟨b, 0, none⟩ v0).setCell ⟨b, 1, none⟩ v1).setCell ⟨b, 2, none⟩ v2).setCell ⟨b, 3, none⟩ v3) :=
  (((h.setCell (p := ⟨b, 0, none⟩) hb _).setCell (p := ⟨b, 1, none⟩) hb _).setCell (p := ⟨b, 2, none⟩) hb _).setCell (p := ⟨b, 3, none⟩) hb _

theorem ns_is (k : Int) (b : Bool) (w : World) (h : nSeen k = b) : Calls Tryz.prog 80 #[.int .u8 k] w fun e w' => e = .returned (.bool b) ∧ w' = w := by
  rw [← h]
  exact namesSeen_any k w

/-- The place that stands at j. -/
theorem own_at {w : World} {B : Nat} {e : TypeId} {oa : Option Addr} {oc : Nat} {ord : List Nat} (h : w.ownsRow B e 1 (.slice oa ord.length oc) ord.length (intC ord)) (j : Nat) (hj : j < ord.length) : ∃ g, oa = some ⟨g, 0, none⟩ ∧ B ≤ g ∧ g < w.heap.size ∧ w.cell? ⟨g, j, none⟩ = some (.int .i64 (ord[j] : Int)) := by
  have hlt := fun g hg => World.ownsRow.lt h g hg
  rcases h.2 with ⟨h1, h2⟩ | ⟨g, cap, cur, h1, _⟩
  · omega
  · simp only [Value.slice.injEq] at h1
    obtain ⟨rfl, _, rfl⟩ := h1
    have hc := own_cells h ⟨g, 0, none⟩ rfl j (.int .i64 (ord[j] : Int)) (by simp [intC, hj])
    obtain ⟨l1, l2⟩ := hlt g rfl
    refine ⟨g, rfl, l1, l2, ?_⟩
    have hadd : (⟨g, 0, none⟩ : Addr).add j = ⟨g, j, none⟩ := by unfold Addr.add; split <;> simp_all
    rw [hadd] at hc
    exact hc

end Go.Proofs.YtfdalbmopaemgabGreatDoor
