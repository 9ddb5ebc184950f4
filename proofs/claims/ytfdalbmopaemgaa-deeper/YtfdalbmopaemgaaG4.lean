import Derived.Test.YtfdalbmopaemgaaG3
import Derived.Deep.CutRange
namespace Go.Proofs.Ytfdalbmopaemgaa
open Go.RowKit

theorem one_new (w : World) (T : TypeId) (k : Nat) : ∀ ad, some (⟨w.heap.size, 0, none⟩ : Addr) = some ad → ∀ j u, (intC [k])[j]? = some u → (w.alloc (.cells #[.int .i64 (k : Int)] T)).drew.cell? (ad.add j) = some u := by
  intro ad had j u hu
  obtain rfl := Option.some.inj had
  cases j with
  | zero => simp [intC] at hu; subst hu; simp [go_sem, Addr.add]
  | succ j => simp [intC] at hu

theorem own_cells {w : World} {B : Nat} {e : TypeId} {va : Option Addr} {n c : Nat} {xs : List Value} (h : w.ownsRow B e 1 (.slice va n c) n xs) : ∀ ad, va = some ad → ∀ j u, xs[j]? = some u → w.cell? (ad.add j) = some u := by
  intro ad had j u hu
  subst had
  rcases h.2 with ⟨h1, _⟩ | ⟨g, cap, cur, h1, _⟩
  · cases h1
  · simp only [Value.slice.injEq, Option.some.injEq] at h1
    obtain ⟨rfl, _, rfl⟩ := h1
    exact h.cells (g := g) rfl j u hu

theorem own_none {w : World} {B : Nat} {e : TypeId} {va : Option Addr} {n c : Nat} {xs : List Value} (h : w.ownsRow B e 1 (.slice va n c) n xs) : va = none → n = 0 := by
  intro hva
  subst hva
  rcases h.2 with ⟨h1, h2⟩ | ⟨g, cap, cur, h1, _⟩
  · exact h2
  · cases h1

theorem PoSt.happen {n0 : Nat} {w : World} {T T' : Tr} {W : Nat → List Nat} {V : Nat → Value} {wr w3 : World} (h : PoSt n0 w T W V wr) (htr : TrAt w3 n0 T') (hb : Below n0 wr w3) (hr : ∀ k, k ≠ n0 → k < wr.heap.size → w3.heap[k]? = wr.heap[k]?) : PoSt n0 w T' W V w3 :=
  ⟨htr, h.wa.stay hb.size fun k hk hl => hr k (by omega) hl, h.nx.trans hb⟩

/-- What is known behind an append, ahead of the store. -/
theorem PoSt.app {n0 : Nat} {w : World} {T : Tr} {W : Nat → List Nat} {V : Nat → Value} {W1 w2 : World} (h : PoSt n0 w T W V W1) (x : Nat) (hx : x ≤ 15) {v' : Value} {m : Nat} (happ : AppPost0 W1 w2 (V x) v' m) (b : Nat) (e : Ev) (he : EvAt W1 b 0 e) (hb : n0 + 1 < b) (hfar : ∀ y, y ≤ 15 → (V y).ownBlock ≠ some b) (hlt : b < W1.heap.size) :
    w2.cell? ⟨n0 + 1, x, none⟩ = some (V x) ∧ w2.frozen? ⟨n0 + 1, x, none⟩ = false ∧ EvAt w2 b 0 e ∧ EvAt (w2.setCell ⟨n0 + 1, x, none⟩ v') b 0 e := by
  have hbw : w2.heap[n0 + 1]? = W1.heap[n0 + 1]? := happ.block _ h.wa.lt (fun q => by have := (h.wa.own_lt x hx _ q).1; omega)
  refine ⟨by rw [World.cell?_of_block (a := ⟨n0 + 1, x, none⟩) hbw]; exact h.wa.cell x hx, by rw [World.frozen?_of_block (a := ⟨n0 + 1, x, none⟩) hbw]; exact h.wa.fz x, he.of_heap (happ.block b hlt (hfar x hx)), he.of_heap ?_⟩
  rw [Below.heap_setCell _ ⟨n0 + 1, x, none⟩ _ _ (show b ≠ n0 + 1 by omega)]
  exact happ.block b hlt (hfar x hx)

def PoMid (n0 : Nat) (w : World) (T : Tr) (W' : Nat → List Nat) (b : Nat) (e : Ev) (wx : World) : Prop := (∃ V', PoSt n0 w T W' V' wx) ∧ EvAt wx b 0 e ∧ b < wx.heap.size

theorem evat_new (w : World) (kk : Int) (tt aa : Nat) (vv ss : Int) (T : TypeId) : EvAt (w.alloc (.cells #[.int .u8 kk, .int .u8 (tt : Int), .int .u8 (aa : Int), .int .i32 vv, .int .i32 ss] T)) w.heap.size 0 ⟨kk, (tt : Int), (aa : Int), vv, ss⟩ := by
  refine ⟨?_, ?_, ?_, ?_, ?_⟩ <;> simp [go_sem]

theorem gStep_obj {W : Nat → List Nat} {par : Nat → Int} {k : Nat} {kk : Int} {tt : Nat} (h : onObj kk = true) : gStep W par k kk tt = upd W tt (W tt ++ [k]) := by unfold gStep; rw [if_pos h]
theorem gStep_com {W : Nat → List Nat} {par : Nat → Int} {k tt p : Nat} (h : par tt = (p : Int)) : gStep W par k 5 tt = upd W p (W p ++ W tt) := by unfold gStep; rw [if_neg (by decide), if_pos rfl, h, Int.toNat_natCast]
theorem gStep_not {W : Nat → List Nat} {par : Nat → Int} {k : Nat} {kk : Int} {tt : Nat} (h : onObj kk = false) (h5 : kk ≠ 5) : gStep W par k kk tt = W := by unfold gStep; rw [if_neg (by rw [h]; decide), if_neg h5]

set_option maxRecDepth 100000 in
set_option maxHeartbeats 4000000 in
theorem playOrder_any (a : Option Addr) (c : Nat) (es : List Ev) (w : World) (hs : SlEv w (.slice a es.length c) es) (hok : ∀ e ∈ es, e.Ok) (hck : (checkG [] es).1 = 0) :
    Calls Try.prog 27 #[.slice a es.length c] w (PoPost w es) := by
  have HS := hidIt hs
  have HOK := hidIt hok
  have HCN := hidIt (check_none es [] hck)
  have hlen := check_len hck
  clear hs hok hck
  have HST := hidIt (po_start w 62 84 es)
  obtain ⟨i0, hi, hz0, hz1, hz2⟩ := info_parts Try.infoInt
  have HI0 := hidIt hi
  have HX0 := hidIt hz0
  have HX1 := hidIt hz1
  have HX2 := hidIt hz2
  clear hi hz0 hz1 hz2
  go_enter Try.func27, Try.ntmps27
  go_wp2_with fail
  go_loopw [10] (fun i wr => ∃ k : Nat, k ≤ es.length ∧ i = .int .i64 k ∧ PoLoop w es k wr) (fun i _ => es.length - (intOf i).toNat)
  case atStart => exact ⟨0, by omega, rfl, HST.out⟩
  case round =>
    clear HST
    obtain ⟨k, hk, rfl, T, W, V, hst, hgi, hga⟩ := hrel
    by_cases hlt : k < es.length
    · have hlt' : (k : Int) < (es.length : Int) := by omega
      have hk0 : (0 : Int) ≤ (k : Int) := by omega
      have HS2 := hidIt (HS.out.below hst.nx)
      obtain ⟨bb, off, rfl, hbw, g0, g1, g2, g3, g4⟩ := HS2.out.at_ k hlt
      have hevo := HOK.out es[k] (List.getElem_mem _)
      have hw0 := HCN.out k hlt
      rw [List.nil_append] at hw0
      obtain ⟨kk, tt, aa, vv, ss, hev, hk0', hk1', ht', ha'⟩ := ev_nat es[k] hevo
      rw [hev] at g0 g1 g2 g3 g4 hw0
      have HGI := hidIt (hgi.step hlt kk tt aa vv ss hev hw0)
      have HGA : Hid (gatherG tr0 (fun _ => []) 0 es = gatherG (stepT T kk tt aa) (gStep W T.par k kk tt) (k + 1) (es.drop (k + 1))) := hga.trans (gather_drop hlt kk tt aa vv ss hev)
      have HM := hidIt (step_ok hgi.jj kk tt aa vv ss hw0).1
      obtain ⟨h60, hkd, hop, ha4⟩ := wrong_facts hw0
      have HJ := hidIt hgi.jj
      have HGB : Hid (∀ x, (W x).length ≤ 60) := fun x => by have := hgi.bound x; omega
      have HSTT := hidIt hst
      have hl1 : w.heap.size + 1 < wr.heap.size := hst.wa.lt
      have hbx := (Below.refl wr.heap.size wr).alloc (Nat.le_refl _) (.cells #[.int .u8 kk, .int .u8 (tt : Int), .int .u8 (aa : Int), .int .i32 vv, .int .i32 ss] 23)
      have HPE := hidIt (hst.below hbx)
      have HEV := hidIt (evat_new wr kk tt aa vv ss 23)
      have HFAR : Hid (∀ y, y ≤ 15 → (V y).ownBlock ≠ some wr.heap.size) := fun y hy e => by have := (hst.wa.own_lt y hy _ e).2; omega
      clear hga hw0 hev hevo hgi hst h60 hkd hbx
      cases hobj : onObj kk with
      | true =>
        have hr := onObj_iff.1 hobj
        have hto := hop (by omega)
        have hrg := HJ.out.open_range hto
        have h15 := HJ.out.n15
        have htt : tt ≤ 15 := by omega
        have htt' : (tt : Int) < 16 := by omega
        have k5 : (kk == 5) = false := by simp; omega
        obtain ⟨va, vc, hva⟩ := HSTT.out.wa.form tt htt
        have c1 := HSTT.out.wa.cell tt htt
        rw [hva] at c1
        have f1 := HSTT.out.wa.fz tt
        have hP1 := (HPE.out.below ((Below.refl _ _).alloc (Nat.le_refl _) (.cells #[.int .i64 (k : Int)] 3))).drew
        have hE1 : EvAt ((wr.alloc (.cells #[.int .u8 kk, .int .u8 (tt : Int), .int .u8 (aa : Int), .int .i32 vv, .int .i32 ss] 23)).alloc (.cells #[.int .i64 (k : Int)] 3)).drew wr.heap.size 0 ⟨kk, (tt : Int), (aa : Int), vv, ss⟩ :=
          HEV.out.of_heap (((Below.refl _ _).alloc (Nat.le_refl _) (.cells #[.int .i64 (k : Int)] 3)).block _ (by simp))
        have c2 : ((wr.alloc (.cells #[.int .u8 kk, .int .u8 (tt : Int), .int .u8 (aa : Int), .int .i32 vv, .int .i32 ss] 23)).alloc (.cells #[.int .i64 (k : Int)] 3)).cell? ⟨w.heap.size + 1, tt, none⟩ = some (.slice va (W tt).length vc) := (hP1.wa.cell tt htt).trans (by rw [hva])
        have hO1 := hP1.wa.own tt htt
        rw [hva] at hO1
        have hN1 := one_new (wr.alloc (.cells #[.int .u8 kk, .int .u8 (tt : Int), .int .u8 (aa : Int), .int .i32 vv, .int .i32 ss] 23)) 3 k
        rw [World.size_alloc] at hN1
        have HP1 := hidIt hP1
        have HE1 := hidIt hE1
        have HO1 := hidIt hO1
        have HN1 := hidIt hN1
        have HB7 : Hid ((W tt).length + 1 ≤ maxLen) := by show _ ≤ _; have := HGB.out tt; unfold maxLen; omega
        have HB8 : Hid (((W tt).length + 1) * 8 ≤ 140737488355328) := by show _ ≤ _; have := HGB.out tt; omega
        have HB9 : Hid (w.heap.size + 1 + 1 ≤ ((wr.alloc (.cells #[.int .u8 kk, .int .u8 (tt : Int), .int .u8 (aa : Int), .int .i32 vv, .int .i32 ss] 23)).alloc (.cells #[.int .i64 (k : Int)] 3)).drew.heap.size) := by show _ ≤ _; simp; omega
        have HVA := hidIt hva
        have HON := hidIt hobj
        clear hr hto hrg h15 hva hobj hop ha4 hP1 hE1 hO1 hN1
        go_upto_region 7 with (go_at_call 38; refine (onObject_any _ _).mono ?_; rintro e w' ⟨rfl, rfl⟩; rw [HON.out])
        go_cut [10] from 10 to 46 (fun s10 wx => s10 = .int .i64 k ∧ PoMid w.heap.size w T (upd W tt (W tt ++ [k])) wr.heap.size ⟨kk, (tt : Int), (aa : Int), vv, ss⟩ wx)
        case first =>
         go_region_law (refine step_append_two rfl (.tmp 23) (.tmp 25) 75 rfl (w.heap.size + 1 + 1) 3 i0 (.int .i64 0) 1 8 Try.underlying75 HI0.out HX0.out HX1.out HX2.out rfl (by decide) (.slice va (W tt).length vc) (W tt).length (intC (W tt)) (by simp [Act.eval]) HO1.out (some ⟨wr.heap.size + 1, 0, none⟩) 1 1 (intC [k]) (by simp [Act.eval]) (fun h => absurd h (by decide)) (fun h => by cases h) rfl HN1.out (intC_one _) HB7.out HB8.out HB9.out ?_; intro v2 w2 hown2 happ2; rw [← HVA.out] at happ2; obtain ⟨x1, x2, x4, x3⟩ := HP1.out.app tt htt happ2 wr.heap.size _ HE1.out hl1 HFAR.out (by simp; omega); rw [HVA.out] at x1; have hown3 : w2.ownsRow (w.heap.size + 1 + 1) 3 1 v2 (W tt ++ [k]).length (intC (W tt ++ [k])) := (by rw [intC_append, List.length_append]; exact hown2); have HPS := hidIt (HP1.out.push tt htt [k] v2 hown3 happ2); have HY : Hid (wr.heap.size < (w2.setCell ⟨w.heap.size + 1, tt, none⟩ v2).heap.size) := (by have h5 := happ2.size; simp at h5; show _ < _; simp; omega); have HX3 := hidIt x3; clear x3; obtain ⟨z0, z1, z2, z3, z4⟩ := x4; simp only [Nat.zero_add] at z0 z1 z2 z3 z4; obtain ⟨a2, c2, rfl⟩ := ownsRow_form hown2; clear hown2 happ2 hown3)
         all_goals (go_wp2_with fail; go_meet; exact ⟨rfl, ⟨_, HPS.out⟩, HX3.out, HY.out⟩)
        case rest =>
          obtain ⟨rfl, ⟨V', hps⟩, ⟨y0, y1, y2, y3, y4⟩, hbl⟩ := hcut
          simp only [Nat.zero_add] at y0 y1 y2 y3 y4
          have HPS := hidIt hps
          clear hps
          go_wp2_with fail
          refine (happen_any w.heap.size T kk tt aa vv ss _ HPS.out.tr HM.out ha').mono ?_
          rintro r w3 ⟨rfl, htr3, hb3, hr3⟩
          have HR : Hid (PoLoop w es (k + 1) w3) := ⟨_, _, V', HPS.out.happen htr3 hb3 hr3, by rw [← gStep_obj HON.out]; exact HGI.out, by rw [← gStep_obj HON.out]; exact HGA.out⟩
          clear htr3 hb3 hr3
          go_wp2_with fail
          go_roundw
          case rel => exact ⟨k + 1, by omega, by go_num, HR.out⟩
          case measure => simp [intOf]; omega
      | false =>
        by_cases h5 : kk = 5
        · subst h5
          have hto := hop (by omega)
          have hrg := HJ.out.open_range hto
          have h15 := HJ.out.n15
          have htt : tt ≤ 15 := by omega
          have htt' : (tt : Int) < 16 := by omega
          have hlow := HJ.out.low tt (by omega) (by omega)
          have hpar := HJ.out.par tt htt
          obtain ⟨p, hp⟩ : ∃ p : Nat, T.par tt = (p : Int) := ⟨(T.par tt).toNat, by omega⟩
          have hp15 : p ≤ 15 := by omega
          have hp' : (p : Int) < 16 := by omega
          obtain ⟨va, vc, hva⟩ := HSTT.out.wa.form tt htt
          obtain ⟨pa, pc, hpa⟩ := HSTT.out.wa.form p hp15
          have c1 := HSTT.out.wa.cell tt htt
          rw [hva] at c1
          have c2 := HSTT.out.wa.cell p hp15
          rw [hpa] at c2
          have hP1 := HPE.out.drew
          have hO1 := hP1.wa.own p hp15
          rw [hpa] at hO1
          have hO2 := hP1.wa.own tt htt
          rw [hva] at hO2
          have HN1 : Hid ((W tt).length = 0 → va = none ∧ vc = 0) := fun h0 => by
            have hn := HSTT.out.wa.nil tt htt (List.length_eq_zero_iff.1 h0)
            rw [hva] at hn
            simp only [Value.slice.injEq] at hn
            exact ⟨hn.1, hn.2.2⟩
          have HN2 := hidIt (own_none hO2)
          have HN3 := hidIt (own_cells hO2)
          have HP1 := hidIt hP1
          have HO1 := hidIt hO1
          have HE1 : Hid (EvAt (wr.alloc (.cells #[.int .u8 5, .int .u8 (tt : Int), .int .u8 (aa : Int), .int .i32 vv, .int .i32 ss] 23)).drew wr.heap.size 0 ⟨5, (tt : Int), (aa : Int), vv, ss⟩) := HEV.out.of_heap rfl
          have HB6 : Hid ((intC (W tt)).length = (W tt).length * 1) := by show _ = _; rw [intC_length, Nat.mul_one]
          have HB7 : Hid ((W p).length + (W tt).length ≤ maxLen) := by show _ ≤ _; have := HGB.out tt; have := HGB.out p; unfold maxLen; omega
          have HB8 : Hid (((W p).length + (W tt).length) * 8 ≤ 140737488355328) := by show _ ≤ _; have := HGB.out tt; have := HGB.out p; omega
          have HB9 : Hid (w.heap.size + 1 + 1 ≤ (wr.alloc (.cells #[.int .u8 5, .int .u8 (tt : Int), .int .u8 (aa : Int), .int .i32 vv, .int .i32 ss] 23)).drew.heap.size) := by show _ ≤ _; simp; omega
          have HPA := hidIt hpa
          have HPP := hidIt hp
          have HON := hidIt hobj
          have HPC := hidIt (parent_any w.heap.size tt T _ HPE.out.tr htt)
          rw [hp] at HPC
          clear hto hrg h15 hva hpa hobj hop ha4 hP1 hO1 hO2 hlow hpar hp
          go_upto_region 10 with (first | (go_at_call 38; refine (onObject_any _ _).mono ?_; rintro e w' ⟨rfl, rfl⟩; rw [HON.out]) | (go_at_call 39; refine HPC.out.mono ?_; rintro e w' ⟨rfl, rfl⟩))
          go_cut [10] from 10 to 46 (fun s10 wx => s10 = .int .i64 k ∧ PoMid w.heap.size w T (upd W p (W p ++ W tt)) wr.heap.size ⟨5, (tt : Int), (aa : Int), vv, ss⟩ wx)
          case first =>
            go_region_law (refine step_append_two rfl (.tmp 37) (.tmp 41) 75 rfl (w.heap.size + 1 + 1) 3 i0 (.int .i64 0) 1 8 Try.underlying75 HI0.out HX0.out HX1.out HX2.out rfl (by decide) (.slice pa (W p).length pc) (W p).length (intC (W p)) (by simp [Act.eval]) HO1.out va (W tt).length vc (intC (W tt)) (by simp [Act.eval]) HN1.out HN2.out HB6.out HN3.out (intC_one _) HB7.out HB8.out HB9.out ?_; intro v2 w2 hown2 happ2; rw [← HPA.out] at happ2; obtain ⟨x1, x2, x4, x3⟩ := HP1.out.app p hp15 happ2 wr.heap.size _ HE1.out hl1 HFAR.out (by simp); rw [HPA.out] at x1; have hown3 : w2.ownsRow (w.heap.size + 1 + 1) 3 1 v2 (W p ++ W tt).length (intC (W p ++ W tt)) := (by rw [intC_append, List.length_append]; exact hown2); have HPS := hidIt (HP1.out.push p hp15 (W tt) v2 hown3 happ2); have HY : Hid (wr.heap.size < (w2.setCell ⟨w.heap.size + 1, p, none⟩ v2).heap.size) := (by have h5 := happ2.size; simp at h5; show _ < _; simp; omega); have HX3 := hidIt x3; clear x3 x4; obtain ⟨a2, c2, rfl⟩ := ownsRow_form hown2; clear hown2 happ2 hown3)
            all_goals (go_wp2_with fail; go_meet; exact ⟨rfl, ⟨_, HPS.out⟩, HX3.out, HY.out⟩)
          case rest =>
            obtain ⟨rfl, ⟨V', hps⟩, ⟨y0, y1, y2, y3, y4⟩, hbl⟩ := hcut
            simp only [Nat.zero_add] at y0 y1 y2 y3 y4
            have HPS := hidIt hps
            clear hps c1 c2
            go_wp2_with fail
            refine (happen_any w.heap.size T 5 tt aa vv ss _ HPS.out.tr HM.out ha').mono ?_
            rintro r w3 ⟨rfl, htr3, hb3, hr3⟩
            have HR : Hid (PoLoop w es (k + 1) w3) := ⟨_, _, V', HPS.out.happen htr3 hb3 hr3, by rw [← gStep_com HPP.out]; exact HGI.out, by rw [← gStep_com HPP.out]; exact HGA.out⟩
            clear htr3 hb3 hr3
            go_wp2_with fail
            go_roundw
            case rel => exact ⟨k + 1, by omega, by go_num, HR.out⟩
            case measure => simp [intOf]; omega
        · have k5 : (kk == 5) = false := by simpa using h5
          have HON := hidIt hobj
          have HSAME := hidIt (gStep_not (W := W) (par := T.par) (k := k) (tt := tt) hobj h5)
          clear hobj hop ha4 h5
          go_wp2_with (go_at_call 38; refine (onObject_any _ _).mono ?_; rintro e w' ⟨rfl, rfl⟩; rw [HON.out])
          refine (happen_any w.heap.size T kk tt aa vv ss _ HPE.out.tr HM.out ha').mono ?_
          rintro r w3 ⟨rfl, htr3, hb3, hr3⟩
          have HR : Hid (PoLoop w es (k + 1) w3) := ⟨_, _, V, HPE.out.happen htr3 hb3 hr3, by have h7 := HGI.out; rw [HSAME.out] at h7; exact h7, by have h7 := HGA.out; rw [HSAME.out] at h7; exact h7⟩
          clear htr3 hb3 hr3
          go_wp2_with fail
          go_roundw
          case rel => exact ⟨k + 1, by omega, by go_num, HR.out⟩
          case measure => simp [intOf]; omega
    · have hge : ¬ (k : Int) < (es.length : Int) := by omega
      obtain ⟨va, vc, hva⟩ := hst.wa.form 0 (by omega)
      have c1 := hst.wa.cell 0 (by omega)
      rw [hva] at c1
      have hord : orderL es = W 0 := by
        unfold orderL
        rw [hga, List.drop_eq_nil_of_le (by omega)]
        rfl
      have hown := hst.wa.own 0 (by omega)
      rw [hva] at hown
      have HR : Hid (wr.ownsRow w.heap.size 3 1 (.slice va (W 0).length vc) (orderL es).length (intC (orderL es)) ∧ Below w.heap.size w wr) := ⟨by rw [hord]; exact ownsRow_mono hown (by omega), hst.nx⟩
      clear hst hgi hga hva hord hown
      go_wp2_with fail
      go_ret
      exact ⟨_, rfl, HR.out.1, HR.out.2⟩

end Go.Proofs.Ytfdalbmopaemgaa
