import Derived.Test.YtfdalbmopaemgabZX7
import Derived.Test.YtfdalbmopaemgabZG4
namespace Go.Proofs.Ytfdalbmopaemgab
open Go.RowKit

theorem Try.infoU8 : (Try.prog.info? 5).map (fun i => (i.zero, i.size, i.bytes)) = some (some (.int .u8 0), 1, 1) := by kernel_rfl

def byC (l : List Nat) : List Value := l.map fun (u : Nat) => .int .u8 (u : Int)

theorem by_new (w : World) (T : TypeId) (x : Int) : ∀ j u, ([.int .u8 x] : List Value)[j]? = some u → (w.alloc (.cells #[.int .u8 x] T)).cell? ((⟨w.heap.size, 0, none⟩ : Addr).add j) = some u := by
  intro j u hj
  cases j with
  | zero => simp at hj; subst hj; simp [go_sem, Addr.add]
  | succ j => simp at hj

def AmPost (w : World) (up : Nat → Nat) (c : Nat) (r : Ending) (w' : World) : Prop := ∃ u : Nat, r = .returned (.int .u8 (u : Int)) ∧ 1 ≤ u ∧ u ≤ 15 ∧ insideN up c 256 u = true ∧ Below w.heap.size w w'

set_option maxRecDepth 100000 in
set_option maxHeartbeats 4000000 in
theorem among_any (b c t : Nat) (up : Nat → Nat) (op : Nat → Bool) (w : World) (h : FamAt w b up op) (hc1 : 1 ≤ c) (hc : c ≤ 15) (ht : t ≤ 255) (hup : ∀ i, i < 256 → up i < 256) :
    Calls Try.prog 20 #[.pointer (some ⟨b, 0, none⟩), .int .u8 (c : Int), .int .u8 (t : Int)] w (AmPost w up c) := by
  have HF := hidIt h
  have HU := hidIt hup
  obtain ⟨i0, hi, hz0, hz1, hz2⟩ := info_parts Try.infoU8
  have HI := hidIt hi
  have HZ0 := hidIt hz0
  have HZ1 := hidIt hz1
  have HZ2 := hidIt hz2
  clear h hup hi hz0 hz1 hz2
  go_enter Try.func20, Try.ntmps20
  go_wp2_with fail
  go_loopw [7, 8] (fun l i wr => ∃ (k : Nat) (us : List Nat), 1 ≤ k ∧ k ≤ 16 ∧ i = .int .u8 (k : Int) ∧ us.length < k ∧ Hid ((∀ u ∈ us, 1 ≤ u ∧ u ≤ 15 ∧ insideN up c 256 u = true) ∧ (1 ≤ c → c < k → us ≠ [])) ∧ wr.ownsRow w.heap.size 5 1 l us.length (byC us) ∧ Below w.heap.size w wr) (fun _ i _ => 16 - (intOf i).toNat)
  case atStart => exact ⟨1, [], by omega, by omega, rfl, by simp, ⟨fun u hu => (by cases hu), fun h1 h2 => by omega⟩, World.ownsRow_nil _ _ _ _, Below.refl _ _⟩
  case round =>
    obtain ⟨k, us, hk1, hk16, rfl, hul, HUS, hown, hnx⟩ := hrel
    obtain ⟨la, lc, hlf⟩ := ownsRow_form hown
    subst hlf
    have hszr := hnx.size
    by_cases hlt : k < 16
    · have hlt' : (k : Int) < 16 := by omega
      have HC := hidIt (inside_any b k c up op wr (HF.out.of_heap (hnx.block _ HF.out.lt) hnx.size) (by omega) HU.out)
      cases hin : insideN up c 256 k with
      | false =>
        rw [hin] at HC
        have HN : Hid ((∀ u ∈ us, 1 ≤ u ∧ u ≤ 15 ∧ insideN up c 256 u = true) ∧ (1 ≤ c → c < k + 1 → us ≠ [])) := ⟨HUS.out.1, fun h1 h2 => by
          by_cases e : c = k
          · subst e
            rw [insideN, if_pos (Or.inl rfl)] at hin
            simp at hin
          · exact HUS.out.2 h1 (by omega)⟩
        have HO := hidIt (And.intro hown hnx)
        clear hin hown hnx
        go_wp2_with fail
        refine HC.out.mono ?_
        rintro r w9 ⟨rfl, rfl⟩
        go_wp2_with fail
        go_roundw
        case rel => exact ⟨k + 1, us, by omega, by omega, by go_num, by omega, HN, HO.out.1, HO.out.2⟩
        case measure => simp [intOf]; omega
      | true =>
        rw [hin] at HC
        have HN : Hid ((∀ u ∈ us ++ [k], 1 ≤ u ∧ u ≤ 15 ∧ insideN up c 256 u = true) ∧ (1 ≤ c → c < k + 1 → us ++ [k] ≠ [])) := ⟨fun u hu => by
          rw [List.mem_append, List.mem_singleton] at hu
          rcases hu with hu | rfl
          · exact HUS.out.1 u hu
          · exact ⟨hk1, by omega, hin⟩, fun _ _ => by simp⟩
        have HB1 : Hid (Below w.heap.size w (wr.alloc (.cells #[.int .u8 (k : Int)] 5))) := hnx.alloc (by omega) _
        clear hin
        go_wp2_with fail
        refine HC.out.mono ?_
        rintro r w9 ⟨rfl, rfl⟩
        go_wp2_with (at_builtin; refine wpList_append_own _ rfl _ _ 78 rfl w.heap.size 5 i0 (.int .u8 0) 1 1 Try.underlying78 HI.out HZ0.out HZ1.out HZ2.out rfl (by decide) _ _ _ rfl (World.ownsRow.alloc hown _) ⟨w9.heap.size, 0, none⟩ 1 1 [.int .u8 (k : Int)] rfl rfl ?c1 ?c2 ?c3 ?c4 ?c5 ?_)
        case c1 => exact by_new w9 _ _
        case c2 => intro u hu; simp at hu; subst hu; rfl
        case c3 => unfold maxLen; omega
        case c4 => omega
        case c5 => simp; omega
        · intro v' w3 hown' hgrow _
          have hnx2 : Below w.heap.size w w3 := by
            refine Below.grown HB1.out hgrow (by simp; omega) (fun j hj => ?_)
            exact (World.ownsRow.lt hown j hj).1
          have hown3 : w3.ownsRow w.heap.size 5 1 v' (us ++ [k]).length (byC (us ++ [k])) := by
            have e1 : byC (us ++ [k]) = byC us ++ [.int .u8 (k : Int)] := by simp [byC]
            rw [e1, List.length_append]
            exact hown'
          clear hown' hgrow
          go_wp2
          go_roundw
          case rel => exact ⟨k + 1, us ++ [k], by omega, by omega, by go_num, by simp; omega, HN, hown3, hnx2⟩
          case measure => simp [intOf]; omega
    · have hlt' : ¬ (k : Int) < 16 := by omega
      have hne := HUS.out.2 hc1 (by omega)
      have hpos : 0 < us.length := List.length_pos_iff.2 hne
      have hpos' : (0 : Int) < (us.length : Int) := by omega
      have e0 : ((us.length : Int) == 0) = false := by rw [beq_eq_false_iff_ne]; omega
      have HM : Hid (t % us.length < us.length) := Nat.mod_lt _ hpos
      have hw64 : wrap64 (t : Int) = (t : Int) := by unfold wrap64; omega
      have htm : (t : Int).tmod (us.length : Int) = ((t % us.length : Nat) : Int) := by rw [Int.tmod_eq_emod_of_nonneg (by omega)]; simp
      have hm1 : ((t % us.length : Nat) : Int) < (us.length : Int) := by have := HM.out; omega
      obtain ⟨u, hu⟩ : ∃ u, us[t % us.length]'HM.out = u := ⟨_, rfl⟩
      have hum := HUS.out.1 u (by rw [← hu]; exact List.getElem_mem _)
      cases la with
      | none => have := own_none hown rfl; omega
      | some ad =>
        have hcell := own_cells hown ad rfl (t % us.length) (.int .u8 (u : Int)) (by unfold byC; rw [List.getElem?_map, List.getElem?_eq_getElem HM.out, hu]; rfl)
        obtain ⟨g, rfl⟩ : ∃ g, ad = ⟨g, 0, none⟩ := by
          rcases hown.2 with hq | ⟨g, cap, cur, hq, _⟩
          · have := hq.1
            simp at this
          · simp only [Value.slice.injEq, Option.some.injEq] at hq
            exact ⟨g, hq.1⟩
        rw [Addr.add_mid, Nat.zero_add] at hcell
        have HUM := hidIt hum
        clear hown hu hum hne
        go_wp2_with fail
        go_ret
        exact ⟨u, rfl, HUM.out.1, HUM.out.2.1, HUM.out.2.2, hnx⟩

end Go.Proofs.Ytfdalbmopaemgab
