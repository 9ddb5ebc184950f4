import Derived.Test.YtfdalbmopaemgabGreatDoorW7
import Derived.Lib.Strings
namespace Go.Proofs.YtfdalbmopaemgabGreatDoor
open Go.RowKit

theorem Tryz.infoEv : (Tryz.prog.info? 45).map (fun i => (i.zero, i.size, i.bytes)) = some (some (.agg #[.int .u8 0, .int .u8 0, .int .u8 0, .int .i32 0, .int .i32 0]), 5, 12) := by kernel_rfl

theorem hidIt {p : Prop} (h : p) : Hid p := h

theorem parseG_fuel : ∀ (f g : Nat) (l : List UInt8) (acc : List Ev), l.length < f → l.length < g → parseG f l acc = parseG g l acc
  | 0, _, _, _, h, _ => by omega
  | _ + 1, 0, _, _, _, h => by omega
  | f + 1, g + 1, l, acc, h1, h2 => by
    unfold parseG
    by_cases hl : l = []
    · rw [if_pos hl, if_pos hl]
    · have hpos : 0 < l.length := List.length_pos_iff.2 hl
      rw [if_neg hl, if_neg hl]
      split
      · rfl
      · split
        · rfl
        · exact parseG_fuel f g _ _ (by simp; omega) (by simp; omega)

theorem upTo10_take (l : List UInt8) : l.take (upTo10 l).length = upTo10 l := by
  unfold upTo10
  exact List.prefix_iff_eq_take.1 (List.takeWhile_prefix _) |>.symm

/-- One line's step. -/
theorem parse_step (s : ByteArray) (p q : Nat) (acc : List Ev) (hp : p < s.size) (hq : p + (upTo10 (s.data.toList.drop p)).length = q) :
    (s.size ≤ q ∨ 60 ≤ acc.length → parseG (s.size + 1) (s.data.toList.drop p) acc = ([], 2, (acc.length : Int))) ∧
    (q < s.size → acc.length < 60 → lineOk (s.extract p q).data.toList = false → parseG (s.size + 1) (s.data.toList.drop p) acc = ([], 2, (acc.length : Int))) ∧
    (q < s.size → acc.length < 60 → lineOk (s.extract p q).data.toList = true → parseG (s.size + 1) (s.data.toList.drop p) acc = parseG (s.size + 1) (s.data.toList.drop (q + 1)) (acc ++ [lineEv (s.extract p q).data.toList])) := by
  have hsz : s.data.toList.length = s.size := by simp
  have hne : s.data.toList.drop p ≠ [] := by
    intro e
    have := congrArg List.length e
    rw [List.length_drop] at this
    simp at this
    omega
  have hex : (s.extract p q).data.toList = upTo10 (s.data.toList.drop p) := by
    rw [Lib.extract_data, show q - p = (upTo10 (s.data.toList.drop p)).length by omega, upTo10_take]
  have hlen : (s.data.toList.drop p).length = s.size - p := by rw [List.length_drop, hsz]
  rw [hex]
  unfold lineOk lineEv
  refine ⟨fun h => ?_, fun h1 h2 h3 => ?_, fun h1 h2 h3 => ?_⟩
  · have hle := upTo10_le (s.data.toList.drop p)
    rw [parseG, if_neg hne, if_pos (by omega)]
  · rw [parseG, if_neg hne, if_neg (by omega)]
    cases hp : parseLineL (upTo10 (s.data.toList.drop p)) with
    | none => rfl
    | some e => rw [hp] at h3; cases h3
  · rw [parseG, if_neg hne, if_neg (by omega)]
    cases hp : parseLineL (upTo10 (s.data.toList.drop p)) with
    | none => rw [hp] at h3; cases h3
    | some e =>
      simp only [Option.getD_some]
      rw [List.drop_drop, show p + ((upTo10 (s.data.toList.drop p)).length + 1) = q + 1 by omega]
      exact parseG_fuel _ _ _ _ (by rw [List.length_drop]; omega) (by rw [List.length_drop]; omega)

theorem lineEnd_q (s : ByteArray) (p q : Nat) (hq : p + (upTo10 (s.data.toList.drop p)).length = q) (w : World) (hs : s.size ≤ 9223372036854775000) (hp : p ≤ s.size) :
    Calls Tryz.prog 72 #[.string s, .int .i64 p] w fun r w' => r = .returned (.int .i64 q) ∧ w' = w := by
  have := lineEnd_any s p w hs hp
  rw [hq] at this
  exact this

theorem extract_size (s : ByteArray) (p q : Nat) : (s.extract p q).size ≤ s.size := by
  have h := congrArg List.length (Lib.extract_data s p q)
  rw [List.length_take, List.length_drop, Array.length_toList, Array.length_toList] at h
  have h1 : (s.extract p q).data.size = (s.extract p q).size := rfl
  have h2 : s.data.size = s.size := rfl
  omega

theorem parseLine_q (s : ByteArray) (p q : Nat) (w : World) (hs : s.size ≤ 9223372036854775000) :
    Calls Tryz.prog 73 #[.string (s.extract p q)] w fun r w' => ∃ (ev : Ev) (ok : Bool), r = .returned (.tuple #[evV ev, .bool ok]) ∧ Below w.heap.size w w' ∧ Hid (lineEv (s.extract p q).data.toList = ev ∧ lineOk (s.extract p q).data.toList = ok) := by
  refine (parseLine_all (s.extract p q) w (Nat.le_trans (extract_size s p q) hs)).mono ?_
  rintro r w' ⟨rfl, hb⟩
  exact ⟨_, _, rfl, hb, rfl, rfl⟩

theorem evC_new (w1 : World) (o : Obj) (T : TypeId) (ev : Ev) : ∀ j u, (evC ev)[j]? = some u → ((w1.alloc o).alloc (.cells #[.int .u8 ev.k, .int .u8 ev.t, .int .u8 ev.a, .int .i32 ev.v, .int .i32 ev.s] T)).cell? ((⟨w1.heap.size + 1, 0, none⟩ : Addr).add j) = some u := by
  intro j u hj
  have hlt : j < 5 := by
    have := (List.getElem?_eq_some_iff.1 hj).1
    simpa [evC] using this
  have hadd : (⟨w1.heap.size + 1, 0, none⟩ : Addr).add j = ⟨w1.heap.size + 1, j, none⟩ := by unfold Addr.add; split <;> simp_all
  rw [hadd]
  have hc : j = 0 ∨ j = 1 ∨ j = 2 ∨ j = 3 ∨ j = 4 := by omega
  rcases hc with rfl | rfl | rfl | rfl | rfl <;> simp [evC] at hj <;> subst hj <;> simp [go_sem]

theorem evC_one (ev : Ev) : ∀ u ∈ evC ev, u.oneCell' = true := by
  intro u hu
  simp [evC] at hu
  rcases hu with rfl | rfl | rfl | rfl | rfl <;> rfl

theorem tup3 {v : Value} {a b c d : Int} (h : a = b) (h' : c = d) : Ending.returned (.tuple #[v, .int .i64 a, .int .i64 c]) = .returned (.tuple #[v, .int .i64 b, .int .i64 d]) := by rw [h, h']

def ParsePost (w : World) (l : List UInt8) (r : Ending) (w' : World) : Prop :=
  ∃ v, r = .returned (.tuple #[v, .int .i64 (parseL l).2.1, .int .i64 (parseL l).2.2]) ∧ Own w' w.heap.size v (parseL l).1 ∧ Below w.heap.size w w'

set_option maxRecDepth 100000 in
set_option maxHeartbeats 1000000 in
theorem hparse_any (s : ByteArray) (w : World) (hs : s.size ≤ 9223372036854775000) :
    Calls Tryz.prog 47 #[.string s] w (ParsePost w s.data.toList) := by
  have hsz : s.data.toList.length = s.size := by simp
  by_cases hl : 2100 < s.size
  · have hl' : (2100 : Int) < (s.size : Int) := by omega
    have hP : parseL s.data.toList = ([], 1, 0) := by unfold parseL; rw [if_pos (by omega)]
    have HP : Hid (parseL s.data.toList = ([], 1, 0)) := hP
    clear hP hsz
    go_enter Tryz.func47, Tryz.ntmps47
    go_wp2
    go_ret3
    exact ⟨.slice none 0 0, tup3 (by rw [HP.out]) (by rw [HP.out]), by rw [HP.out]; exact Own.nil _ _, Below.refl _ _⟩
  · have hl' : ¬ (2100 : Int) < (s.size : Int) := by omega
    have hP : parseL s.data.toList = parseG (s.size + 1) (s.data.toList.drop 0) [] := by unfold parseL; rw [if_neg (by omega), List.drop_zero, hsz]
    have HP : Hid (parseL s.data.toList = parseG (s.size + 1) (s.data.toList.drop 0) []) := hP
    clear hP hsz
    obtain ⟨i0, hi, hz0, hz1, hz2⟩ := info_parts Tryz.infoEv
    have HI : Hid (Tryz.prog.info? 45 = some i0) := hi
    have HZ0 : Hid (i0.zero = some (.agg #[.int .u8 0, .int .u8 0, .int .u8 0, .int .i32 0, .int .i32 0])) := hz0
    have HZ1 : Hid (i0.size = 5) := hz1
    have HZ2 : Hid (i0.bytes = 12) := hz2
    clear hi hz0 hz1 hz2
    go_enter Tryz.func47, Tryz.ntmps47
    go_wp2
    go_loopw [5, 6] (fun h st wr => ∃ (acc : List Ev) (p : Nat), p ≤ s.size ∧ st = .int .i64 p ∧ acc.length ≤ 60 ∧ Own wr w.heap.size h acc ∧ Below w.heap.size w wr ∧ Hid (parseL s.data.toList = parseG (s.size + 1) (s.data.toList.drop p) acc)) (fun _ st _ => s.size - (intOf st).toNat)
    case atStart => exact ⟨[], 0, by omega, rfl, by simp, Own.nil _ _, Below.refl _ _, HP⟩
    case round =>
      obtain ⟨acc, p, hp, rfl, hacc, hown, hnx, HQ⟩ := hrel
      obtain ⟨a, cap, rfl⟩ := hown.form
      by_cases hlt : p < s.size
      · have hlt' : (p : Int) < (s.size : Int) := by omega
        obtain ⟨q, hq⟩ : ∃ q, p + (upTo10 (s.data.toList.drop p)).length = q := ⟨_, rfl⟩
        have HS := parse_step s p q acc hlt hq
        have HSS := hidIt HS
        have hqp : p ≤ q := by omega
        have hqs : q ≤ s.size := by
          have := upTo10_le (s.data.toList.drop p)
          have hsz : s.data.toList.length = s.size := by simp
          rw [List.length_drop] at this
          omega
        have HQQ : Hid (p + (upTo10 (s.data.toList.drop p)).length = q) := hq
        clear HS hq
        by_cases hx : s.size ≤ q ∨ 60 ≤ acc.length
        · have HF : Hid (parseL s.data.toList = ([], 2, (acc.length : Int))) := by
            show _ = _
            rw [HQ.out, HSS.out.1 hx]
          by_cases hq' : s.size ≤ q
          · have hx1 : (s.size : Int) ≤ (q : Int) := by omega
            clear hx
            go_wp2_with (go_at_call 72; refine (lineEnd_q s p q HQQ.out _ hs hp).mono ?_; rintro r w' ⟨rfl, rfl⟩)
            go_ret3
            exact ⟨.slice none 0 0, tup3 (by rw [HF.out]) (by rw [HF.out]), by rw [HF.out]; exact Own.nil _ _, hnx⟩
          · have hx1 : (q : Int) < (s.size : Int) := by omega
            have hx2 : (60 : Int) ≤ (acc.length : Int) := by omega
            clear hx
            go_wp2_with (go_at_call 72; refine (lineEnd_q s p q HQQ.out _ hs hp).mono ?_; rintro r w' ⟨rfl, rfl⟩)
            go_ret3
            exact ⟨.slice none 0 0, tup3 (by rw [HF.out]) (by rw [HF.out]), by rw [HF.out]; exact Own.nil _ _, hnx⟩
        · have hx1 : (q : Int) < (s.size : Int) := by omega
          have hx2 : (acc.length : Int) < 60 := by omega
          have hx3 : decide ((60 : Int) ≤ (acc.length : Int)) = false := by simp; omega
          have HX := hidIt hx
          clear hx
          go_wp2_with (go_at_call 72; refine (lineEnd_q s p q HQQ.out _ hs hp).mono ?_; rintro r w' ⟨rfl, rfl⟩)
          refine (parseLine_q s p q _ hs).mono ?_
          rintro r w1 ⟨ev, ok, rfl, hb, HE⟩
          have hw1 : w.heap.size ≤ w1.heap.size := Nat.le_trans hnx.size hb.size
          cases ok
          · have HF : Hid (parseL s.data.toList = ([], 2, (acc.length : Int))) := by
              show _ = _
              rw [HQ.out, HSS.out.2.1 (by omega) (by omega) HE.out.2]
            go_wp2
            go_ret3
            exact ⟨.slice none 0 0, tup3 (by rw [HF.out]) (by rw [HF.out]), by rw [HF.out]; exact Own.nil _ _, (hnx.trans (hb.mono hnx.size)).alloc hw1 _⟩
          · have hown1 := hown.below hb
            go_wp2_with (at_builtin; refine wpList_append_own _ rfl _ _ 31 rfl w.heap.size 45 i0 (.agg #[.int .u8 0, .int .u8 0, .int .u8 0, .int .i32 0, .int .i32 0]) 5 12 Tryz.underlying31 HI.out HZ0.out HZ1.out HZ2.out rfl (by decide) _ _ _ rfl (World.ownsRow.alloc (World.ownsRow.alloc hown1 _) _) ⟨w1.heap.size + 1, 0, none⟩ 1 1 (evC ev) rfl rfl ?c1 ?c2 ?c3 ?c4 ?c5 ?_)
            case c1 => exact evC_new w1 _ _ ev
            case c2 => exact evC_one ev
            case c3 => unfold maxLen; omega
            case c4 => omega
            case c5 => simp; omega
            · intro v' w2 hown' hgrow _
              have HF : Hid (parseL s.data.toList = parseG (s.size + 1) (s.data.toList.drop (q + 1)) (acc ++ [ev])) := by
                show _ = _
                rw [HQ.out, HSS.out.2.2 (by omega) (by omega) HE.out.2, HE.out.1]
              have hnx2 : Below w.heap.size w w2 := by
                refine Below.grown (((hnx.trans (hb.mono hnx.size)).alloc hw1 _).alloc (by simp; omega) _) hgrow (by simp; omega) (fun k hk => ?_)
                exact (World.ownsRow.lt hown k hk).1
              have hown2 : Own w2 w.heap.size v' (acc ++ [ev]) := by
                unfold Own
                rw [evCells_append, List.length_append]
                simpa [evCells] using hown'
              clear hown' hgrow
              go_wp2
              go_roundw
              case rel => exact ⟨acc ++ [ev], q + 1, by omega, by go_num, by simp; omega, hown2, hnx2, HF⟩
              case measure => simp [intOf]; omega
      · have hge : ¬ (p : Int) < (s.size : Int) := by omega
        have HF : Hid (parseL s.data.toList = (acc, 0, 0)) := by
          show _ = _
          rw [HQ.out, List.drop_eq_nil_of_le (by simp; omega)]
          rfl
        go_wp2
        go_ret3
        exact ⟨.slice a acc.length cap, tup3 (by rw [HF.out]) (by rw [HF.out]), by rw [HF.out]; exact hown, hnx⟩

set_option maxHeartbeats 400000 in
theorem parse_all (s : ByteArray) (w : World) (hs : s.size ≤ 9223372036854775000) :
    Calls Tryz.prog 23 #[.string s] w (ParsePost w s.data.toList) := by
  go_enter Tryz.func23, Tryz.ntmps23
  go_wp2_with (go_at_call 47; refine (hparse_any s _ hs).mono ?_; rintro r w1 ⟨v, rfl, h1, h2⟩)
  go_ret3
  exact ⟨v, rfl, h1, h2⟩

end Go.Proofs.YtfdalbmopaemgabGreatDoor
