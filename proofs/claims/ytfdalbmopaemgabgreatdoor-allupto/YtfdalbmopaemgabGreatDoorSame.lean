import Derived.Test.YtfdalbmopaemgabGreatDoorW8
namespace Go.Proofs.YtfdalbmopaemgabGreatDoor
open Go.RowKit

/-! ### sameEvents -/
set_option maxHeartbeats 1000000 in
theorem same_any (b1 o1 c1 b2 o2 c2 : Nat) (es : List Ev) (w : World) (h1 : EvsAt w b1 o1 es) (h2 : EvsAt w b2 o2 es) (hm : es.length ≤ 9223372036854775000) :
    Calls Tryz.prog 25 #[.slice (some ⟨b1, o1, none⟩) es.length c1, .slice (some ⟨b2, o2, none⟩) es.length c2] w fun r w' => r = .returned (.bool true) ∧ ∃ n, w' = w.drewN n := by
  go_enter Tryz.func25, Tryz.ntmps25
  go_wp2
  go_loopw [5] (fun i wr => ∃ k : Nat, k ≤ es.length ∧ i = .int .i64 k ∧ ∃ n, wr = w.drewN n) (fun i _ => es.length - (intOf i).toNat)
  case atStart => exact ⟨0, by omega, rfl, 0, rfl⟩
  case round =>
    obtain ⟨k, hk, rfl, n, rfl⟩ := hrel
    by_cases hlt : k < es.length
    · obtain ⟨x0, x1, x2, x3, x4⟩ := h1 k hlt
      obtain ⟨y0, y1, y2, y3, y4⟩ := h2 k hlt
      have hlt' : (k : Int) < (es.length : Int) := by omega
      have hk0 : (0 : Int) ≤ (k : Int) := by omega
      generalize es[k] = e at *
      go_wp2_with fail
      go_quiet (fail)
      go_wp2
      go_roundw
      case rel => exact ⟨k + 1, by omega, by go_num, _, rfl⟩
      case measure => simp [intOf]; omega
    · have hge : ¬ (k : Int) < (es.length : Int) := by omega
      go_wp2
      go_ret
      exact ⟨rfl, n, rfl⟩

set_option maxHeartbeats 400000 in
theorem same_nil (a b : Option Addr) (c d : Nat) (w : World) :
    Calls Tryz.prog 25 #[.slice a 0 c, .slice b 0 d] w fun r w' => r = .returned (.bool true) ∧ ∃ n, w' = w.drewN n := by
  go_enter Tryz.func25, Tryz.ntmps25
  go_wp2
  go_loop [5] (fun i => i = .int .i64 0) (fun _ => 0)
  case atStart => rfl
  case round =>
    obtain rfl := hrel
    go_wp2
    go_ret
    exact ⟨rfl, 0, rfl⟩

theorem same_all (u v : Value) (es : List Ev) (w : World) (h1 : SlEv w u es) (h2 : SlEv w v es) (hm : es.length ≤ 9223372036854775000) :
    Calls Tryz.prog 25 #[u, v] w fun r w' => r = .returned (.bool true) ∧ ∃ n, w' = w.drewN n := by
  rcases h1 with ⟨rfl, a, c, rfl⟩ | ⟨b, off, cap, rfl, _, h3⟩
  · rcases h2 with ⟨_, a', c', rfl⟩ | ⟨b, off, cap, rfl, _, _⟩
    · exact same_nil a a' c c' w
    · exact same_nil a _ c cap w
  · rcases h2 with ⟨rfl, a', c', rfl⟩ | ⟨b', off', cap', rfl, _, h4⟩
    · exact same_nil _ a' cap c' w
    · exact same_any b off cap b' off' cap' es w h3 h4 hm

end Go.Proofs.YtfdalbmopaemgabGreatDoor
