import Derived.Test.YtfdalbmopaemgabZG2
import Derived.Deep.CutRange
namespace Go.Proofs.Ytfdalbmopaemgab
open Go.RowKit

theorem one_new (w : World) (T : TypeId) (k : Nat) : ∀ ad, some (⟨w.heap.size, 0, none⟩ : Addr) = some ad → ∀ j u, (intC [k])[j]? = some u → (w.alloc (.cells #[.int .i64 (k : Int)] T)).drew.cell? (ad.add j) = some u := by
  intro ad had j u hu
  obtain rfl := Option.some.inj had
  cases j with
  | zero => simp [intC] at hu; subst hu; simp [go_sem, Addr.add]
  | succ j => simp [intC] at hu

theorem own_cells {w : World} {B : Nat} {e : TypeId} {va : Option Addr} {n c : Nat} {xs : List Value} (h : w.ownsRow B e 1 (.slice va n c) n xs) : ∀ ad, va = some ad → ∀ j u, xs[j]? = some u → w.cell? (ad.add j) = some u := by
  intro ad had j u hu
  subst had
  rcases h.2 with ⟨h1, _⟩ | ⟨g, cap, cur, h1, _⟩
  · cases h1
  · simp only [Value.slice.injEq, Option.some.injEq] at h1
    obtain ⟨rfl, _, rfl⟩ := h1
    exact h.cells (g := g) rfl j u hu

theorem own_none {w : World} {B : Nat} {e : TypeId} {va : Option Addr} {n c : Nat} {xs : List Value} (h : w.ownsRow B e 1 (.slice va n c) n xs) : va = none → n = 0 := by
  intro hva
  subst hva
  rcases h.2 with ⟨h1, h2⟩ | ⟨g, cap, cur, h1, _⟩
  · exact h2
  · cases h1

theorem PoSt.happen {n0 : Nat} {w : World} {T T' : Tr} {W : Nat → List Nat} {V : Nat → Value} {wr w3 : World} (h : PoSt n0 w T W V wr) (htr : TrAt w3 n0 T') (hb : Below n0 wr w3) (hr : ∀ k, k ≠ n0 → k < wr.heap.size → w3.heap[k]? = wr.heap[k]?) : PoSt n0 w T' W V w3 :=
  ⟨htr, h.wa.stay hb.size fun k hk hl => hr k (by omega) hl, h.nx.trans hb⟩

/-- What is known behind an append, ahead of the store. -/
theorem PoSt.app {n0 : Nat} {w : World} {T : Tr} {W : Nat → List Nat} {V : Nat → Value} {W1 w2 : World} (h : PoSt n0 w T W V W1) (x : Nat) (hx : x ≤ 15) {v' : Value} {m : Nat} (happ : AppPost0 W1 w2 (V x) v' m) (b : Nat) (e : Ev) (he : EvAt W1 b 0 e) (hb : n0 + 1 < b) (hfar : ∀ y, y ≤ 15 → (V y).ownBlock ≠ some b) (hlt : b < W1.heap.size) :
    w2.cell? ⟨n0 + 1, x, none⟩ = some (V x) ∧ w2.frozen? ⟨n0 + 1, x, none⟩ = false ∧ EvAt w2 b 0 e ∧ EvAt (w2.setCell ⟨n0 + 1, x, none⟩ v') b 0 e := by
  have hbw : w2.heap[n0 + 1]? = W1.heap[n0 + 1]? := happ.block _ h.wa.lt (fun q => by have := (h.wa.own_lt x hx _ q).1; omega)
  refine ⟨by rw [World.cell?_of_block (a := ⟨n0 + 1, x, none⟩) hbw]; exact h.wa.cell x hx, by rw [World.frozen?_of_block (a := ⟨n0 + 1, x, none⟩) hbw]; exact h.wa.fz x, he.of_heap (happ.block b hlt (hfar x hx)), he.of_heap ?_⟩
  rw [Below.heap_setCell _ ⟨n0 + 1, x, none⟩ _ _ (show b ≠ n0 + 1 by omega)]
  exact happ.block b hlt (hfar x hx)

def PoMid (n0 : Nat) (w : World) (T : Tr) (W' : Nat → List Nat) (b : Nat) (e : Ev) (wx : World) : Prop := (∃ V', PoSt n0 w T W' V' wx) ∧ EvAt wx b 0 e ∧ b < wx.heap.size

theorem evat_new (w : World) (kk : Int) (tt aa : Nat) (vv ss : Int) (T : TypeId) : EvAt (w.alloc (.cells #[.int .u8 kk, .int .u8 (tt : Int), .int .u8 (aa : Int), .int .i32 vv, .int .i32 ss] T)) w.heap.size 0 ⟨kk, (tt : Int), (aa : Int), vv, ss⟩ := by
  refine ⟨?_, ?_, ?_, ?_, ?_⟩ <;> simp [go_sem]

theorem gStep_obj {W : Nat → List Nat} {par : Nat → Int} {k : Nat} {kk : Int} {tt : Nat} (h : onObj kk = true) : gStep W par k kk tt = upd W tt (W tt ++ [k]) := by unfold gStep; rw [if_pos h]
theorem gStep_com {W : Nat → List Nat} {par : Nat → Int} {k tt p : Nat} (h : par tt = (p : Int)) : gStep W par k 5 tt = upd W p (W p ++ W tt) := by unfold gStep; rw [if_neg (by decide), if_pos rfl, h, Int.toNat_natCast]
theorem gStep_not {W : Nat → List Nat} {par : Nat → Int} {k : Nat} {kk : Int} {tt : Nat} (h : onObj kk = false) (h5 : kk ≠ 5) : gStep W par k kk tt = W := by unfold gStep; rw [if_neg (by rw [h]; decide), if_neg h5]

end Go.Proofs.Ytfdalbmopaemgab
