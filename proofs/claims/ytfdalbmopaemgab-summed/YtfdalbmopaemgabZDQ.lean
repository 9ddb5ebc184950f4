import Derived.Test.YtfdalbmopaemgabZD
namespace Go.Proofs.Ytfdalbmopaemgab
open Go.RowKit

/-- The slice value v holds the numbers ls. -/
def SlI (w : World) (v : Value) (ls : List Int) : Prop :=
  (ls = [] ∧ ∃ a c, v = .slice a 0 c) ∨ (∃ b off cap, v = .slice (some ⟨b, off, none⟩) ls.length cap ∧ b < w.heap.size ∧ ∀ (i : Nat) (h : i < ls.length), w.cell? ⟨b, off + i, none⟩ = some (.int .i32 ls[i]))

theorem SlI.form {w : World} {v : Value} {ls : List Int} (h : SlI w v ls) : ∃ a c, v = .slice a ls.length c := by
  rcases h with ⟨rfl, a, c, rfl⟩ | ⟨b, off, c, rfl, _⟩
  · exact ⟨a, c, rfl⟩
  · exact ⟨_, c, rfl⟩

theorem SlI.at_ {w wr : World} {a : Option Addr} {c : Nat} {ls : List Int} (h : SlI w (.slice a ls.length c) ls) (hb : Below w.heap.size w wr) (k : Nat) (hk : k < ls.length) : ∃ b off, a = some ⟨b, off, none⟩ ∧ b < wr.heap.size ∧ wr.cell? ⟨b, off + k, none⟩ = some (.int .i32 (ls.getD k 0)) := by
  rcases h with ⟨rfl, _⟩ | ⟨b, off, cap, hv, hlt, hc⟩
  · simp at hk
  · simp only [Value.slice.injEq] at hv
    obtain ⟨rfl, _, rfl⟩ := hv
    refine ⟨b, off, rfl, Nat.lt_of_lt_of_le hlt hb.size, ?_⟩
    rw [bcells hb _ _ hlt, hc k hk]
    simp [List.getD, hk]

theorem wrap32_lo (z : Int) : -2147483648 ≤ wrap32 z := by unfold wrap32; omega
theorem wrap32_hi (z : Int) : wrap32 z ≤ 2147483647 := by unfold wrap32; omega

theorem sumL_fit (f : Nat → Int) : ∀ k, -2147483648 ≤ sumL f k ∧ sumL f k ≤ 2147483647
  | 0 => by unfold sumL; omega
  | k + 1 => by unfold sumL; exact ⟨wrap32_lo _, wrap32_hi _⟩

theorem up_ok (f : Nat → Int) (hf : ∀ i, -2147483648 ≤ f i ∧ f i ≤ 2147483647) : ∀ k, k ≤ 15 → ∀ e ∈ upL f k, e.Ok
  | 0, _, e, he => by cases he
  | k + 1, hk, e, he => by
    have h1 := hf k
    have h2 := sumL_fit f k
    simp only [upL, List.mem_append, List.mem_singleton] at he
    rcases he with (he | rfl) | rfl
    · exact up_ok f hf k (by omega) e he
    · constructor <;> simp only [bgE] <;> omega
    · constructor <;> simp only [adE] <;> omega

theorem dn_ok (cut : Int) (n : Nat) (hn : n ≤ 15) : ∀ j, ∀ e ∈ dnL cut n j, e.Ok
  | 0, e, he => by cases he
  | j + 1, e, he => by
    simp only [dnL, List.mem_append, List.mem_singleton] at he
    rcases he with he | rfl
    · exact dn_ok cut n hn j e he
    · constructor <;> simp only [enE] <;> (try split) <;> omega

theorem ch_ok (f : Nat → Int) (hf : ∀ i, -2147483648 ≤ f i ∧ f i ≤ 2147483647) (cut : Int) (n : Nat) (hn : n ≤ 15) : ∀ e ∈ chL f cut n, e.Ok := by
  intro e he
  unfold chL at he
  rw [List.mem_append] at he
  rcases he with he | he
  · exact up_ok f hf n hn e he
  · exact dn_ok cut n hn n e he

theorem own_snoc {w : World} {B : Nat} {v : Value} {es : List Ev} {e : Ev} (h : w.ownsRow B 71 5 v (es.length + 1) (evCells es ++ evC e)) : Own w B v (es ++ [e]) := by
  unfold Own
  rw [evCells_append, List.length_append]
  simpa [evCells] using h

def DeLoop (w : World) (f : Nat → Int) (cut : Int) (k : Nat) (h s kp : Value) (wr : World) : Prop :=
  s = .int .i32 (sumL f k) ∧ kp = .int .i32 (keptL f cut k) ∧ Own wr w.heap.size h (upL f k) ∧ Below w.heap.size w wr

theorem Try.infoEv5 : (Try.prog.info? 71).map (fun i => (i.zero, i.size, i.bytes)) = some (some (.agg #[.int .u8 0, .int .u8 0, .int .u8 0, .int .i32 0, .int .i32 0]), 5, 12) := by kernel_rfl

def DeLoop2 (w : World) (f : Nat → Int) (cut : Int) (n j : Nat) (h : Value) (wr : World) : Prop :=
  Own wr w.heap.size h (upL f n ++ dnL cut n j) ∧ Below w.heap.size w wr

end Go.Proofs.Ytfdalbmopaemgab
