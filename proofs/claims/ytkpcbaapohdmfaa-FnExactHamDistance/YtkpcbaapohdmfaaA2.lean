import Derived.Test.YtkpcbaapohdmfaaA1
namespace Go.Proofs.Ytkpcbaapohdmfaa
open Go.ChangeShapes Go.WideShapes Go.ChangeAt Go.RowKit
set_option linter.unusedVariables false
open Ham

/-- A variable of its own that holds a number. -/
def Box (w : World) (D : Nat) (x : Nat) : Prop := w.heap[D]? = some (.cells #[.int .i64 (x : Int)] 3 (0, 0))
theorem Box.cell {w : World} {D x : Nat} (h : Box w D x) : w.cell? ⟨D, 0, none⟩ = some (.int .i64 (x : Int)) := cell_of_block h rfl
theorem Box.free {w : World} {D x : Nat} (h : Box w D x) : w.frozen? ⟨D, 0, none⟩ = false := free_of_block h
theorem Box.set {w : World} {D x : Nat} (y : Nat) (h : Box w D x) : Box (w.setCell ⟨D, 0, none⟩ (.int .i64 (y : Int))) D y := block_set h
theorem Box.new (w : World) : Box (w.alloc (.cells #[.int .i64 0] 3)) w.heap.size 0 := heap_alloc_new _ _
theorem Box.low {w w' : World} {D x B : Nat} (h : Box w D x) (hb : Below B w w') (hD : D < B) : Box w' D x := (hb.block D hD).trans h
theorem Box.lt {w : World} {D x : Nat} (h : Box w D x) : D < w.heap.size := (Array.getElem?_eq_some_iff.1 h).1

theorem clo38 (D x : Nat) (k : Int) (u : World) (hx : x < 1000) (h : Box u D x) :
    Calls Try.prog 15 #[.int .i64 k, .pointer (some ⟨D, 0, none⟩)] u fun e u' => e = .returned (.tuple #[]) ∧ u' = u.setCell ⟨D, 0, none⟩ (.int .i64 ((x + 1 : Nat) : Int)) := by
  have c := h.cell
  have f := h.free
  clear h
  go_enter Try.func15, Try.ntmps15
  go_wp2
  go_end0
  exact ⟨rfl, rfl⟩
theorem enters38 (args : Array Value) (u : World) : (callFunc 15 args).run Try.prog u = .ok (.enter 15 args) u := enters_of Try.func15 (by kernel_rfl) rfl args u
theorem weight_any (n : Nat) (w : World) (hn : n < 9223372036854775808) :
    Calls Try.prog 12 #[.int .i64 (n : Int)] w fun e w' => e = .returned (.int .i64 (wt n : Nat)) ∧ Below w.heap.size w w' := by
  have b0 := Box.new w
  have c0 := b0.cell
  have f0 := b0.free
  have hmf : ∀ (fn : Fn) (first cap : Array Value) (w : World), (Instr.makeFunc fn first cap).run Try.prog w = .ok (.func fn first cap) w := fun _ _ _ _ => rfl
  obtain ⟨W0, hW0⟩ : ∃ W0, (w.alloc (.cells #[.int .i64 0] 3)).setCell ⟨w.heap.size, 0, none⟩ (.int .i64 0) = W0 := ⟨_, rfl⟩
  have b1 : Box W0 w.heap.size 0 := by rw [← hW0]; exact b0.set 0
  have g1 : Below w.heap.size w W0 := by rw [← hW0]; exact (below_alloc _ _).setCell (Nat.le_refl _) _
  clear b0
  go_enter Try.func12, Try.ntmps12
  go_wp2_with fail
  refine (each_any n 15 #[.pointer (some ⟨w.heap.size, 0, none⟩)] (fun k u => Box u w.heap.size (wtF n k) ∧ Below w.heap.size w u) _ hn enters38 ⟨b1, g1⟩ ?_ ?_).mono ?_
  · intro k u hk hb h
    simp only [wtF, hb, cond_false]
    exact h
  · intro k u hk hb h
    refine (clo38 w.heap.size (wtF n k) k u (by have := wtF_le n k; omega) h.1).mono ?_
    rintro e u' ⟨rfl, rfl⟩
    have hs : wtF n (k + 1) = wtF n k + 1 := by simp only [wtF, hb, cond_true]
    exact ⟨rfl, by rw [hs]; exact h.1.set _, h.2.setCell (Nat.le_refl _) _⟩
  rintro e w1 ⟨rfl, b2, g2⟩
  have c2 := b2.cell
  clear b2 c0 f0 hW0 b1 g1
  go_wp2
  go_ret
  exact ⟨rfl, g2⟩
theorem isWord_any (n : Int) (w : World) :
    Calls Try.prog 11 #[.int .i64 n] w fun e w' => e = .returned (.bool (decide (0 ≤ n ∧ n < 8192))) ∧ w' = w := by
  by_cases h1 : 0 ≤ n
  · by_cases h2 : n < 8192
    · go_enter Try.func11, Try.ntmps11
      go_wp2
      go_ret
      exact ⟨by simp [h1, h2], rfl⟩
    · go_enter Try.func11, Try.ntmps11
      go_wp2
      go_ret
      exact ⟨by simp [h2], rfl⟩
  · go_enter Try.func11, Try.ntmps11
    go_wp2
    go_ret
    have e : decide (0 ≤ n) = false := decide_eq_false (by omega)
    exact ⟨by rw [e]; rfl, rfl⟩

end Go.Proofs.Ytkpcbaapohdmfaa
