import Derived.Test.YtmijalmihfgolaaDoorV4
/- The writes of an open store that are synced. -/
namespace Go.Proofs.YtmijalmihfgolaaDoor
open Go.ChangeShapes Go.WideShapes Go.ChangeAt Go.RowKit
set_option linter.unusedVariables false
open Tx

attribute [local go_sem] Oper.semAt_some

/-- An open store in its box. -/
abbrev OB (w : World) (o : Nat) (X Y V : Value) (q : Int) : Prop := w.heap[o]? = some (.cells #[X, Y, V, .int .i64 q] 81 (0, 0))
theorem sizeSW (w : World) : (Go.sizeOf 30).run Tryd.prog w = .ok 1 w := Tryd.sizeOf30 w
theorem sliceL_to (x : Option Addr) (n c k : Nat) (h : k ≤ c) (w : World) : (Instr.slice 79 (.slice x n c) none (some (.int .i64 (k : Int))) none).run Tryd.prog w = .ok (.slice (subA 1 x 0 c) k c) w := by
  rw [run_slice_h w 79 x n c (by kernel_rfl) .i64 k (by omega) (by omega), show Tryd.prog.elem 79 = 30 from by kernel_rfl, sizeSW]
  simp [Result.andThen, sliced, subA]
theorem sliceL_from (x : Option Addr) (n c k : Nat) (h : k ≤ n) (w : World) : (Instr.slice 79 (.slice x n c) (some (.int .i64 (k : Int))) none none).run Tryd.prog w = .ok (.slice (subA 1 x k c) (n - k) (c - k)) w := by
  rw [run_slice_l w 79 x n c (by kernel_rfl) .i64 k (by omega) (by omega), show Tryd.prog.elem 79 = 30 from by kernel_rfl, sizeSW]
  simp [Result.andThen, sliced, subA]
theorem LogAt.take {w : World} {x : Option Addr} {c : Nat} {Ls : List (List Wr)} (h : LogAt w (.slice x Ls.length c) Ls) (k : Nat) (hk : k ≤ Ls.length) : LogAt w (.slice (subA 1 x 0 c) k c) (Ls.take k) := by
  obtain ⟨x', c', A, C, e, h0, h1, h2⟩ := h
  cases e
  have el : (Ls.take k).length = k := by simp; omega
  refine ⟨subA 1 x 0 c, c, A, C, by rw [el], by omega, ?_, fun i hi => ?_⟩
  · rw [el]
    intro hn
    obtain ⟨b, off, rfl, hc⟩ := h1 (by omega)
    refine ⟨b, off, subA0 _ _ _ _, fun i hi => ?_⟩
    have := hc i (by omega)
    simp only [slv] at this ⊢
    rw [gl_take hi]
    exact this
  · rw [el] at hi
    rw [gl_take hi]
    exact h2 i (by omega)
theorem LogAt.drop {w : World} {x : Option Addr} {c : Nat} {Ls : List (List Wr)} (h : LogAt w (.slice x Ls.length c) Ls) (k : Nat) : LogAt w (.slice (subA 1 x k c) (Ls.length - k) (c - k)) (Ls.drop k) := by
  obtain ⟨x', c', A, C, e, h0, h1, h2⟩ := h
  cases e
  have el : (Ls.drop k).length = Ls.length - k := by simp
  refine ⟨subA 1 x k c, c - k, fun i => A (k + i), fun i => C (k + i), by rw [el], by omega, ?_, fun i hi => ?_⟩
  · rw [el]
    have := At.drop h1 c k h0
    intro hn
    obtain ⟨b, off, e, hc⟩ := this hn
    refine ⟨b, off, e, fun i hi => ?_⟩
    have := hc i hi
    simp only [slv] at this ⊢
    rw [gl_drop]
    exact this
  · rw [el] at hi
    rw [gl_drop]
    exact h2 (k + i) (by omega)
/-- Transactions are short. -/
def Short (Ls : List (List Wr)) : Prop := Ls.length ≤ 40 ∧ ∀ i, i < Ls.length → (gl Ls i).length ≤ 8
theorem Short.take {Ls : List (List Wr)} (h : Short Ls) (k : Nat) : Short (Ls.take k) := by
  have el : (Ls.take k).length = min k Ls.length := by simp
  exact ⟨by rw [el]; have := h.1; omega, fun i hi => by rw [el] at hi; rw [gl_take (by omega)]; exact h.2 i (by omega)⟩
theorem ConcatL_any (v : Value) (Ls : List (List Wr)) (w : World) (hs : Short Ls) (h : LogAt w v Ls) :
    Calls Tryd.prog 91 #[v] w fun e w' => Below w.heap.size w w' ∧ ∃ v', e = .returned v' ∧ OwnW w' w.heap.size v' Ls.flatten := by
  obtain ⟨x, c, A, C, rfl, h0, h1, h2⟩ := h
  exact Concat_any x c A C Ls w hs.1 hs.2 h1 h2

set_option maxRecDepth 20000 in
set_option maxHeartbeats 1600000 in
theorem synced_any (o : Nat) (X Y V : Value) (k : Nat) (Ls : List (List Wr)) (w : World) (hk : k ≤ Ls.length) (hs : Short Ls) (hB : OB w o X Y V k) (hL : LogAt w V Ls) :
    Calls Tryd.prog 67 #[.pointer (some ⟨o, 0, none⟩)] w fun e w' => Below w.heap.size w w' ∧ ∃ v, e = .returned v ∧ OwnW w' w.heap.size v (flt Ls k) := by
  obtain ⟨x, c, A, C, hV, h0, h1, h2⟩ := id hL
  subst hV
  have hsl := sliceL_to x Ls.length c k (by omega)
  have cC : Hid (∀ w1, Below w.heap.size w w1 → Calls Tryd.prog 91 #[.slice (subA 1 x 0 c) k c] w1 fun e w' => Below w1.heap.size w1 w' ∧ ∃ v', e = .returned v' ∧ OwnW w' w1.heap.size v' (flt Ls k)) := fun w1 hb => ConcatL_any _ (Ls.take k) w1 (hs.take k) (LogAt.below (hL.take k hk) hb)
  obtain ⟨x0, x1, x2, x3⟩ := box4_cells hB
  clear hL h1 h2
  go_enter Tryd.func67, Tryd.ntmps67
  go_wp2
  go_region_held3 (fun W => W.cell? ⟨o, 2, none⟩ = some (.slice x Ls.length c) ∧ W.cell? ⟨o, 3, none⟩ = some (.int .i64 (k : Int)))
    ((first | exact ⟨x2, x3⟩ | exact ⟨n2, n3⟩))
    (first
    | (go_at_call 91; refine (cC.out _ (Below.drew (Below.refl _ _))).mono ?_; rintro e w4 ⟨b4, v4, rfl, o4⟩; have n2 := cell_on (w := w.drew) x2 b4; have n3 := cell_on (w := w.drew) x3 b4))
  all_goals go_wp2
  all_goals go_ret
  exact ⟨Below.comp (Below.drew (Below.refl _ _)) b4, _, rfl, o4⟩
end Go.Proofs.YtmijalmihfgolaaDoor
