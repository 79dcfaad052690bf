import Derived.Test.YtcfjkejaenmibaaDoorL1
/- What the laws do with rings: compare, mark, hold. -/
namespace Go.Proofs.YtcfjkejaenmibaaDoor
open Go.ChangeShapes Go.WideShapes Go.ChangeAt Go.RowKit
set_option linter.unusedVariables false
open Lg

attribute [local go_sem] Oper.semAt_some

/-- A ring as a value. -/
abbrev rv (a : Option Addr) (n c : Nat) (h cy t : Int) : Value := .agg #[.slice a n c, .int .i64 h, .int .i64 cy, .int .i64 t]
set_option maxHeartbeats 2000000 in
theorem eqRing_same (a a' : Option Addr) (n c c' : Nat) (h cy t : Int) (g : Nat → Sl) (w : World) (hn : n ≤ 9223372036854775807) (hc : RowS w a n g) (hc' : RowS w a' n g) :
    Calls Tryd.prog 13 #[rv a n c h cy t, rv a' n c' h cy t] w fun e w' => e = .returned (.bool true) ∧ Below w.heap.size w w' := by
  obtain ⟨W0, hW0⟩ : ∃ W0, (w.alloc (.cells #[.slice a n c, .int .i64 h, .int .i64 cy, .int .i64 t] 24)).alloc (.cells #[.slice a' n c', .int .i64 h, .int .i64 cy, .int .i64 t] 24) = W0 := ⟨_, rfl⟩
  have q0 : Below w.heap.size w W0 := by subst hW0; exact ba2 _ _ _
  obtain ⟨B1, B2⟩ : W0.heap[w.heap.size]? = some (.cells #[.slice a n c, .int .i64 h, .int .i64 cy, .int .i64 t] 24 (0, 0)) ∧ W0.heap[w.heap.size + 1]? = some (.cells #[.slice a' n c', .int .i64 h, .int .i64 cy, .int .i64 t] 24 (0, 0)) := by subst hW0; exact al2 _ _ _
  have HA : Hid _ := B1
  have HB : Hid _ := B2
  have c1 := eqSlotS_same a a' n c c' g W0 hn (hc.below q0) (hc'.below q0)
  obtain ⟨x0, x1, x2, x3⟩ := box4_cells B1
  obtain ⟨y0, y1, y2, y3⟩ := box4_cells B2
  have e0 : (h != h) = false := by simp
  have e1 : (cy != cy) = false := by simp
  have e2 : (t != t) = false := by simp
  clear B1 B2 hc hc'
  go_enter Tryd.func13, Tryd.ntmps13
  go_wp2_with fail
  refine c1.mono ?_
  rintro e w1 ⟨rfl, b1⟩
  clear x0 x1 x2 x3 y0 y1 y2 y3 hW0
  obtain ⟨x0, x1, x2, x3⟩ := box4_cells (box_on HA.out b1)
  obtain ⟨y0, y1, y2, y3⟩ := box4_cells (box_on HB.out b1)
  go_wp2_with fail
  go_ret
  exact ⟨rfl, Below.comp q0 b1⟩
theorem markRing_any (B C : Nat) (a : Option Addr) (n c : Nat) (h cy t : Int) (f : Nat → Sl) (k : Nat) (w : World) (hk1 : 1 ≤ k) (hkn : k + n * 4 ≤ 100000000) (m : MineS w B C a n f) :
    Calls Tryd.prog 14 #[rv a n c h cy t, .int .i64 k] w fun e w' => e = .returned (.int .i64 ((k + n * 4 : Nat) : Int)) ∧ Out B C w w' ∧ MineS w' B C a n (mks k) := by
  have q0 := below_alloc w (.cells #[.slice a n c, .int .i64 h, .int .i64 cy, .int .i64 t] 24)
  have c1 := markSlotS_any B C a n c f k _ hk1 hkn (m.below q0)
  go_enter Tryd.func14, Tryd.ntmps14
  go_wp2_with (go_at_call 40; refine c1.mono ?_; rintro e w' ⟨rfl, o1, m1⟩)
  go_ret
  exact ⟨rfl, (Out.of_below q0).trans o1, m1⟩
theorem heldRing_any (a : Option Addr) (n c : Nat) (h cy t : Int) (k : Nat) (w : World) (hk1 : 1 ≤ k) (hkn : k + n * 4 ≤ 100000000) (m : RowS w a n (mks k)) :
    Calls Tryd.prog 15 #[rv a n c h cy t, .int .i64 k] w fun e w' => e = .returned (.int .i64 ((k + n * 4 : Nat) : Int)) ∧ Below w.heap.size w w' := by
  have q0 := below_alloc w (.cells #[.slice a n c, .int .i64 h, .int .i64 cy, .int .i64 t] 24)
  have c1 := heldSlotS_any a n c k _ hk1 hkn (m.below q0)
  have d1 : ¬ (((k + n * 4 : Nat) : Int) < 0) := by omega
  generalize ((k + n * 4 : Nat) : Int) = K at *
  go_enter Tryd.func15, Tryd.ntmps15
  go_wp2_with (go_at_call 47; refine c1.mono ?_; rintro e w' ⟨rfl, b1⟩)
  go_ret
  exact ⟨rfl, Below.comp q0 b1⟩
end Go.Proofs.YtcfjkejaenmibaaDoor
