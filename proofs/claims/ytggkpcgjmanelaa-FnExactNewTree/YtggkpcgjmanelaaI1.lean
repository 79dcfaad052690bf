import Derived.Test.YtggkpcgjmanelaaS0
import Derived.Test.YtggkpcgjmanelaaP4
/- The program: kids of a node, right counts, a node of keys and kids. -/
namespace Go.Proofs.Ytggkpcgjmanelaa
open Go.ChangeShapes Go.WideShapes Go.ChangeAt Go.RowKit
set_option linter.unusedVariables false
open Bt

attribute [local go_sem] Oper.semAt_some

theorem as91_91 (v : Value) (w : World) : (Instr.typeAssert (.iface 91 v) 75 91 true).run Try.prog w = .ok (.tuple #[v, .bool true]) w := by kernel_rfl
theorem as91_101 (v : Value) (w : World) : (Instr.typeAssert (.iface 91 v) 75 101 true).run Try.prog w = .ok (.tuple #[.agg #[.slice none 0 0, .slice none 0 0], .bool false]) w := by kernel_rfl
theorem as101_91 (v : Value) (w : World) : (Instr.typeAssert (.iface 101 v) 75 91 true).run Try.prog w = .ok (.tuple #[.agg #[.slice none 0 0], .bool false]) w := by kernel_rfl
theorem as101_101 (v : Value) (w : World) : (Instr.typeAssert (.iface 101 v) 75 101 true).run Try.prog w = .ok (.tuple #[v, .bool true]) w := by kernel_rfl
attribute [go_sem] as91_91 as91_101 as101_91 as101_101

theorem kidsOf_leaf (u : Value) (w : World) : Calls Try.prog 80 #[.iface 91 (.agg #[u])] w fun e w' => e = .returned (.slice none 0 0) ∧ w' = w := by
  go_enter Try.func80, Try.ntmps80
  go_wp2
  go_ret
  exact ⟨rfl, rfl⟩
theorem kidsOf_fork (a : Option Addr) (n c : Nat) (a' : Option Addr) (n' c' : Nat) (w : World) : Calls Try.prog 80 #[.iface 101 (nv a n c a' n' c')] w fun e w' => e = .returned (.slice a' n' c') ∧ Below w.heap.size w w' := by
  go_enter Try.func80, Try.ntmps80
  go_wp2
  go_ret
  exact ⟨rfl, below_alloc _ _⟩
theorem nodeOf_leaf (a : Option Addr) (n c : Nat) (a' : Option Addr) (c' : Nat) (w : World) : Calls Try.prog 106 #[.slice a n c, .slice a' 0 c'] w fun e w' => e = .returned (.iface 91 (.agg #[.slice a n c])) ∧ w' = w := by
  go_enter Try.func106, Try.ntmps106
  go_wp2
  go_ret
  exact ⟨rfl, rfl⟩
theorem nodeOf_fork (a : Option Addr) (n c : Nat) (a' : Option Addr) (n' c' : Nat) (w : World) (hn : n' ≠ 0) : Calls Try.prog 106 #[.slice a n c, .slice a' n' c'] w fun e w' => e = .returned (.iface 101 (nv a n c a' n' c')) ∧ w' = w := by
  have h0 : ((n' : Int) == 0) = false := by simp; exact hn
  go_enter Try.func106, Try.ntmps106
  go_wp2
  go_ret
  exact ⟨rfl, rfl⟩
theorem leastKeysOf_any (lf root : Bool) (u v : Value) (hu : u.oneCell' = true) (hv : v.oneCell' = true) (w : World) : Calls Try.prog 116 #[.agg #[.bool lf, u, v], .bool root] w fun e w' => e = .returned (.int .i64 (lo root lf)) ∧ Below w.heap.size w w' := by
  cases root <;> cases lf
  all_goals
    go_enter Try.func116, Try.ntmps116
    go_wp2
    go_ret
    exact ⟨rfl, below_alloc _ _⟩
set_option maxHeartbeats 1000000 in
theorem hasRightCounts_any (nd : Nd) (root : Bool) (a : Option Addr) (c : Nat) (a' : Option Addr) (c' : Nat) (w : World) (hn : nd.ks.length ≤ 100000000) (hn' : nd.cs.length ≤ 100000000) :
    Calls Try.prog 104 #[.agg #[.bool nd.leaf, .slice a nd.ks.length c, .slice a' nd.cs.length c'], .bool root] w fun e w' => e = .returned (.bool (cnt nd root)) ∧ Below w.heap.size w w' := by
  obtain ⟨lf, ks, cs⟩ := nd
  simp only [cnt] at hn hn' ⊢
  generalize ks.length = n at *
  generalize cs.length = m at *
  have cL := fun W => leastKeysOf_any lf root (.slice a n c) (.slice a' m c') rfl rfl W
  obtain ⟨L, hL⟩ : ∃ L, lo root lf = L := ⟨_, rfl⟩
  have hL2 : L ≤ 2 := by rw [← hL]; unfold lo; split <;> (try split) <;> omega
  rw [hL] at cL ⊢
  clear hL
  obtain ⟨W0, hW0⟩ : ∃ W0, w.alloc (.cells #[.bool lf, .slice a n c, .slice a' m c'] 73) = W0 := ⟨_, rfl⟩
  have hb0 : Below w.heap.size w W0 := by subst hW0; exact below_alloc _ _
  have H0 : Hid (W0.heap[w.heap.size]? = some (.cells #[.bool lf, .slice a n c, .slice a' m c'] 73 (0, 0))) := by subst hW0; exact al1 _ _
  have x0 : ∀ d os, (Go.Sort.grow (redrawn W0 d) os).cell? ⟨w.heap.size, 0, none⟩ = some (.bool lf) := fun d os => cell_regrown (box3_cells H0.out).1 d os
  have x1 : ∀ d os, (Go.Sort.grow (redrawn W0 d) os).cell? ⟨w.heap.size, 1, none⟩ = some (.slice a n c) := fun d os => cell_regrown (box3_cells H0.out).2.1 d os
  have x2 : ∀ d os, (Go.Sort.grow (redrawn W0 d) os).cell? ⟨w.heap.size, 2, none⟩ = some (.slice a' m c') := fun d os => cell_regrown (box3_cells H0.out).2.2.1 d os
  have cP : ∀ d os, Calls Try.prog 116 #[.agg #[.bool lf, .slice a n c, .slice a' m c'], .bool root] (Go.Sort.grow (redrawn W0 d) os) fun e w'' => e = .returned (.int .i64 L) ∧ ∃ p : Regrown, w'' = Go.Sort.grow (redrawn W0 p.d) p.os := fun d os => Calls.regrown_of (cL _)
  by_cases h1 : n < L
  · have d1 : decide ((n : Int) < (L : Int)) = true := decide_eq_true (by omega)
    have e1 : (decide (L ≤ n) && (decide (n ≤ 5) && decide (m = if lf = true then 0 else n + 1))) = false := by rw [decide_eq_false (by omega)]; rfl
    rw [e1]
    clear e1
    go_enter Try.func104, Try.ntmps104
    go_wp2_with fail
    clear hW0
    refine wp_region_quiet_below (by kernel_rfl) (by kernel_rfl) ?_
    repeat (go_big_quiet_step (exact cP _ _))
    refine wpQuiet_nil ?_
    intro _ hw'
    obtain ⟨⟨dq, osq⟩, hw''⟩ := hw'
    subst hw''
    have b8 := below_regrown W0 dq osq
    have e8 := box_on H0.out b8
    clear cP x0 x1 x2
    generalize Go.Sort.grow (redrawn W0 dq) osq = w8 at *
    obtain ⟨x0, x1, x2, -, -, -⟩ := box3_cells e8
    go_wp2_with fail
    go_ret
    exact ⟨rfl, Below.comp hb0 b8⟩
  · have d1 : decide ((n : Int) < (L : Int)) = false := decide_eq_false (by omega)
    by_cases h2 : 5 < n
    · have d2 : decide ((5 : Int) < (n : Int)) = true := decide_eq_true (by omega)
      have e1 : (decide (L ≤ n) && (decide (n ≤ 5) && decide (m = if lf = true then 0 else n + 1))) = false := by rw [decide_eq_false (by omega : ¬ n ≤ 5)]; simp
      rw [e1]
      clear e1
      go_enter Try.func104, Try.ntmps104
      go_wp2_with fail
      clear hW0
      refine wp_region_quiet_below (by kernel_rfl) (by kernel_rfl) ?_
      repeat (go_big_quiet_step (exact cP _ _))
      refine wpQuiet_nil ?_
      intro _ hw'
      obtain ⟨⟨dq, osq⟩, hw''⟩ := hw'
      subst hw''
      have b8 := below_regrown W0 dq osq
      have e8 := box_on H0.out b8
      clear cP x0 x1 x2
      generalize Go.Sort.grow (redrawn W0 dq) osq = w8 at *
      obtain ⟨x0, x1, x2, -, -, -⟩ := box3_cells e8
      go_wp2_with fail
      go_ret
      exact ⟨rfl, Below.comp hb0 b8⟩
    · have d2 : decide ((5 : Int) < (n : Int)) = false := decide_eq_false (by omega)
      have e1 : (decide (L ≤ n) && (decide (n ≤ 5) && decide (m = if lf = true then 0 else n + 1))) = decide (m = if lf = true then 0 else n + 1) := by rw [decide_eq_true (by omega : L ≤ n), decide_eq_true (by omega : n ≤ 5)]; simp
      rw [e1]
      clear e1
      cases lf with
      | true =>
        have e3 : decide (m = if true = true then 0 else n + 1) = decide (m = 0) := by simp
        rw [e3]
        clear e3
        go_enter Try.func104, Try.ntmps104
        go_wp2_with fail
        clear hW0
        refine wp_region_quiet_below (by kernel_rfl) (by kernel_rfl) ?_
        repeat (go_big_quiet_step (exact cP _ _))
        refine wpQuiet_nil ?_
        intro _ hw'
        obtain ⟨⟨dq, osq⟩, hw''⟩ := hw'
        subst hw''
        have b8 := below_regrown W0 dq osq
        have e8 := box_on H0.out b8
        clear cP x0 x1 x2
        generalize Go.Sort.grow (redrawn W0 dq) osq = w8 at *
        obtain ⟨x0, x1, x2, -, -, -⟩ := box3_cells e8
        go_wp2_with fail
        go_ret
        refine ⟨?_, Below.comp hb0 b8⟩
        have e2 : ((m : Int) == 0) = decide (m = 0) := by rw [Bool.eq_iff_iff]; simp
        simp [e2]
      | false =>
        have e3 : decide (m = if false = true then 0 else n + 1) = decide (m = n + 1) := by simp
        rw [e3]
        clear e3
        go_enter Try.func104, Try.ntmps104
        go_wp2_with fail
        clear hW0
        refine wp_region_quiet_below (by kernel_rfl) (by kernel_rfl) ?_
        repeat (go_big_quiet_step (exact cP _ _))
        refine wpQuiet_nil ?_
        intro _ hw'
        obtain ⟨⟨dq, osq⟩, hw''⟩ := hw'
        subst hw''
        have b8 := below_regrown W0 dq osq
        have e8 := box_on H0.out b8
        clear cP x0 x1 x2
        generalize Go.Sort.grow (redrawn W0 dq) osq = w8 at *
        obtain ⟨x0, x1, x2, -, -, -⟩ := box3_cells e8
        go_wp2_with fail
        go_ret
        refine ⟨?_, Below.comp hb0 b8⟩
        have e2 : ((m : Int) == (n : Int) + 1) = decide (m = n + 1) := by rw [Bool.eq_iff_iff]; simp; omega
        simp [e2]
end Go.Proofs.Ytggkpcgjmanelaa
