import Derived.Test.YtodidnbghiinkaaB0
/- Tokens as values, boxes. -/
namespace Go.Proofs.Ytodidnbghiinkaa
open Go.ChangeShapes Go.WideShapes Go.ChangeAt Go.RowKit
set_option linter.unusedVariables false
open Tz

attribute [local go_sem] Oper.semAt_some

/-- A token as a value. -/
abbrev tv (x : Tk) : Value := .agg #[.string x.p, .int .i64 x.d, .int .i64 x.n]
abbrev i64 (z : Int) : Prop := -9223372036854775808 ≤ z ∧ z ≤ 9223372036854775807
/-- Numbers and texts of an int's size. -/
def Few (x : Tk) : Prop := x.p.size ≤ 9223372036854775807 ∧ i64 x.d ∧ i64 x.n
theorem wrapI {z : Int} (h : -9223372036854775808 ≤ z) (h' : z ≤ 9223372036854775807) : IntKind.i64.wrap z = z := by
  simp only [IntKind.wrap, IntKind.bits, IntKind.signed]
  simp
  omega
theorem al1 (w : World) (o : Obj) : (w.alloc o).heap[w.heap.size]? = some o := heap_alloc_new w o
theorem sz1 (w : World) (o : Obj) : (w.alloc o).heap.size = w.heap.size + 1 := by simp
theorem al2 (w : World) (o p : Obj) : ((w.alloc o).alloc p).heap[w.heap.size]? = some o ∧ ((w.alloc o).alloc p).heap[w.heap.size + 1]? = some p :=
  ⟨box_on (al1 w o) (below_alloc _ _), by have := al1 (w.alloc o) p; rwa [sz1] at this⟩
theorem al3 (w : World) (o p q : Obj) : (((w.alloc o).alloc p).alloc q).heap[w.heap.size]? = some o ∧ (((w.alloc o).alloc p).alloc q).heap[w.heap.size + 1]? = some p ∧ (((w.alloc o).alloc p).alloc q).heap[w.heap.size + 1 + 1]? = some q :=
  ⟨box_on (al2 w o p).1 (below_alloc _ _), box_on (al2 w o p).2 (below_alloc _ _), by have := al1 ((w.alloc o).alloc p) q; rwa [sz1, sz1] at this⟩
theorem ba2 (w : World) (o p : Obj) : Below w.heap.size w ((w.alloc o).alloc p) := Below.comp (below_alloc w o) (below_alloc _ p)
theorem ba3 (w : World) (o p q : Obj) : Below w.heap.size w (((w.alloc o).alloc p).alloc q) := Below.comp (ba2 w o p) (below_alloc _ q)
theorem box1_cells {w : World} {b : Nat} {v : Value} {e : TypeId} (h : w.heap[b]? = some (.cells #[v] e (0, 0))) : w.cell? ⟨b, 0, none⟩ = some v ∧ w.frozen? ⟨b, 0, none⟩ = false :=
  ⟨by simp [World.cell?, h], by simp [World.frozen?, h]⟩
theorem set3_out (W : World) (b : Nat) (v0 v1 v2 : Value) : Out b (b + 1) W (((W.setCell ⟨b, 0, none⟩ v0).setCell ⟨b, 1, none⟩ v1).setCell ⟨b, 2, none⟩ v2) :=
  ((out_setCell W b 0 v0).setCell (Nat.le_refl _) (Nat.lt_succ_self _) 1 v1).setCell (Nat.le_refl _) (Nat.lt_succ_self _) 2 v2
theorem l1In_any (x lo hi : Int) (w : World) : Calls Try.prog 38 #[.int .i64 x, .int .i64 lo, .int .i64 hi] w fun e w' => e = .returned (.bool (decide (lo ≤ x) && decide (x ≤ hi))) ∧ w' = w := by
  go_enter Try.func38, Try.ntmps38
  go_wp2
  all_goals
    go_ret
    refine ⟨?_, rfl⟩
    simp_all <;> omega
theorem toToken_any (x : Tk) (w : World) : Calls Try.prog 43 #[tv x] w fun e w' => e = .returned (tv x) ∧ Below w.heap.size w w' := by
  obtain ⟨p, d, n⟩ := x
  obtain ⟨z, hz⟩ : ∃ z, w.heap.size = z := ⟨_, rfl⟩
  obtain ⟨W0, hW0⟩ : ∃ W0, ((w.alloc (.cells #[.string p, .int .i64 d, .int .i64 n] 51)).alloc (.cells #[.string ⟨#[]⟩, .int .i64 0, .int .i64 0] 52)).alloc (.cells #[.string ⟨#[]⟩, .int .i64 0, .int .i64 0] 52) = W0 := ⟨_, rfl⟩
  have hb0 : Below z w W0 := by subst hW0 hz; exact ba3 _ _ _ _
  obtain ⟨B1, B2, B3⟩ : W0.heap[z]? = some (.cells #[.string p, .int .i64 d, .int .i64 n] 51 (0, 0)) ∧ W0.heap[z + 1]? = some (.cells #[.string ⟨#[]⟩, .int .i64 0, .int .i64 0] 52 (0, 0)) ∧ W0.heap[z + 1 + 1]? = some (.cells #[.string ⟨#[]⟩, .int .i64 0, .int .i64 0] 52 (0, 0)) := by subst hW0 hz; exact al3 _ _ _ _
  have H2 : Hid _ := B2
  obtain ⟨i0, i1, i2, -, -, -⟩ := box3_cells B1
  obtain ⟨j0, j1, j2, p0, p1, p2⟩ := box3_cells B2
  obtain ⟨k0, k1, k2, q0, q1, q2⟩ := box3_cells B3
  clear B1 B2 B3
  go_enter Try.func43, Try.ntmps43
  go_wp2
  obtain ⟨W3, hW3⟩ : ∃ W3, (((((W0.setCell ⟨z + 1 + 1, 0, none⟩ (.string p)).setCell ⟨z + 1 + 1, 1, none⟩ (.int .i64 d)).setCell ⟨z + 1 + 1, 2, none⟩ (.int .i64 n)).setCell ⟨z + 1, 0, none⟩ (.string p)).setCell ⟨z + 1, 1, none⟩ (.int .i64 d)).setCell ⟨z + 1, 2, none⟩ (.int .i64 n) = W3 := ⟨_, rfl⟩
  have R : W3.heap[z + 1]? = some (.cells #[.string p, .int .i64 d, .int .i64 n] 52 (0, 0)) := by
    subst hW3
    exact box3_set (box_out H2.out (set3_out _ _ _ _ _) (by omega))
  have o2 : Below z w W3 := by
    subst hW3
    exact (((((hb0.setCell (by simp; omega) _).setCell (by simp; omega) _).setCell (by simp; omega) _).setCell (by simp) _).setCell (by simp) _).setCell (by simp) _
  rw [hW3]
  clear hW3
  obtain ⟨t0, t1, t2, -, -, -⟩ := box3_cells R
  exact bodyPost_ret (v := tv ⟨p, d, n⟩) (by simp [results, Try.results43, go_sem, t0, t1, t2]) rfl ⟨rfl, hz ▸ o2⟩
theorem szToken_any (x : Tk) (k : Int) (hx : Few x) (hk : 0 ≤ k ∧ k ≤ 1048576) (w : World) : Calls Try.prog 41 #[tv x, .int .i64 k] w fun e w' => Below w.heap.size w w' ∧ ∃ r : Int, e = .returned (.int .i64 r) ∧ (r < 0 ∨ (x.p.size : Int) ≤ k ∧ r = k - x.p.size) := by
  obtain ⟨p, d, n⟩ := x
  have hd := hx.1
  simp only at hd
  have e1 : IntKind.i64.wrap (k - (p.size : Int)) = k - p.size := wrapI (by omega) (by omega)
  by_cases h : k - (p.size : Int) < 0
  · go_enter Try.func41, Try.ntmps41
    go_wp2
    go_ret
    exact ⟨below_alloc _ _, _, rfl, .inl (by decide)⟩
  · go_enter Try.func41, Try.ntmps41
    go_wp2
    go_ret
    exact ⟨below_alloc _ _, _, rfl, .inr ⟨(by omega : (p.size : Int) ≤ k), rfl⟩⟩
theorem eqToken_any (x : Tk) (w : World) : Calls Try.prog 44 #[tv x, tv x] w fun e w' => e = .returned (.bool true) ∧ Below w.heap.size w w' := by
  obtain ⟨p, d, n⟩ := x
  have e1 : (!(p.toList == p.toList)) = false := by simp
  have e2 : (d != d) = false := by simp
  have e3 : (n != n) = false := by simp
  go_enter Try.func44, Try.ntmps44
  go_wp2
  go_ret
  exact ⟨rfl, ba2 _ _ _⟩
end Go.Proofs.Ytodidnbghiinkaa
