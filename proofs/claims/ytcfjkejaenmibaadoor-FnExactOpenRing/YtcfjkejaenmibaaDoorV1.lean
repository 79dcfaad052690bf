import Derived.Test.YtcfjkejaenmibaaDoorN2
import Derived.Test.YtcfjkejaenmibaaDoorO1
import Derived.Test.YtcfjkejaenmibaaDoorL2
/- Blank slots, sizes, cycles, on both sides. -/
namespace Go.Proofs.YtcfjkejaenmibaaDoor
open Go.ChangeShapes Go.WideShapes Go.ChangeAt Go.RowKit
set_option linter.unusedVariables false
open Lg

attribute [local go_sem] Oper.semAt_some

/-- A slot in which nothing was written. -/
def blank : Sl := ⟨0, 0, ⟨#[]⟩, smS Lg.zero⟩
theorem zero_few : Few Lg.zero := ⟨by constructor <;> decide, by constructor <;> decide, by decide, by constructor <;> decide⟩
theorem set3 {w : World} {b : Nat} {v0 v1 v2 v3 v : Value} {e : TypeId} {z : Nat × Nat} (h : w.heap[b]? = some (.cells #[v0, v1, v2, v3] e z)) : (w.setCell ⟨b, 3, none⟩ v).heap[b]? = some (.cells #[v0, v1, v2, v] e z) := by
  rw [block_setz h]; rfl
set_option maxHeartbeats 1000000 in
theorem l10Zero_any (w : World) : Calls Tryd.prog 42 #[] w fun e w' => e = .returned (sv blank) ∧ Below w.heap.size w w' := by
  have c1 := fun W => specSum_any Lg.zero W zero_few
  have hb : sv blank = .agg #[.int .i64 0, .int .i64 0, .string ⟨#[]⟩, .int .i64 (smS Lg.zero)] := rfl
  rw [hb]
  clear hb
  generalize smS Lg.zero = y at *
  simp only [Lg.zero] at c1
  obtain ⟨W0, hW0⟩ : ∃ W0, (w.alloc (.cells #[.int .i64 0, .int .i64 0, .string ⟨#[]⟩, .int .i64 0] 41)).alloc (.cells #[.int .i64 0, .int .i64 0, .string ⟨#[]⟩, .int .i64 0] 41) = W0 := ⟨_, rfl⟩
  have q0 : Below w.heap.size w W0 := by subst hW0; exact ba2 _ _ _
  obtain ⟨B1, B2⟩ : W0.heap[w.heap.size]? = some (.cells #[.int .i64 0, .int .i64 0, .string ⟨#[]⟩, .int .i64 0] 41 (0, 0)) ∧ W0.heap[w.heap.size + 1]? = some (.cells #[.int .i64 0, .int .i64 0, .string ⟨#[]⟩, .int .i64 0] 41 (0, 0)) := by subst hW0; exact al2 _ _ _
  obtain ⟨y0, y1, y2, y3⟩ := box4_cells B2
  obtain ⟨f0, f1, f2, f3⟩ := box4_free B2
  obtain ⟨W1, hW1⟩ : ∃ W1, (((W0.setCell ⟨w.heap.size + 1, 0, none⟩ (.int .i64 0)).setCell ⟨w.heap.size + 1, 1, none⟩ (.int .i64 0)).setCell ⟨w.heap.size + 1, 2, none⟩ (.string ⟨#[]⟩)).setCell ⟨w.heap.size + 1, 3, none⟩ (.int .i64 0) = W1 := ⟨_, rfl⟩
  have HA : Hid (W1.heap[w.heap.size]? = some (.cells #[.int .i64 0, .int .i64 0, .string ⟨#[]⟩, .int .i64 0] 41 (0, 0))) := by subst hW1; exact box_out B1 (set4_out _ _ _ _ _ _) (by omega)
  have HB : Hid (W1.heap[w.heap.size + 1]? = some (.cells #[.int .i64 0, .int .i64 0, .string ⟨#[]⟩, .int .i64 0] 41 (0, 0))) := by subst hW1; exact box4_set B2
  have q1 : Below w.heap.size w W1 := by subst hW1; exact set4_below q0 (by omega) _ _ _ _
  obtain ⟨x0, x1, x2, x3⟩ := box4_cells HB.out
  clear B1 B2 q0
  go_enter Tryd.func42, Tryd.ntmps42
  go_wp2_with fail
  refine (c1 _).mono ?_
  rintro e w1 ⟨rfl, b1⟩
  have g1 := Below.comp q1 b1
  clear x0 x1 x2 x3 y0 y1 y2 y3 f0 f1 f2 f3 hW0 hW1 c1
  have HA1 : Hid _ := box_on HA.out b1
  have HB1 : Hid _ := box_on HB.out b1
  obtain ⟨x0, x1, x2, x3⟩ := box4_cells HB1.out
  obtain ⟨e0, e1, e2, e3⟩ := box4_free HB1.out
  obtain ⟨y0, y1, y2, y3⟩ := box4_cells HA1.out
  obtain ⟨f0, f1, f2, f3⟩ := box4_free HA1.out
  go_wp2_with fail
  have hA2 := box_out HA1.out (out_setCell w1 (w.heap.size + 1) 3 (.int .i64 y)) (by omega)
  obtain ⟨t0, t1, t2, t3⟩ := box4_cells (box4_set hA2 (x0 := .int .i64 0) (x1 := .int .i64 0) (x2 := .string ⟨#[]⟩) (x3 := .int .i64 y))
  exact bodyPost_ret (v := .agg #[.int .i64 0, .int .i64 0, .string ⟨#[]⟩, .int .i64 y]) (by simp [results, Tryd.results42, go_sem, t0, t1, t2, t3]) rfl ⟨rfl, set4_below (g1.setCell (by simp) _) (by omega) _ _ _ _⟩
set_option maxHeartbeats 1000000 in
theorem blankSlot_any (w : World) (hT : Tb w) : Calls Tryd.prog 46 #[] w fun e w' => e = .returned (sv blank) ∧ Below w.heap.size w w' := by
  have c1 := fun W h => implSum_any Lg.zero W zero_few h
  have hb : sv blank = .agg #[.int .i64 0, .int .i64 0, .string ⟨#[]⟩, .int .i64 (smS Lg.zero)] := rfl
  rw [hb]
  clear hb
  generalize smS Lg.zero = y at *
  simp only [Lg.zero] at c1
  obtain ⟨W0, hW0⟩ : ∃ W0, (w.alloc (.cells #[.int .i64 0, .int .i64 0, .string ⟨#[]⟩, .int .i64 0] 41)).alloc (.cells #[.int .i64 0, .int .i64 0, .string ⟨#[]⟩, .int .i64 0] 41) = W0 := ⟨_, rfl⟩
  have q0 : Below w.heap.size w W0 := by subst hW0; exact ba2 _ _ _
  obtain ⟨B1, B2⟩ : W0.heap[w.heap.size]? = some (.cells #[.int .i64 0, .int .i64 0, .string ⟨#[]⟩, .int .i64 0] 41 (0, 0)) ∧ W0.heap[w.heap.size + 1]? = some (.cells #[.int .i64 0, .int .i64 0, .string ⟨#[]⟩, .int .i64 0] 41 (0, 0)) := by subst hW0; exact al2 _ _ _
  have HA : Hid _ := B1
  have HB : Hid _ := B2
  have cT := c1 W0 (hT.on q0)
  obtain ⟨x0, x1, x2, x3⟩ := box4_cells B2
  clear B1 B2 hT c1
  go_enter Tryd.func46, Tryd.ntmps46
  go_wp2_with fail
  refine cT.mono ?_
  rintro e w1 ⟨rfl, b1⟩
  have g1 := Below.comp q0 b1
  clear x0 x1 x2 x3 hW0
  have HA1 : Hid _ := box_on HA.out b1
  have HB1 : Hid _ := box_on HB.out b1
  obtain ⟨x0, x1, x2, x3⟩ := box4_cells HB1.out
  obtain ⟨e0, e1, e2, e3⟩ := box4_free HB1.out
  obtain ⟨y0, y1, y2, y3⟩ := box4_cells HA1.out
  obtain ⟨f0, f1, f2, f3⟩ := box4_free HA1.out
  go_wp2_with fail
  have hA2 := box_out HA1.out (out_setCell w1 (w.heap.size + 1) 3 (.int .i64 y)) (by omega)
  obtain ⟨t0, t1, t2, t3⟩ := box4_cells (box4_set hA2 (x0 := .int .i64 0) (x1 := .int .i64 0) (x2 := .string ⟨#[]⟩) (x3 := .int .i64 y))
  exact bodyPost_ret (v := .agg #[.int .i64 0, .int .i64 0, .string ⟨#[]⟩, .int .i64 y]) (by simp [results, Tryd.results46, go_sem, t0, t1, t2, t3]) rfl ⟨rfl, set4_below (g1.setCell (by simp) _) (by omega) _ _ _ _⟩
theorem isRingSize_any (x : Int) (w : World) : Calls Tryd.prog 43 #[.int .i64 x] w fun e w' => e = .returned (.bool (decide (2 ≤ x) && decide (x ≤ 24))) ∧ w' = w := by
  go_enter Tryd.func43, Tryd.ntmps43
  go_wp2
  all_goals
    go_ret
    refine ⟨?_, rfl⟩
    simp_all
    try omega
/-- The cycle of a number. -/
theorem cycleOf_any (h n : Nat) (w : World) (hn : 0 < n) (hh : h ≤ 9223372036854775000) : Calls Tryd.prog 64 #[.int .i64 (h : Int), .int .i64 (n : Int)] w fun e w' => e = .returned (.int .i64 (((h / n + 1 : Nat) : Nat) : Int)) ∧ w' = w := by
  obtain ⟨q, hq⟩ : ∃ q, h / n = q := ⟨_, rfl⟩
  have hqh : q ≤ h := by rw [← hq]; exact Nat.div_le_self _ _
  rw [hq]
  have h1 : Int.tdiv (h : Int) (n : Int) = (q : Int) := by rw [← hq]; rfl
  have h1' : (h : Int) / (n : Int) = (q : Int) := by rw [← hq]; rfl
  have h0 : ¬ ((n : Int) = 0) := by omega
  have h2 : IntKind.i64.wrap (q : Int) = (q : Int) := wrapI (by omega) (by omega)
  have h3 : IntKind.i64.wrap ((q : Int) + 1) = (((q + 1 : Nat) : Nat) : Int) := by rw [wrapI (by omega) (by omega)]; omega
  clear hq
  go_enter Tryd.func64, Tryd.ntmps64
  go_wp2
  go_ret
  exact ⟨rfl, rfl⟩
set_option maxHeartbeats 1000000 in
theorem ringOf_any (a : Option Addr) (n c h : Nat) (t : Int) (w : World) (hn : 0 < n) (hh : h ≤ 9223372036854775000) : Calls Tryd.prog 44 #[.slice a n c, .int .i64 (h : Int), .int .i64 t] w fun e w' => e = .returned (rv a n c (h : Int) (((h / n + 1 : Nat) : Nat) : Int) t) ∧ Below w.heap.size w w' := by
  have c1 := fun W => cycleOf_any h n W hn hh
  generalize (((h / n + 1 : Nat) : Nat) : Int) = y at *
  go_enter Tryd.func44, Tryd.ntmps44
  go_wp2_with (go_at_call 64; refine (c1 _).mono ?_; rintro e w' ⟨rfl, hww⟩; have hww := hww.symm; subst hww)
  exact bodyPost_ret (v := rv a n c (h : Int) y t) (by simp [results, Tryd.results44, go_sem]) rfl ⟨rfl, by first | exact below_alloc _ _ | exact set4_below (below_alloc _ _) (Nat.le_refl _) _ _ _ _⟩
end Go.Proofs.YtcfjkejaenmibaaDoor
