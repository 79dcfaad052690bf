import Derived.Test.YtcfjkejaenmibaaDoorV1
import Derived.Lib.QuietBelow
import Derived.BigQuiet
/- Whether a slot is whole; whether it is blank. -/
namespace Go.Proofs.YtcfjkejaenmibaaDoor
open Go.ChangeShapes Go.WideShapes Go.ChangeAt Go.RowKit
set_option linter.unusedVariables false
open Lg

attribute [local go_sem] Oper.semAt_some

/-- A slot as said with its sum. -/
def whB (x : Sl) : Bool := okB 1000000 x && decide (x.s = smS x)
set_option maxHeartbeats 2000000 in
theorem l10Whole_any (x : Sl) (w : World) (hx : Few x) : Calls Tryd.prog 48 #[sv x] w fun e w' => e = .returned (.bool (whB x)) ∧ Below w.heap.size w w' := by
  have c1 := fun W => l10Slot_any x W hx
  have c2 := fun W => specSum_any x W hx
  obtain ⟨u, hu⟩ : ∃ u, okB 1000000 x = u := ⟨_, rfl⟩
  obtain ⟨y, hy⟩ : ∃ y, smS x = y := ⟨_, rfl⟩
  unfold whB
  rw [hu, hy]
  rw [hu] at c1
  rw [hy] at c2
  clear hu hy hx
  obtain ⟨c, t, d, s⟩ := x
  simp only at c1 c2 ⊢
  obtain ⟨D, hD⟩ : ∃ D, w.heap.size = D := ⟨_, rfl⟩
  obtain ⟨W0, hW0⟩ : ∃ W0, w.alloc (.cells #[.int .i64 c, .int .i64 t, .string d, .int .i64 s] 41) = W0 := ⟨_, rfl⟩
  have q0 : Below w.heap.size w W0 := by subst hW0; exact below_alloc _ _
  have HA : Hid (W0.heap[D]? = some (.cells #[.int .i64 c, .int .i64 t, .string d, .int .i64 s] 41 (0, 0))) := by subst hW0 hD; exact al1 _ _
  obtain ⟨x0, x1, x2, x3⟩ := box4_cells HA.out
  have y0 : ∀ d' os, (Go.Sort.grow (redrawn W0 d') os).cell? ⟨D, 0, none⟩ = some (.int .i64 c) := cell_regrown x0
  have y1 : ∀ d' os, (Go.Sort.grow (redrawn W0 d') os).cell? ⟨D, 1, none⟩ = some (.int .i64 t) := cell_regrown x1
  have y2 : ∀ d' os, (Go.Sort.grow (redrawn W0 d') os).cell? ⟨D, 2, none⟩ = some (.string d) := cell_regrown x2
  have y3 : ∀ d' os, (Go.Sort.grow (redrawn W0 d') os).cell? ⟨D, 3, none⟩ = some (.int .i64 s) := cell_regrown x3
  have k1 : ∀ d' os, Calls Tryd.prog 52 #[.agg #[.int .i64 c, .int .i64 t, .string d, .int .i64 s]] (Go.Sort.grow (redrawn W0 d') os) fun e w'' => e = .returned (.bool u) ∧ ∃ p : Regrown, w'' = Go.Sort.grow (redrawn W0 p.d) p.os := fun d' os => Calls.regrown_of (c1 _)
  have k2 : ∀ d' os, Calls Tryd.prog 21 #[.agg #[.int .i64 c, .int .i64 t, .string d, .int .i64 s]] (Go.Sort.grow (redrawn W0 d') os) fun e w'' => e = .returned (.int .i64 y) ∧ ∃ p : Regrown, w'' = Go.Sort.grow (redrawn W0 p.d) p.os := fun d' os => Calls.regrown_of (c2 _)
  clear x0 x1 x2 x3 c1 c2
  cases u with
  | false =>
    go_enter Tryd.func48, Tryd.ntmps48
    go_wp2
    clear hW0
    refine wp_region_quiet_below (by kernel_rfl) (by kernel_rfl) ?_
    repeat (go_big_quiet_step (first | exact k1 _ _ | exact k2 _ _))
    refine wpQuiet_nil ?_
    intro _ hw'
    obtain ⟨⟨dq, osq⟩, hw''⟩ := hw'
    subst hw''
    have b8 := Below.comp q0 (below_regrown W0 dq osq)
    generalize Go.Sort.grow (redrawn W0 dq) osq = w8 at *
    go_wp2
    go_ret
    exact ⟨by simp, by first | exact b8 | exact (hD ▸ b8)⟩
  | true =>
    obtain ⟨b, hb⟩ : ∃ b, decide (s = y) = b := ⟨_, rfl⟩
    have hb2 : (s == y) = b := hb
    rw [hb]
    clear hb
    go_enter Tryd.func48, Tryd.ntmps48
    go_wp2
    clear hW0
    refine wp_region_quiet_below (by kernel_rfl) (by kernel_rfl) ?_
    repeat (go_big_quiet_step (first | exact k1 _ _ | exact k2 _ _))
    refine wpQuiet_nil ?_
    intro _ hw'
    obtain ⟨⟨dq, osq⟩, hw''⟩ := hw'
    subst hw''
    have b8 := Below.comp q0 (below_regrown W0 dq osq)
    generalize Go.Sort.grow (redrawn W0 dq) osq = w8 at *
    go_wp2
    go_ret
    exact ⟨by simp, by first | exact b8 | exact (hD ▸ b8)⟩
end Go.Proofs.YtcfjkejaenmibaaDoor
