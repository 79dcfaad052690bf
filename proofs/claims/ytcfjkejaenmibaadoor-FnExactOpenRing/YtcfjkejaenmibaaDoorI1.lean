import Derived.Test.YtcfjkejaenmibaaDoorE1
import Derived.Test.YtcfjkejaenmibaaDoorG3
/- The program: whole slots, places, the slot of a number. -/
namespace Go.Proofs.YtcfjkejaenmibaaDoor
open Go.ChangeShapes Go.WideShapes Go.ChangeAt Go.RowKit
set_option linter.unusedVariables false
open Lg

attribute [local go_sem] Oper.semAt_some

set_option maxHeartbeats 2000000 in
theorem isWhole_any (x : Sl) (w : World) (hx : Few x) (hT : Tb w) : Calls Tryd.prog 69 #[sv x] w fun e w' => e = .returned (.bool (whB x)) ∧ Below w.heap.size w w' := by
  have c1 := fun W => isSlot_any x W hx
  have c2 := fun W h => implSum_any x W hx h
  obtain ⟨u, hu⟩ : ∃ u, okB 1000000 x = u := ⟨_, rfl⟩
  obtain ⟨y, hy⟩ : ∃ y, smS x = y := ⟨_, rfl⟩
  unfold whB
  rw [hu, hy]
  rw [hu] at c1
  rw [hy] at c2
  clear hu hy hx
  obtain ⟨c, t, d, s⟩ := x
  simp only at c1 c2 ⊢
  obtain ⟨D, hD⟩ : ∃ D, w.heap.size = D := ⟨_, rfl⟩
  obtain ⟨W0, hW0⟩ : ∃ W0, w.alloc (.cells #[.int .i64 c, .int .i64 t, .string d, .int .i64 s] 41) = W0 := ⟨_, rfl⟩
  have q0 : Below w.heap.size w W0 := by subst hW0; exact below_alloc _ _
  have HA : Hid (W0.heap[D]? = some (.cells #[.int .i64 c, .int .i64 t, .string d, .int .i64 s] 41 (0, 0))) := by subst hW0 hD; exact al1 _ _
  obtain ⟨x0, x1, x2, x3⟩ := box4_cells HA.out
  have y0 : ∀ d' os, (Go.Sort.grow (redrawn W0 d') os).cell? ⟨D, 0, none⟩ = some (.int .i64 c) := cell_regrown x0
  have y1 : ∀ d' os, (Go.Sort.grow (redrawn W0 d') os).cell? ⟨D, 1, none⟩ = some (.int .i64 t) := cell_regrown x1
  have y2 : ∀ d' os, (Go.Sort.grow (redrawn W0 d') os).cell? ⟨D, 2, none⟩ = some (.string d) := cell_regrown x2
  have y3 : ∀ d' os, (Go.Sort.grow (redrawn W0 d') os).cell? ⟨D, 3, none⟩ = some (.int .i64 s) := cell_regrown x3
  have k1 : ∀ d' os, Calls Tryd.prog 54 #[.agg #[.int .i64 c, .int .i64 t, .string d, .int .i64 s]] (Go.Sort.grow (redrawn W0 d') os) fun e w'' => e = .returned (.bool u) ∧ ∃ p : Regrown, w'' = Go.Sort.grow (redrawn W0 p.d) p.os := fun d' os => Calls.regrown_of (c1 _)
  have k2 : ∀ d' os, Calls Tryd.prog 23 #[.agg #[.int .i64 c, .int .i64 t, .string d, .int .i64 s]] (Go.Sort.grow (redrawn W0 d') os) fun e w'' => e = .returned (.int .i64 y) ∧ ∃ p : Regrown, w'' = Go.Sort.grow (redrawn W0 p.d) p.os := fun d' os => Calls.regrown_of (c2 _ ((hT.on q0).on (below_regrown W0 d' os)))
  clear x0 x1 x2 x3 c1 c2 hT
  cases u with
  | false =>
    go_enter Tryd.func69, Tryd.ntmps69
    go_wp2
    clear hW0
    refine wp_region_quiet_below (by kernel_rfl) (by kernel_rfl) ?_
    repeat (go_big_quiet_step (first | with_reducible exact k1 _ _ | with_reducible exact k2 _ _))
    refine wpQuiet_nil ?_
    intro _ hw'
    obtain ⟨⟨dq, osq⟩, hw''⟩ := hw'
    subst hw''
    have b8 := Below.comp q0 (below_regrown W0 dq osq)
    generalize Go.Sort.grow (redrawn W0 dq) osq = w8 at *
    go_wp2
    go_ret
    exact ⟨by simp, by first | exact b8 | exact (hD ▸ b8)⟩
  | true =>
    obtain ⟨b, hb⟩ : ∃ b, decide (s = y) = b := ⟨_, rfl⟩
    have hb2 : (s == y) = b := hb
    rw [hb]
    clear hb
    go_enter Tryd.func69, Tryd.ntmps69
    go_wp2
    clear hW0
    refine wp_region_quiet_below (by kernel_rfl) (by kernel_rfl) ?_
    repeat (go_big_quiet_step (first | with_reducible exact k1 _ _ | with_reducible exact k2 _ _))
    refine wpQuiet_nil ?_
    intro _ hw'
    obtain ⟨⟨dq, osq⟩, hw''⟩ := hw'
    subst hw''
    have b8 := Below.comp q0 (below_regrown W0 dq osq)
    generalize Go.Sort.grow (redrawn W0 dq) osq = w8 at *
    go_wp2
    go_ret
    exact ⟨by simp, by first | exact b8 | exact (hD ▸ b8)⟩
theorem idx_is {n : Nat} {k : Int} (hn : 0 < n) (hk : -(n : Int) ≤ k) : (k + n) % (n : Int) = (idx n k : Int) := by
  unfold idx
  split
  · rw [Int.emod_eq_of_lt (by omega) (by omega)]; omega
  · have h1 := Int.emod_nonneg k (b := (n : Int)) (by omega)
    rw [Int.add_emod_right]
    omega
/-- The place of a number. -/
theorem placeOf_any (k : Int) (n : Nat) (w : World) (hn : 0 < n) (hk : -(n : Int) ≤ k) (hs : n ≤ 1048576) (hk2 : k ≤ 4000000000000000000) : Calls Tryd.prog 58 #[.int .i64 k, .int .i64 (n : Int)] w fun e w' => e = .returned (.int .i64 (idx n k : Int)) ∧ w' = w := by
  have h := idx_is hn hk
  have hl := idx_lt hn hk
  generalize idx n k = j at *
  obtain ⟨s, hss⟩ : ∃ s, k + (n : Int) = s := ⟨_, rfl⟩
  have h1 : IntKind.i64.wrap (k + (n : Int)) = s := by rw [← hss]; exact wrapI (by omega) (by omega)
  have h2 : Int.tmod s (n : Int) = (j : Int) := by rw [← hss, Int.tmod_eq_emod_of_nonneg (by omega)]; exact h
  have h3 : IntKind.i64.wrap (j : Int) = (j : Int) := wrapI (by omega) (by omega)
  have hn0 : ¬ ((n : Int) = 0) := by omega
  clear h hss
  go_enter Tryd.func58, Tryd.ntmps58
  go_wp2
  go_ret
  exact ⟨rfl, rfl⟩
set_option maxHeartbeats 1000000 in
/-- The slot of a number. -/
theorem slotFor_any (k : Int) (a : Option Addr) (c : Nat) (l : List Sl) (w : World) (hn : 0 < l.length) (hk : -(l.length : Int) ≤ k) (hs : l.length ≤ 1048576) (hk2 : k ≤ 4000000000000000000) (ha : Sls w a l) :
    Calls Tryd.prog 59 #[.int .i64 k, .slice a l.length c] w fun e w' => e = .returned (sv (gs l (idx l.length k))) ∧ Below w.heap.size w w' := by
  have cP := fun W => placeOf_any k l.length W hn hk hs hk2
  have hl := idx_lt hn hk
  generalize idx l.length k = j at *
  have qz := below_alloc w (.cells #[.int .i64 0, .int .i64 0, .string ⟨#[]⟩, .int .i64 0] 41)
  obtain ⟨bb, off, rfl, hcell⟩ := (RowS.below ha qz) (by omega)
  obtain ⟨c0, c1, c2, c3⟩ := hcell j hl
  clear hcell ha
  obtain ⟨x, hx⟩ : ∃ x, gs l j = x := ⟨_, rfl⟩
  rw [hx] at c0 c1 c2 c3 ⊢
  clear hx
  generalize l.length = n at *
  obtain ⟨xc, xt, xd, xs⟩ := x
  simp only at c0 c1 c2 c3
  have HA := al1 w (.cells #[.int .i64 0, .int .i64 0, .string ⟨#[]⟩, .int .i64 0] 41)
  obtain ⟨W0, hW0⟩ : ∃ W0, w.alloc (.cells #[.int .i64 0, .int .i64 0, .string ⟨#[]⟩, .int .i64 0] 41) = W0 := ⟨_, rfl⟩
  rw [hW0] at c0 c1 c2 c3 HA qz
  have HA' : Hid _ := HA
  obtain ⟨x0, x1, x2, x3⟩ := box4_cells HA
  obtain ⟨f0, f1, f2, f3⟩ := box4_free HA
  have hj0 : (0 : Int) ≤ (j : Int) := by omega
  have hj1 : (j : Int) < (n : Int) := by omega
  clear HA hk hs hk2 hn
  go_enter Tryd.func59, Tryd.ntmps59
  go_wp2_with (go_at_call 58; refine (cP _).mono ?_; rintro e w' ⟨rfl, hww⟩; have hww := hww.symm; subst hww)
  obtain ⟨t0, t1, t2, t3⟩ := box4_cells (box4_set HA'.out (x0 := .int .i64 xc) (x1 := .int .i64 xt) (x2 := .string xd) (x3 := .int .i64 xs))
  exact bodyPost_ret (v := .agg #[.int .i64 xc, .int .i64 xt, .string xd, .int .i64 xs]) (by simp [results, Tryd.results59, go_sem, t0, t1, t2, t3]) rfl ⟨rfl, set4_below qz (Nat.le_refl _) _ _ _ _⟩
end Go.Proofs.YtcfjkejaenmibaaDoor
