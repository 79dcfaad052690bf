import Derived.Test.YtcfjkejaenmibaaDoorI2
/- The program: the bounds of a ring. -/
namespace Go.Proofs.YtcfjkejaenmibaaDoor
open Go.ChangeShapes Go.WideShapes Go.ChangeAt Go.RowKit
set_option linter.unusedVariables false
open Lg

attribute [local go_sem] Oper.semAt_some

set_option maxRecDepth 20000 in
set_option maxHeartbeats 4000000 in
theorem bounds_any (a : Option Addr) (n c : Nat) (h cy t : Int) (w : World) (hn : n ≤ 1048576) (hh : i64 h) (hcy : i64 cy) (ht : i64 t) :
    Calls Tryd.prog 49 #[rv a n c h cy t] w fun e w' => e = .returned (.bool (bdB n h cy t)) ∧ Below w.heap.size w w' := by
  have HN : Hid (¬ (2 ≤ n ∧ n ≤ 24 ∧ 0 ≤ h ∧ h ≤ 10000000 ∧ 0 ≤ t ∧ t ≤ h ∧ h - t ≤ n ∧ cy = h / n + 1) → false = bdB n h cy t) := fun q => (bd_no q).symm
  have HY : Hid (2 ≤ n ∧ n ≤ 24 ∧ 0 ≤ h ∧ h ≤ 10000000 ∧ 0 ≤ t ∧ t ≤ h ∧ h - t ≤ n ∧ cy = h / n + 1 → true = bdB n h cy t) := fun q => (bd_is.2 q).symm
  generalize bdB n h cy t = G at *
  unfold i64 at hh hcy ht
  obtain ⟨D, hD⟩ : ∃ D, w.heap.size = D := ⟨_, rfl⟩
  obtain ⟨W0, hW0⟩ : ∃ W0, w.alloc (.cells #[.slice a n c, .int .i64 h, .int .i64 cy, .int .i64 t] 24) = W0 := ⟨_, rfl⟩
  have q0 : Below w.heap.size w W0 := by subst hW0; exact below_alloc _ _
  have HA : Hid (W0.heap[D]? = some (.cells #[.slice a n c, .int .i64 h, .int .i64 cy, .int .i64 t] 24 (0, 0))) := by subst hW0 hD; exact al1 _ _
  obtain ⟨x0, x1, x2, x3⟩ := box4_cells HA.out
  have y0 : ∀ d' os, (Go.Sort.grow (redrawn W0 d') os).cell? ⟨D, 0, none⟩ = some (.slice a n c) := cell_regrown x0
  have y1 : ∀ d' os, (Go.Sort.grow (redrawn W0 d') os).cell? ⟨D, 1, none⟩ = some (.int .i64 h) := cell_regrown x1
  have y2 : ∀ d' os, (Go.Sort.grow (redrawn W0 d') os).cell? ⟨D, 2, none⟩ = some (.int .i64 cy) := cell_regrown x2
  have y3 : ∀ d' os, (Go.Sort.grow (redrawn W0 d') os).cell? ⟨D, 3, none⟩ = some (.int .i64 t) := cell_regrown x3
  have k1 : ∀ d os, Calls Tryd.prog 43 #[.int .i64 (n : Int)] (Go.Sort.grow (redrawn W0 d) os) fun e w'' => e = .returned (.bool (decide ((2 : Int) ≤ (n : Int)) && decide ((n : Int) ≤ 24))) ∧ ∃ p : Regrown, w'' = Go.Sort.grow (redrawn W0 p.d) p.os := fun d os => Calls.regrown_of ((isRingSize_any (n : Int) _).mono fun e w' q => ⟨q.1, by rw [q.2]; exact Below.refl _ _⟩)
  obtain ⟨u1, hu1⟩ : ∃ u, (decide ((2 : Int) ≤ (n : Int)) && decide ((n : Int) ≤ 24)) = u := ⟨_, rfl⟩
  rw [hu1] at k1
  have p1 : u1 = true ↔ (2 ≤ n ∧ n ≤ 24) := by rw [← hu1]; simp; omega
  clear hu1 x0 x1 x2 x3
  cases u1 with
  | false =>
    have p1' : ¬ (2 ≤ n ∧ n ≤ 24) := fun q => by have := p1.2 q; cases this
    obtain rfl := HN.out (by omega)
    clear p1 p1' hh hcy ht hn HN HY
    go_enter Tryd.func49, Tryd.ntmps49
    go_wp2
    clear hW0
    refine wp_region_quiet_below (by kernel_rfl) (by kernel_rfl) ?_
    repeat (go_big_quiet_step (first | with_reducible exact k1 _ _))
    refine wpQuiet_nil ?_
    intro _ hw'
    obtain ⟨⟨dq, osq⟩, hw''⟩ := hw'
    subst hw''
    have b8 := Below.comp q0 (below_regrown W0 dq osq)
    generalize Go.Sort.grow (redrawn W0 dq) osq = w8 at *
    go_wp2
    go_ret
    exact ⟨rfl, by first | exact b8 | exact (hD ▸ b8)⟩
  | true =>
    replace p1 := p1.1 rfl
    by_cases h1 : h ≤ 10000000
    · have h1' : decide (h ≤ 10000000) = true := decide_eq_true h1
      by_cases h2 : 0 ≤ t
      · have h2' : decide (0 ≤ t) = true := decide_eq_true h2
        by_cases h3 : t ≤ h
        · have h3' : decide (t ≤ h) = true := decide_eq_true h3
          obtain ⟨v, hv⟩ : ∃ v, h - t = v := ⟨_, rfl⟩
          have hw : IntKind.i64.wrap (h - t) = v := by rw [← hv]; exact wrapI (by omega) (by omega)
          by_cases h4 : v ≤ (n : Int)
          · have h4' : decide (v ≤ (n : Int)) = true := decide_eq_true h4
            obtain ⟨m, rfl⟩ : ∃ m : Nat, h = m := ⟨h.toNat, by omega⟩
            have cC := fun W => cycleOf_any m n W (by omega) (by omega)
            have hcc : (((m / n + 1 : Nat) : Nat) : Int) = (m : Int) / (n : Int) + 1 := by simp
            rw [← hcc] at HN HY
            clear hcc
            generalize ((m / n + 1 : Nat) : Int) = y at *
            have k64 : ∀ d' os, Calls Tryd.prog 64 #[.int .i64 (m : Int), .int .i64 (n : Int)] (Go.Sort.grow (redrawn W0 d') os) fun e w'' => e = .returned (.int .i64 y) ∧ ∃ p : Regrown, w'' = Go.Sort.grow (redrawn W0 p.d) p.os := fun d' os => Calls.regrown_of ((cC _).mono fun e w' q => ⟨q.1, by rw [q.2]; exact Below.refl _ _⟩)
            by_cases h5 : cy = y
            · have h5' : (cy == y) = true := by simp [h5]
              have h5'' : decide (cy = y) = true := decide_eq_true h5
              obtain rfl := HY.out (by omega)
              clear p1 h1 h2 h3 h4 h5 hh hcy ht hn HN HY hv cC
              go_enter Tryd.func49, Tryd.ntmps49
              go_wp2
              clear hW0
              refine wp_region_quiet_below (by kernel_rfl) (by kernel_rfl) ?_
              repeat (go_big_quiet_step (first | with_reducible exact k1 _ _ | with_reducible exact k64 _ _))
              refine wpQuiet_nil ?_
              intro _ hw'
              obtain ⟨⟨dq, osq⟩, hw''⟩ := hw'
              subst hw''
              have b8 := Below.comp q0 (below_regrown W0 dq osq)
              generalize Go.Sort.grow (redrawn W0 dq) osq = w8 at *
              go_wp2
              go_ret
              exact ⟨rfl, by first | exact b8 | exact (hD ▸ b8)⟩
            · have h5' : (cy == y) = false := by simp [h5]
              have h5'' : decide (cy = y) = false := decide_eq_false h5
              obtain rfl := HN.out (by omega)
              clear p1 h1 h2 h3 h4 h5 hh hcy ht hn HN HY hv cC
              go_enter Tryd.func49, Tryd.ntmps49
              go_wp2
              clear hW0
              refine wp_region_quiet_below (by kernel_rfl) (by kernel_rfl) ?_
              repeat (go_big_quiet_step (first | with_reducible exact k1 _ _ | with_reducible exact k64 _ _))
              refine wpQuiet_nil ?_
              intro _ hw'
              obtain ⟨⟨dq, osq⟩, hw''⟩ := hw'
              subst hw''
              have b8 := Below.comp q0 (below_regrown W0 dq osq)
              generalize Go.Sort.grow (redrawn W0 dq) osq = w8 at *
              go_wp2
              go_ret
              exact ⟨rfl, by first | exact b8 | exact (hD ▸ b8)⟩
          · have h4' : decide (v ≤ (n : Int)) = false := decide_eq_false h4
            obtain rfl := HN.out (by omega)
            clear p1 h1 h2 h3 h4 hh hcy ht hn HN HY hv
            go_enter Tryd.func49, Tryd.ntmps49
            go_wp2
            clear hW0
            refine wp_region_quiet_below (by kernel_rfl) (by kernel_rfl) ?_
            repeat (go_big_quiet_step (first | with_reducible exact k1 _ _))
            refine wpQuiet_nil ?_
            intro _ hw'
            obtain ⟨⟨dq, osq⟩, hw''⟩ := hw'
            subst hw''
            have b8 := Below.comp q0 (below_regrown W0 dq osq)
            generalize Go.Sort.grow (redrawn W0 dq) osq = w8 at *
            go_wp2
            go_ret
            exact ⟨rfl, by first | exact b8 | exact (hD ▸ b8)⟩
        · have h3' : decide (t ≤ h) = false := decide_eq_false h3
          obtain rfl := HN.out (by omega)
          clear p1 h1 h2 h3 hh hcy ht hn HN HY
          go_enter Tryd.func49, Tryd.ntmps49
          go_wp2
          clear hW0
          refine wp_region_quiet_below (by kernel_rfl) (by kernel_rfl) ?_
          repeat (go_big_quiet_step (first | with_reducible exact k1 _ _))
          refine wpQuiet_nil ?_
          intro _ hw'
          obtain ⟨⟨dq, osq⟩, hw''⟩ := hw'
          subst hw''
          have b8 := Below.comp q0 (below_regrown W0 dq osq)
          generalize Go.Sort.grow (redrawn W0 dq) osq = w8 at *
          go_wp2
          go_ret
          exact ⟨rfl, by first | exact b8 | exact (hD ▸ b8)⟩
      · have h2' : decide (0 ≤ t) = false := decide_eq_false h2
        obtain rfl := HN.out (by omega)
        clear p1 h1 h2 hh hcy ht hn HN HY
        go_enter Tryd.func49, Tryd.ntmps49
        go_wp2
        clear hW0
        refine wp_region_quiet_below (by kernel_rfl) (by kernel_rfl) ?_
        repeat (go_big_quiet_step (first | with_reducible exact k1 _ _))
        refine wpQuiet_nil ?_
        intro _ hw'
        obtain ⟨⟨dq, osq⟩, hw''⟩ := hw'
        subst hw''
        have b8 := Below.comp q0 (below_regrown W0 dq osq)
        generalize Go.Sort.grow (redrawn W0 dq) osq = w8 at *
        go_wp2
        go_ret
        exact ⟨rfl, by first | exact b8 | exact (hD ▸ b8)⟩
    · have h1' : decide (h ≤ 10000000) = false := decide_eq_false h1
      obtain rfl := HN.out (by omega)
      clear p1 h1 hh hcy ht hn HN HY
      go_enter Tryd.func49, Tryd.ntmps49
      go_wp2
      clear hW0
      refine wp_region_quiet_below (by kernel_rfl) (by kernel_rfl) ?_
      repeat (go_big_quiet_step (first | with_reducible exact k1 _ _))
      refine wpQuiet_nil ?_
      intro _ hw'
      obtain ⟨⟨dq, osq⟩, hw''⟩ := hw'
      subst hw''
      have b8 := Below.comp q0 (below_regrown W0 dq osq)
      generalize Go.Sort.grow (redrawn W0 dq) osq = w8 at *
      go_wp2
      go_ret
      exact ⟨rfl, by first | exact b8 | exact (hD ▸ b8)⟩
end Go.Proofs.YtcfjkejaenmibaaDoor
