import Derived.Test.YtpolhigpcllhiaaI6
import Derived.BigQuiet
/- Whether an item may follow: the program's look. -/
namespace Go.Proofs.Ytpolhigpcllhiaa
open Go.ChangeShapes Go.WideShapes Go.ChangeAt Go.RowKit
set_option linter.unusedVariables false
open Room

attribute [local go_sem] Oper.semAt_some

theorem enter81 (args : Array Value) (w : World) : (callFunc 81 args).run Try.prog w = .ok (.enter 81 args) w := enters_of Try.func81 (by kernel_rfl) rfl args w
theorem enter84 (args : Array Value) (w : World) : (callFunc 84 args).run Try.prog w = .ok (.enter 84 args) w := enters_of Try.func84 (by kernel_rfl) rfl args w

set_option maxHeartbeats 4000000 in
theorem mayPromise_any (b : Int) (a : Option Addr) (ca : Nat) (a' : Option Addr) (n' ca' : Nat) (l : List Ex) (pa : Option Addr) (pc : Nat) (P : List It) (x : It) (w : World) (hb : 1 ≤ b ∧ b ≤ 400) (hl : l.length ≤ 1048576) (hlin : ∀ y, y ∈ l → inB b y = true) (hP : P.length ≤ 1048576) (hPin : ∀ y, y ∈ P → inB b y.x = true) (hx1 : x.x.1 ≤ 9223372036854775807) (ha : Exs w a l) (hp : Its w pa P) :
    Calls Try.prog 74 #[fv b a l.length ca a' n' ca', .slice pa P.length pc, iv x] w fun e w' => e = .returned (.bool (mayP b l P x)) ∧ Below w.heap.size w w' := by
  have HM : Hid (mayP b l P x = (decide (x.k = 1) && (decide (x.i = (P.length : Int) + 1) && (decide (x.u = 0) && (inB b x.x && (!(l.any fun o => ov x.x o) && !(P.any fun o => ov x.x o.x))))))) := rfl
  have cN := fun W0 => reg_of (fun u => (nextId_any pa P.length pc u hP).mono (fun e w' h => ⟨h.1, by rw [h.2]; exact Below.refl _ _⟩)) W0
  have cW := fun W0 => reg_of (fun u => isWithin_any x.x b u hb.1 hb.2 hx1) W0
  have cX := fun (W : World) (E : Nat) (hin : inB b x.x = true) (hE : W.heap[E]? = some (.cells #[.int .i64 x.k, .int .i64 x.i, .int .i64 x.x.1, .int .i64 x.x.2, .int .i64 x.u] 71 (0, 0))) (hA : Exs W a l) =>
    hasX_any 81 #[.pointer (some ⟨E, 0, none⟩)] a ca l (fun o => ov x.x o) W hl hA enter81 (fun y hy W' hW' => free1_any E x y W' (box_on hE hW') (fin_in hin hb.2) (fin_in (hlin y hy) hb.2))
  have cI := fun (W : World) (E : Nat) (hin : inB b x.x = true) (hE : W.heap[E]? = some (.cells #[.int .i64 x.k, .int .i64 x.i, .int .i64 x.x.1, .int .i64 x.x.2, .int .i64 x.u] 71 (0, 0))) (hA : Its W pa P) =>
    hasI_any 84 #[.pointer (some ⟨E, 0, none⟩)] pa pc P (fun o => ov x.x o.x) W hP hA enter84 (fun y hy W' hW' => free2_any E x y W' (box_on hE hW') (fin_in hin hb.2) (fin_in (hPin y hy) hb.2))
  have HA : Hid (Exs w a l) := ha
  have HI : Hid (Its w pa P) := hp
  generalize mayP b l P x = r at *
  generalize (l.any fun o => ov x.x o) = u1 at *
  generalize (P.any fun o => ov x.x o.x) = u2 at *
  obtain ⟨v, hv⟩ : ∃ v, inB b x.x = v := ⟨_, rfl⟩
  rw [hv] at HM cW
  have cX' := fun W E (h : v = true) => cX W E (hv.trans h)
  have cI' := fun W E (h : v = true) => cI W E (hv.trans h)
  clear cX cI hv ha hp hlin hPin
  generalize hn : l.length = n at *
  generalize hm : P.length = m at *
  clear hn hm
  obtain ⟨pk, pi, ⟨px, py⟩, pu⟩ := x
  simp only at HM cW cX' cI'
  obtain ⟨D, hD⟩ : ∃ D, w.heap.size = D := ⟨_, rfl⟩
  obtain ⟨W0, hW0⟩ : ∃ W0, (w.alloc (.cells #[.int .i64 b, .slice a n ca, .slice a' n' ca'] 24)).alloc (.cells #[.int .i64 pk, .int .i64 pi, .int .i64 px, .int .i64 py, .int .i64 pu] 71) = W0 := ⟨_, rfl⟩
  have g0 : Below w.heap.size w W0 := by subst hW0; exact ba2 _ _ _
  obtain ⟨B1, B2⟩ : W0.heap[D]? = some (.cells #[.int .i64 b, .slice a n ca, .slice a' n' ca'] 24 (0, 0)) ∧ W0.heap[D + 1]? = some (.cells #[.int .i64 pk, .int .i64 pi, .int .i64 px, .int .i64 py, .int .i64 pu] 71 (0, 0)) := by subst hW0 hD; exact al2 _ _ _
  have H1 : Hid (W0.heap[D]? = some (.cells #[.int .i64 b, .slice a n ca, .slice a' n' ca'] 24 (0, 0))) := B1
  have H2 : Hid (W0.heap[D + 1]? = some (.cells #[.int .i64 pk, .int .i64 pi, .int .i64 px, .int .i64 py, .int .i64 pu] 71 (0, 0))) := B2
  obtain ⟨f0', -, -, -, -, -⟩ := box3_cells B1
  obtain ⟨i0', i1', i2', i3', i4'⟩ := box5_cells B2
  have f0 : ∀ d os, (Go.Sort.grow (redrawn W0 d) os).cell? ⟨D, 0, none⟩ = some (.int .i64 b) := fun d os => cell_regrown f0' d os
  have i0 : ∀ d os, (Go.Sort.grow (redrawn W0 d) os).cell? ⟨D + 1, 0, none⟩ = some (.int .i64 pk) := fun d os => cell_regrown i0' d os
  have i1 : ∀ d os, (Go.Sort.grow (redrawn W0 d) os).cell? ⟨D + 1, 1, none⟩ = some (.int .i64 pi) := fun d os => cell_regrown i1' d os
  have i2 : ∀ d os, (Go.Sort.grow (redrawn W0 d) os).cell? ⟨D + 1, 2, none⟩ = some (.int .i64 px) := fun d os => cell_regrown i2' d os
  have i3 : ∀ d os, (Go.Sort.grow (redrawn W0 d) os).cell? ⟨D + 1, 3, none⟩ = some (.int .i64 py) := fun d os => cell_regrown i3' d os
  have i4 : ∀ d os, (Go.Sort.grow (redrawn W0 d) os).cell? ⟨D + 1, 4, none⟩ = some (.int .i64 pu) := fun d os => cell_regrown i4' d os
  have kN := cN W0
  have kW := cW W0
  clear B1 B2 cN cW f0' i0' i1' i2' i3' i4' hx1
  by_cases h1 : (pk != 1) = true
  · have hr : r = false := by rw [HM.out]; simp at h1; simp [h1]
    subst hr
    go_enter Try.func74, Try.ntmps74
    go_wp2
    clear hW0
    refine wp_region_quiet_below (by kernel_rfl) (by kernel_rfl) ?_
    repeat (go_big_quiet_step (first | with_reducible exact kN _ _ | with_reducible exact kW _ _))
    refine wpQuiet_nil ?_
    intro _ hw'
    obtain ⟨⟨dq', osq⟩, hw''⟩ := hw'
    subst hw''
    have b8 := below_regrown W0 dq' osq
    clear f0 i0 i1 i2 i3 i4 kN kW
    generalize Go.Sort.grow (redrawn W0 dq') osq = w8 at *
    go_wp2
    go_ret
    exact ⟨rfl, by first | exact Below.comp g0 b8 | exact (hD ▸ Below.comp g0 b8)⟩
  have h1' : (pk != 1) = false := by simpa using h1
  by_cases h2 : (pi != (m : Int) + 1) = true
  · have hr : r = false := by rw [HM.out]; simp at h2; simp [h2]
    subst hr
    go_enter Try.func74, Try.ntmps74
    go_wp2
    clear hW0
    refine wp_region_quiet_below (by kernel_rfl) (by kernel_rfl) ?_
    repeat (go_big_quiet_step (first | with_reducible exact kN _ _ | with_reducible exact kW _ _))
    refine wpQuiet_nil ?_
    intro _ hw'
    obtain ⟨⟨dq', osq⟩, hw''⟩ := hw'
    subst hw''
    have b8 := below_regrown W0 dq' osq
    clear f0 i0 i1 i2 i3 i4 kN kW
    generalize Go.Sort.grow (redrawn W0 dq') osq = w8 at *
    go_wp2
    go_ret
    exact ⟨rfl, by first | exact Below.comp g0 b8 | exact (hD ▸ Below.comp g0 b8)⟩
  have h2' : (pi != (m : Int) + 1) = false := by simpa using h2
  by_cases h3 : (pu != 0) = true
  · have hr : r = false := by rw [HM.out]; simp at h3; simp [h3]
    subst hr
    go_enter Try.func74, Try.ntmps74
    go_wp2
    clear hW0
    refine wp_region_quiet_below (by kernel_rfl) (by kernel_rfl) ?_
    repeat (go_big_quiet_step (first | with_reducible exact kN _ _ | with_reducible exact kW _ _))
    refine wpQuiet_nil ?_
    intro _ hw'
    obtain ⟨⟨dq', osq⟩, hw''⟩ := hw'
    subst hw''
    have b8 := below_regrown W0 dq' osq
    clear f0 i0 i1 i2 i3 i4 kN kW
    generalize Go.Sort.grow (redrawn W0 dq') osq = w8 at *
    go_wp2
    go_ret
    exact ⟨rfl, by first | exact Below.comp g0 b8 | exact (hD ▸ Below.comp g0 b8)⟩
  have h3' : (pu != 0) = false := by simpa using h3
  cases v with
  | false =>
    have hr : r = false := by rw [HM.out]; simp
    subst hr
    go_enter Try.func74, Try.ntmps74
    go_wp2
    clear hW0
    refine wp_region_quiet_below (by kernel_rfl) (by kernel_rfl) ?_
    repeat (go_big_quiet_step (first | with_reducible exact kN _ _ | with_reducible exact kW _ _))
    refine wpQuiet_nil ?_
    intro _ hw'
    obtain ⟨⟨dq', osq⟩, hw''⟩ := hw'
    subst hw''
    have b8 := below_regrown W0 dq' osq
    clear f0 i0 i1 i2 i3 i4 kN kW
    generalize Go.Sort.grow (redrawn W0 dq') osq = w8 at *
    go_wp2
    go_ret
    exact ⟨rfl, by first | exact Below.comp g0 b8 | exact (hD ▸ Below.comp g0 b8)⟩
  | true =>
    have hr : r = (!u1 && !u2) := by
      rw [HM.out]
      simp at h1' h2' h3'
      simp [h1', h2', h3']
    have HR : Hid (r = (!u1 && !u2)) := hr
    clear hr
    go_enter Try.func74, Try.ntmps74
    go_wp2
    clear hW0
    refine wp_region_quiet_below (by kernel_rfl) (by kernel_rfl) ?_
    repeat (go_big_quiet_step (first | with_reducible exact kN _ _ | with_reducible exact kW _ _))
    refine wpQuiet_nil ?_
    intro _ hw'
    obtain ⟨⟨dq', osq⟩, hw''⟩ := hw'
    subst hw''
    have b8 := below_regrown W0 dq' osq
    clear f0 i0 i1 i2 i3 i4 kN kW
    generalize Go.Sort.grow (redrawn W0 dq') osq = w8 at *
    have K1 : Hid (w8.heap[D]? = some (.cells #[.int .i64 b, .slice a n ca, .slice a' n' ca'] 24 (0, 0))) := box_on H1.out b8
    have K2 : Hid (w8.heap[D + 1]? = some (.cells #[.int .i64 pk, .int .i64 pi, .int .i64 px, .int .i64 py, .int .i64 pu] 71 (0, 0))) := box_on H2.out b8
    have g8 := Below.comp g0 b8
    obtain ⟨-, j1, -, -, -, -⟩ := box3_cells K1.out
    go_wp2_with fail
    refine (cX' _ _ (by simp) K2.out (HA.out.below g8)).mono ?_
    rintro e w9 ⟨rfl, b9⟩
    have g9 := Below.comp g8 b9
    clear j1
    go_wp2_with fail
    refine (cI' _ _ (by simp) (box_on K2.out b9) (HI.out.below g9)).mono ?_
    rintro e w10 ⟨rfl, b10⟩
    have g10 : Below w.heap.size w w10 := Below.comp g9 b10
    have hr := HR.out
    subst hr
    cases u1 <;> cases u2
    all_goals
      go_wp2
      go_ret
      exact ⟨rfl, by first | exact g10 | exact (hD ▸ g10)⟩

set_option maxHeartbeats 4000000 in
theorem mayBeDone_any (pa : Option Addr) (pc : Nat) (P : List It) (x : It) (w : World) (hP : P.length ≤ 1048576) (hp : Its w pa P) :
    Calls Try.prog 75 #[.slice pa P.length pc, iv x] w fun e w' => e = .returned (.bool (mayD P x)) ∧ Below w.heap.size w w' := by
  have HM : Hid (mayD P x = (decide (x.k = 2) && (decide (x.x = (0, 0)) && (decide (1 ≤ x.i) && (decide (x.i < (P.length : Int) + 1) && (decide ((gi P (x.i - 1).toNat).u < x.u) && decide (x.u ≤ (gi P (x.i - 1).toNat).x.2))))))) := rfl
  have cN := fun W0 => reg_of (fun u => (nextId_any pa P.length pc u hP).mono (fun e w' h => ⟨h.1, by rw [h.2]; exact Below.refl _ _⟩)) W0
  have hne : ∀ W, (binOp .neq 47 (.agg #[.int .i64 x.x.1, .int .i64 x.x.2]) (.agg #[.int .i64 0, .int .i64 0])).run Try.prog W = .ok (.bool (!decide (x.x = (0, 0)))) W := fun W => neqX.1 x.x (0, 0) W
  have hgu : ∀ (o1 o2 : Operand) (xs ys : Array Value) (W : World), (eqGuard .neq 47 o1 o2 (.agg xs) (.agg ys)).run Try.prog W = .ok () W := fun o1 o2 xs ys W => run_eqGuard_agg W .neq _ o1 o2 xs ys (by kernel_rfl)
  have HI : Hid (RowI w pa P.length (gi P)) := hp
  generalize mayD P x = r at *
  generalize gi P = G at *
  obtain ⟨v, hv⟩ : ∃ v, decide (x.x = (0, 0)) = v := ⟨_, rfl⟩
  rw [hv] at HM hne
  clear hv hp
  generalize P.length = m at *
  obtain ⟨pk, pi, ⟨px, py⟩, pu⟩ := x
  simp only at HM hne
  obtain ⟨D, hD⟩ : ∃ D, w.heap.size = D := ⟨_, rfl⟩
  obtain ⟨W0, hW0⟩ : ∃ W0, w.alloc (.cells #[.int .i64 pk, .int .i64 pi, .int .i64 px, .int .i64 py, .int .i64 pu] 71) = W0 := ⟨_, rfl⟩
  have g0 : Below w.heap.size w W0 := by subst hW0; exact below_alloc _ _
  have B2 : W0.heap[D]? = some (.cells #[.int .i64 pk, .int .i64 pi, .int .i64 px, .int .i64 py, .int .i64 pu] 71 (0, 0)) := by subst hW0 hD; exact al1 _ _
  have H2 : Hid (W0.heap[D]? = some (.cells #[.int .i64 pk, .int .i64 pi, .int .i64 px, .int .i64 py, .int .i64 pu] 71 (0, 0))) := B2
  obtain ⟨i0', i1', i2', i3', i4'⟩ := box5_cells B2
  have i0 : ∀ d os, (Go.Sort.grow (redrawn W0 d) os).cell? ⟨D, 0, none⟩ = some (.int .i64 pk) := fun d os => cell_regrown i0' d os
  have i1 : ∀ d os, (Go.Sort.grow (redrawn W0 d) os).cell? ⟨D, 1, none⟩ = some (.int .i64 pi) := fun d os => cell_regrown i1' d os
  have i2 : ∀ d os, (Go.Sort.grow (redrawn W0 d) os).cell? ⟨D, 2, none⟩ = some (.int .i64 px) := fun d os => cell_regrown i2' d os
  have i3 : ∀ d os, (Go.Sort.grow (redrawn W0 d) os).cell? ⟨D, 3, none⟩ = some (.int .i64 py) := fun d os => cell_regrown i3' d os
  have i4 : ∀ d os, (Go.Sort.grow (redrawn W0 d) os).cell? ⟨D, 4, none⟩ = some (.int .i64 pu) := fun d os => cell_regrown i4' d os
  have kN := cN W0
  clear B2 cN i0' i1' i2' i3' i4'
  by_cases h1 : (pk != 2) = true
  · have hr : r = false := by rw [HM.out]; simp at h1; simp [h1]
    subst hr
    cases v <;> go_enter Try.func75, Try.ntmps75
    all_goals
      go_wp2
      clear hW0
      refine wp_region_quiet_below (by kernel_rfl) (by kernel_rfl) ?_
      repeat (go_big_quiet_step (first | with_reducible exact kN _ _))
      refine wpQuiet_nil ?_
      intro _ hw'
      obtain ⟨⟨dq', osq⟩, hw''⟩ := hw'
      subst hw''
      have b8 := below_regrown W0 dq' osq
      clear i0 i1 i2 i3 i4 kN
      generalize Go.Sort.grow (redrawn W0 dq') osq = w8 at *
      go_wp2
      go_ret
      exact ⟨rfl, by first | exact Below.comp g0 b8 | exact (hD ▸ Below.comp g0 b8)⟩
  have h1' : (pk != 2) = false := by simpa using h1
  cases v with
  | false =>
    have hr : r = false := by rw [HM.out]; simp
    subst hr
    go_enter Try.func75, Try.ntmps75
    go_wp2
    clear hW0
    refine wp_region_quiet_below (by kernel_rfl) (by kernel_rfl) ?_
    repeat (go_big_quiet_step (first | with_reducible exact kN _ _))
    refine wpQuiet_nil ?_
    intro _ hw'
    obtain ⟨⟨dq', osq⟩, hw''⟩ := hw'
    subst hw''
    have b8 := below_regrown W0 dq' osq
    clear i0 i1 i2 i3 i4 kN
    generalize Go.Sort.grow (redrawn W0 dq') osq = w8 at *
    go_wp2
    go_ret
    exact ⟨rfl, by first | exact Below.comp g0 b8 | exact (hD ▸ Below.comp g0 b8)⟩
  | true =>
    by_cases h3 : pi < 1
    · have hr : r = false := by
        have e : decide (1 ≤ pi) = false := by simp; omega
        rw [HM.out, e]; simp
      subst hr
      go_enter Try.func75, Try.ntmps75
      go_wp2
      clear hW0
      refine wp_region_quiet_below (by kernel_rfl) (by kernel_rfl) ?_
      repeat (go_big_quiet_step (first | with_reducible exact kN _ _))
      refine wpQuiet_nil ?_
      intro _ hw'
      obtain ⟨⟨dq', osq⟩, hw''⟩ := hw'
      subst hw''
      have b8 := below_regrown W0 dq' osq
      clear i0 i1 i2 i3 i4 kN
      generalize Go.Sort.grow (redrawn W0 dq') osq = w8 at *
      go_wp2
      go_ret
      exact ⟨rfl, by first | exact Below.comp g0 b8 | exact (hD ▸ Below.comp g0 b8)⟩
    have h3b : decide (pi < 1) = false := by simpa using h3
    by_cases h4 : (m : Int) + 1 ≤ pi
    · have hr : r = false := by
        have e : decide (pi < (m : Int) + 1) = false := by simp; omega
        rw [HM.out, e]; simp
      subst hr
      go_enter Try.func75, Try.ntmps75
      go_wp2
      clear hW0
      refine wp_region_quiet_below (by kernel_rfl) (by kernel_rfl) ?_
      repeat (go_big_quiet_step (first | with_reducible exact kN _ _))
      refine wpQuiet_nil ?_
      intro _ hw'
      obtain ⟨⟨dq', osq⟩, hw''⟩ := hw'
      subst hw''
      have b8 := below_regrown W0 dq' osq
      clear i0 i1 i2 i3 i4 kN
      generalize Go.Sort.grow (redrawn W0 dq') osq = w8 at *
      go_wp2
      go_ret
      exact ⟨rfl, by first | exact Below.comp g0 b8 | exact (hD ▸ Below.comp g0 b8)⟩
    have h4b : decide ((m : Int) + 1 ≤ pi) = false := by simpa using h4
    obtain ⟨j, hj⟩ : ∃ j : Nat, pi = (j : Int) + 1 := ⟨(pi - 1).toNat, by omega⟩
    have hjm : j < m := by omega
    have hr : r = (decide ((G j).u < pu) && decide (pu ≤ (G j).x.2)) := by
      have e1 : decide (1 ≤ pi) = true := by simp; omega
      have e2 : decide (pi < (m : Int) + 1) = true := by simp; omega
      have e3 : (pi - 1).toNat = j := by omega
      simp at h1'
      rw [HM.out, e1, e2, e3]
      simp [h1']
    have HR : Hid (r = (decide ((G j).u < pu) && decide (pu ≤ (G j).x.2))) := hr
    have HJ : Hid (pi = (j : Int) + 1) := hj
    clear hr HM hj h3 h4
    go_enter Try.func75, Try.ntmps75
    go_wp2
    clear hW0
    refine wp_region_quiet_below (by kernel_rfl) (by kernel_rfl) ?_
    repeat (go_big_quiet_step (first | with_reducible exact kN _ _))
    refine wpQuiet_nil ?_
    intro _ hw'
    obtain ⟨⟨dq', osq⟩, hw''⟩ := hw'
    subst hw''
    have b8 := below_regrown W0 dq' osq
    clear i0 i1 i2 i3 i4 kN
    generalize Go.Sort.grow (redrawn W0 dq') osq = w8 at *
    have K2 : Hid (w8.heap[D]? = some (.cells #[.int .i64 pk, .int .i64 pi, .int .i64 px, .int .i64 py, .int .i64 pu] 71 (0, 0))) := box_on H2.out b8
    have g8 : Below w.heap.size w w8 := Below.comp g0 b8
    obtain ⟨i0, i1, i2, i3, i4⟩ := box5_cells K2.out
    obtain ⟨bb, off, rfl, hcell⟩ := (HI.out.below g8) (by omega)
    obtain ⟨c0, c1, c2, c3, c4⟩ := hcell j hjm
    clear hcell
    have ew : IntKind.i64.wrap (pi - 1) = (j : Int) := by have hj := HJ.out; rw [wrapI (by omega) (by omega)]; omega
    clear h3b h4b
    have hj0 : (0 : Int) ≤ (j : Int) := by omega
    have hj1 : (j : Int) < (m : Int) := by omega
    generalize G j = y at c0 c1 c2 c3 c4 HR
    obtain ⟨qk, qi, ⟨qx, qy⟩, qu⟩ := y
    simp only at c0 c1 c2 c3 c4 HR
    obtain ⟨E, hE⟩ : ∃ E, w8.heap.size = E := ⟨_, rfl⟩
    obtain ⟨W9, hW9⟩ : ∃ W9, w8.alloc (.cells #[.int .i64 qk, .int .i64 qi, .int .i64 qx, .int .i64 qy, .int .i64 qu] 71) = W9 := ⟨_, rfl⟩
    have b9 : Below w8.heap.size w8 W9 := by subst hW9; exact below_alloc _ _
    have B9 : W9.heap[E]? = some (.cells #[.int .i64 qk, .int .i64 qi, .int .i64 qx, .int .i64 qy, .int .i64 qu] 71 (0, 0)) := by subst hW9 hE; exact al1 _ _
    obtain ⟨d0, d1, d2, d3, d4⟩ := box5_cells (box_on K2.out b9)
    obtain ⟨e0, e1, e2, e3, e4⟩ := box5_cells B9
    have hr := HR.out
    clear HR
    by_cases h5 : qu < pu
    · have hr' : r = decide (pu ≤ qy) := by rw [hr]; simp [h5]
      subst hr'
      clear hr
      go_wp2
      go_ret
      exact ⟨rfl, by first | exact Below.comp g8 b9 | exact (hD ▸ Below.comp g8 b9)⟩
    · have hr' : r = false := by rw [hr]; simp [h5]
      subst hr'
      clear hr
      go_wp2
      go_ret
      exact ⟨rfl, by first | exact Below.comp g8 b9 | exact (hD ▸ Below.comp g8 b9)⟩
end Go.Proofs.Ytpolhigpcllhiaa
