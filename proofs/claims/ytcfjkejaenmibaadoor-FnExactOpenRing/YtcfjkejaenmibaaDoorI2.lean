import Derived.Test.YtcfjkejaenmibaaDoorI1
/- The program: a record in its slot, or its fault. -/
namespace Go.Proofs.YtcfjkejaenmibaaDoor
open Go.ChangeShapes Go.WideShapes Go.ChangeAt Go.RowKit
set_option linter.unusedVariables false
open Lg

attribute [local go_sem] Oper.semAt_some

/-- What is wrong with a record: 0 nothing, 1 its slot is blank, 2 it is another one or torn. -/
def frN (l : List Sl) (k : Int) : Nat :=
  if sameB (gs l (idx l.length k)) blank = true then 1
  else if 0 ≤ k ∧ whB (gs l (idx l.length k)) = true ∧ (gs l (idx l.length k)).c = k / l.length + 1 then 0 else 2
/-- A fault as a value. -/
def frV (r : Nat) (k : Int) (a0 a1 : Addr) : Value := if r = 0 then .nilIface else if r = 1 then .iface 82 (fv k 136 a0) else .iface 82 (fv k 136 a1)
set_option maxRecDepth 20000 in
set_option maxHeartbeats 4000000 in
theorem findRecord_any (k : Int) (a : Option Addr) (c : Nat) (l : List Sl) (w : World) (a0 a1 : Addr) (hn : 0 < l.length) (hk : -(l.length : Int) ≤ k) (hs : l.length ≤ 1048576) (hk2 : k ≤ 4000000000000000000) (hf : ∀ i, i < l.length → Few (gs l i)) (ha : Sls w a l) (hT : Tb w) (hS : Sn w a0 a1) :
    Calls Tryd.prog 66 #[.slice a l.length c, .int .i64 k] w fun e w' => e = .returned (frV (frN l k) k a0 a1) ∧ Below w.heap.size w w' := by
  have cS := slotFor_any k a c l w hn hk hs hk2 ha
  have hl := idx_lt hn hk
  have hfx := hf _ hl
  have HA : Hid (sameB (gs l (idx l.length k)) blank = true → frN l k = 1) := fun h => by unfold frN; rw [if_pos h]
  have HE : Hid (sameB (gs l (idx l.length k)) blank = false → 0 ≤ k ∧ whB (gs l (idx l.length k)) = true ∧ (gs l (idx l.length k)).c = k / l.length + 1 → frN l k = 0) := fun h h2 => by unfold frN; rw [if_neg (by rw [h]; decide), if_pos h2]
  have HL : Hid (sameB (gs l (idx l.length k)) blank = false → ¬ (0 ≤ k ∧ whB (gs l (idx l.length k)) = true ∧ (gs l (idx l.length k)).c = k / l.length + 1) → frN l k = 2) := fun h h2 => by unfold frN; rw [if_neg (by rw [h]; decide), if_neg h2]
  generalize frN l k = r at *
  generalize gs l (idx l.length k) = x at *
  generalize l.length = n at *
  have cW := fun W h => isWhole_any x W hfx h
  have cZ := fun W h => blankSlot_any W h
  have heq := eqlS x blank
  have hgu := fun o1 o2 xs ys W => guardS .eql o1 o2 xs ys W
  obtain ⟨u, hu⟩ : ∃ u, sameB x blank = u := ⟨_, rfl⟩
  rw [hu] at HA HE HL heq
  obtain ⟨bl, hbl⟩ : ∃ bl, blank = bl := ⟨_, rfl⟩
  rw [hbl] at cZ heq
  obtain ⟨wh, hwh⟩ : ∃ wh, whB x = wh := ⟨_, rfl⟩
  rw [hwh] at HE HL cW
  clear hu hbl hwh ha hf hl hfx
  obtain ⟨xc, xt, xd, xs⟩ := x
  obtain ⟨bc, bt, bd, bs⟩ := bl
  simp only at cS cW cZ heq HE HL
  go_enter Tryd.func66, Tryd.ntmps66
  go_wp2_with fail
  refine cS.mono ?_
  rintro e w1 ⟨rfl, b1⟩
  clear cS
  obtain ⟨D, hD⟩ : ∃ D, w1.heap.size = D := ⟨_, rfl⟩
  obtain ⟨Wz, hWz⟩ : ∃ Wz, w1.alloc (.cells #[.int .i64 0, .int .i64 0, .string ⟨#[]⟩, .int .i64 0] 41) = Wz := ⟨_, rfl⟩
  have qz : Below w1.heap.size w1 Wz := by subst hWz; exact below_alloc _ _
  have HB : Hid (Wz.heap[D]? = some (.cells #[.int .i64 0, .int .i64 0, .string ⟨#[]⟩, .int .i64 0] 41 (0, 0))) := by subst hWz hD; exact al1 _ _
  obtain ⟨x0, x1, x2, x3⟩ := box4_cells HB.out
  obtain ⟨f0, f1, f2, f3⟩ := box4_free HB.out
  obtain ⟨W1, hW1⟩ : ∃ W1, (((Wz.setCell ⟨D, 0, none⟩ (.int .i64 xc)).setCell ⟨D, 1, none⟩ (.int .i64 xt)).setCell ⟨D, 2, none⟩ (.string xd)).setCell ⟨D, 3, none⟩ (.int .i64 xs) = W1 := ⟨_, rfl⟩
  have HW : Hid (W1.heap[D]? = some (.cells #[.int .i64 xc, .int .i64 xt, .string xd, .int .i64 xs] 41 (0, 0))) := by subst hW1; exact box4_set HB.out
  have q1 : Below w1.heap.size w1 W1 := by subst hW1; exact set4_below qz (by omega) _ _ _ _
  have g1 : Below w.heap.size w W1 := Below.comp b1 q1
  go_wp2_with fail
  clear x0 x1 x2 x3 f0 f1 f2 f3 hWz hW1 HB
  obtain ⟨x0, x1, x2, x3⟩ := box4_cells HW.out
  have y0 : ∀ d' os, (Go.Sort.grow (redrawn W1 d') os).cell? ⟨D, 0, none⟩ = some (.int .i64 xc) := cell_regrown x0
  have y1 : ∀ d' os, (Go.Sort.grow (redrawn W1 d') os).cell? ⟨D, 1, none⟩ = some (.int .i64 xt) := cell_regrown x1
  have y2 : ∀ d' os, (Go.Sort.grow (redrawn W1 d') os).cell? ⟨D, 2, none⟩ = some (.string xd) := cell_regrown x2
  have y3 : ∀ d' os, (Go.Sort.grow (redrawn W1 d') os).cell? ⟨D, 3, none⟩ = some (.int .i64 xs) := cell_regrown x3
  have k46 : ∀ d' os, Calls Tryd.prog 46 #[] (Go.Sort.grow (redrawn W1 d') os) fun e w'' => e = .returned (.agg #[.int .i64 bc, .int .i64 bt, .string bd, .int .i64 bs]) ∧ ∃ p : Regrown, w'' = Go.Sort.grow (redrawn W1 p.d) p.os := fun d' os => Calls.regrown_of (cZ _ ((hT.on g1).on (below_regrown W1 d' os)))
  refine wp_region_quiet_below (by kernel_rfl) (by kernel_rfl) ?_
  repeat (go_big_quiet_step (with_reducible exact k46 _ _))
  refine wpQuiet_nil ?_
  intro _ hw'
  obtain ⟨⟨dq, osq⟩, hw''⟩ := hw'
  subst hw''
  have g8 := Below.comp g1 (below_regrown W1 dq osq)
  have H8 : Hid _ := box_on HW.out (below_regrown W1 dq osq)
  generalize Go.Sort.grow (redrawn W1 dq) osq = w8 at *
  clear x0 x1 x2 x3 y0 y1 y2 y3 k46 HW
  cases u with
  | true =>
    obtain rfl := HA.out rfl
    have hSn := hS.on g8
    have hg0 := hSn.g0
    go_wp2
    go_ret
    exact ⟨rfl, g8⟩
  | false =>
    obtain ⟨x0, x1, x2, x3⟩ := box4_cells H8.out
    have y0 : ∀ d' os, (Go.Sort.grow (redrawn w8 d') os).cell? ⟨D, 0, none⟩ = some (.int .i64 xc) := cell_regrown x0
    have y1 : ∀ d' os, (Go.Sort.grow (redrawn w8 d') os).cell? ⟨D, 1, none⟩ = some (.int .i64 xt) := cell_regrown x1
    have y2 : ∀ d' os, (Go.Sort.grow (redrawn w8 d') os).cell? ⟨D, 2, none⟩ = some (.string xd) := cell_regrown x2
    have y3 : ∀ d' os, (Go.Sort.grow (redrawn w8 d') os).cell? ⟨D, 3, none⟩ = some (.int .i64 xs) := cell_regrown x3
    have k69 : ∀ d' os, Calls Tryd.prog 69 #[.agg #[.int .i64 xc, .int .i64 xt, .string xd, .int .i64 xs]] (Go.Sort.grow (redrawn w8 d') os) fun e w'' => e = .returned (.bool wh) ∧ ∃ p : Regrown, w'' = Go.Sort.grow (redrawn w8 p.d) p.os := fun d' os => Calls.regrown_of (cW _ ((hT.on g8).on (below_regrown w8 d' os)))
    clear x0 x1 x2 x3 cW cZ heq hgu HA
    by_cases hneg : k < 0
    · obtain rfl := HL.out rfl (by omega)
      have hd : decide (k < 0) = true := decide_eq_true hneg
      clear HE HL hk hk2 hneg
      go_wp2
      refine wp_region_quiet_below (by kernel_rfl) (by kernel_rfl) ?_
      repeat (go_big_quiet_step (with_reducible exact k69 _ _))
      refine wpQuiet_nil ?_
      intro _ hw'
      obtain ⟨⟨dq, osq⟩, hw''⟩ := hw'
      subst hw''
      have b9 := Below.comp g8 (below_regrown w8 dq osq)
      generalize Go.Sort.grow (redrawn w8 dq) osq = w9 at *
      have hSn := hS.on b9
      have hg1 := hSn.g1
      go_wp2
      go_ret
      exact ⟨rfl, b9⟩
    · have hd : decide (k < 0) = false := decide_eq_false hneg
      cases wh with
      | false =>
        obtain rfl := HL.out rfl (by simp)
        clear HE HL hk hk2 hneg
        go_wp2
        refine wp_region_quiet_below (by kernel_rfl) (by kernel_rfl) ?_
        repeat (go_big_quiet_step (with_reducible exact k69 _ _))
        refine wpQuiet_nil ?_
        intro _ hw'
        obtain ⟨⟨dq, osq⟩, hw''⟩ := hw'
        subst hw''
        have b9 := Below.comp g8 (below_regrown w8 dq osq)
        generalize Go.Sort.grow (redrawn w8 dq) osq = w9 at *
        have hSn := hS.on b9
        have hg1 := hSn.g1
        go_wp2
        go_ret
        exact ⟨rfl, b9⟩
      | true =>
        obtain ⟨m, rfl⟩ : ∃ m : Nat, k = m := ⟨k.toNat, by omega⟩
        have cC := fun W => cycleOf_any m n W hn (by omega)
        have hcy : (((m / n + 1 : Nat) : Nat) : Int) = (m : Int) / (n : Int) + 1 := by simp
        rw [← hcy] at HE HL
        clear hcy
        generalize ((m / n + 1 : Nat) : Int) = y at *
        have k64 : ∀ d' os, Calls Tryd.prog 64 #[.int .i64 (m : Int), .int .i64 (n : Int)] (Go.Sort.grow (redrawn w8 d') os) fun e w'' => e = .returned (.int .i64 y) ∧ ∃ p : Regrown, w'' = Go.Sort.grow (redrawn w8 p.d) p.os := fun d' os => Calls.regrown_of ((cC _).mono fun e w' q => ⟨q.1, by rw [q.2]; exact Below.refl _ _⟩)
        by_cases hc : xc = y
        · have hc2 : (xc != y) = false := by simp [hc]
          have hc3 : decide (xc = y) = true := decide_eq_true hc
          obtain rfl := HE.out rfl ⟨by omega, rfl, hc⟩
          clear HE HL hk hk2 hneg cC hc
          go_wp2
          refine wp_region_quiet_below (by kernel_rfl) (by kernel_rfl) ?_
          repeat (go_big_quiet_step (first | with_reducible exact k69 _ _ | with_reducible exact k64 _ _))
          refine wpQuiet_nil ?_
          intro _ hw'
          obtain ⟨⟨dq, osq⟩, hw''⟩ := hw'
          subst hw''
          have b9 := Below.comp g8 (below_regrown w8 dq osq)
          generalize Go.Sort.grow (redrawn w8 dq) osq = w9 at *
          go_wp2
          go_ret
          exact ⟨rfl, b9⟩
        · have hc2 : (xc != y) = true := by simp [hc]
          have hc3 : decide (xc = y) = false := decide_eq_false hc
          obtain rfl := HL.out rfl (fun q => hc q.2.2)
          clear HE HL hk hk2 hneg cC hc
          go_wp2
          refine wp_region_quiet_below (by kernel_rfl) (by kernel_rfl) ?_
          repeat (go_big_quiet_step (first | with_reducible exact k69 _ _ | with_reducible exact k64 _ _))
          refine wpQuiet_nil ?_
          intro _ hw'
          obtain ⟨⟨dq, osq⟩, hw''⟩ := hw'
          subst hw''
          have b9 := Below.comp g8 (below_regrown w8 dq osq)
          generalize Go.Sort.grow (redrawn w8 dq) osq = w9 at *
          have hSn := hS.on b9
          have hg1 := hSn.g1
          go_wp2
          go_ret
          exact ⟨rfl, b9⟩
end Go.Proofs.YtcfjkejaenmibaaDoor
