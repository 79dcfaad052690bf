import Derived.Test.YtgapplfnlndckaaG3
/- spec.l6List. -/
namespace Go.Proofs.Ytgapplfnlndckaa
open Go.ChangeShapes Go.WideShapes Go.ChangeAt Go.RowKit
set_option linter.unusedVariables false
open Room

attribute [local go_sem] Oper.semAt_some

/-- The end of what stands ahead of a place. -/
def endK (l : List Ex) (k : Nat) : Int := if k = 0 then 0 else fin (gx l (k - 1))
theorem lst_at {e : Int} {l : List Ex} {k : Nat} (hk : k < l.length) : lst e (endK l k) (l.drop k) = (isB (gx l k) && (decide ((gx l k).1 ≤ e - ln (gx l k)) && (decide (endK l k ≤ (gx l k).1) && lst e (endK l (k + 1)) (l.drop (k + 1))))) := by
  rw [List.drop_eq_getElem_cons hk, lst, ← gx_eq hk]
  simp [endK]
theorem sm_at {l : List Ex} {k : Nat} (hk : k < l.length) : sm (l.drop k) = ln (gx l k) + sm (l.drop (k + 1)) := by
  rw [List.drop_eq_getElem_cons hk, sm, ← gx_eq hk]
/-- What l6List tells. -/
def lstV (e : Int) (l : List Ex) : Value := .tuple #[.int .i64 (if lst e 0 l then sm l else 0), .bool (lst e 0 l)]

set_option maxHeartbeats 4000000 in
theorem l6List_any (a : Option Addr) (ca : Nat) (l : List Ex) (e : Int) (w : World) (he0 : 0 ≤ e) (he : e ≤ 256) (hn : l.length ≤ 1048576) (ha : Exs w a l) :
    Calls Try.prog 36 #[.slice a l.length ca, .int .i64 e] w fun r w' => r = .returned (lstV e l) ∧ Below w.heap.size w w' := by
  unfold lstV
  obtain ⟨t, ht⟩ : ∃ t, lst e 0 l = t := ⟨_, rfl⟩
  obtain ⟨T, hT⟩ : ∃ T, sm l = T := ⟨_, rfl⟩
  rw [ht, hT]
  go_enter Try.func36, Try.ntmps36
  go_wp2
  go_loopw [6, 11] (fun n i wr => ∃ (k : Nat) (S : Int), k ≤ l.length ∧ n = .int .i64 S ∧ i = .int .i64 k ∧ 0 ≤ S ∧ S ≤ 256 * k ∧ lst e (endK l k) (l.drop k) = t ∧ T = S + sm (l.drop k) ∧ (∀ j, j + 1 = k → isB (gx l j) = true) ∧ Below w.heap.size w wr) (fun _ i _ => l.length - (intOf i).toNat)
  case atStart => exact ⟨0, 0, Nat.zero_le _, rfl, rfl, by omega, by omega, ht, by simp [hT], fun j hj => by omega, Below.refl _ _⟩
  case round =>
    obtain ⟨k, S, hk, rfl, rfl, hS0, hS1, hls, hsm, hpr, hb⟩ := hrel
    clear ht hT
    by_cases hlt : k < l.length
    · rw [lst_at hlt] at hls
      rw [sm_at hlt] at hsm
      obtain ⟨b, off, rfl, hcell⟩ := (ha.below hb) (by omega)
      obtain ⟨k0, k1⟩ := hcell k hlt
      have hlt' : (k : Int) < (l.length : Int) := by omega
      have hend : ∀ j, j + 1 = k → endK l k = fin (gx l j) := fun j hj => by subst hj; simp [endK]
      have h00 : k = 0 → endK l k = 0 := fun h => by simp [endK, h]
      obtain ⟨M2, hM2⟩ : ∃ M2, endK l (k + 1) = M2 := ⟨_, rfl⟩
      rw [hM2] at hls
      have HM2 : Hid (endK l (k + 1) = M2) := hM2
      clear hM2
      generalize endK l k = M at *
      obtain ⟨x, hx⟩ : ∃ x, gx l k = x := ⟨_, rfl⟩
      rw [hx] at k0 k1 hls hsm
      have HXe : Hid (gx l k = x) := hx
      obtain ⟨y, hy⟩ : ∃ y, isB x = y := ⟨_, rfl⟩
      rw [hy] at hls
      have c51 := fun W => l6Block_any x W
      rw [hy] at c51
      have HYe : Hid (isB x = y) := hy
      clear hx hy
      obtain ⟨p, q⟩ := x
      simp only at k0 k1 hls
      obtain ⟨E, hE⟩ : ∃ E, wr.heap.size = E := ⟨_, rfl⟩
      obtain ⟨W1, hW1⟩ : ∃ W1, wr.alloc (.cells #[.int .i64 p, .int .i64 q] 43) = W1 := ⟨_, rfl⟩
      have b1 : Below wr.heap.size wr W1 := by subst hW1; exact below_alloc _ _
      have HE : Hid (W1.heap[E]? = some (.cells #[.int .i64 p, .int .i64 q] 43 (0, 0))) := by subst hW1 hE; exact al1 _ _
      have x0 : ∀ d os, (Go.Sort.grow (redrawn W1 d) os).cell? ⟨E, 0, none⟩ = some (.int .i64 p) := fun d os => cell_regrown (box2_cells HE.out).1 d os
      have x1 : ∀ d os, (Go.Sort.grow (redrawn W1 d) os).cell? ⟨E, 1, none⟩ = some (.int .i64 q) := fun d os => cell_regrown (box2_cells HE.out).2.1 d os
      have cP : ∀ d os, Calls Try.prog 51 #[.agg #[.int .i64 p, .int .i64 q]] (Go.Sort.grow (redrawn W1 d) os) fun e w'' => e = .returned (.bool y) ∧ ∃ p : Regrown, w'' = Go.Sort.grow (redrawn W1 p.d) p.os := fun d os => Calls.regrown_of (c51 _)
      cases y with
      | false =>
        rw [Bool.false_and] at hls
        subst hls
        clear hcell hpr
        go_wp2
        clear hW1
        refine wp_region_quiet_below (by kernel_rfl) (by kernel_rfl) ?_
        repeat (go_big_quiet_step (exact cP _ _))
        refine wpQuiet_nil ?_
        intro _ hw'
        obtain ⟨⟨dq, osq⟩, hw''⟩ := hw'
        subst hw''
        have b8 := below_regrown W1 dq osq
        have e8 := box_on HE.out b8
        clear cP x0 x1 
        generalize Go.Sort.grow (redrawn W1 dq) osq = w8 at *
        obtain ⟨x0, x1, -, -⟩ := box2_cells e8
        go_wp2
        go_ret2
        exact ⟨rfl, Below.comp hb (Below.comp b1 b8)⟩
      | true =>
        rw [Bool.true_and] at hls
        have HXB : Hid (isB (gx l k) = true) := by rw [HXe.out]; exact HYe.out
        obtain ⟨p', c, hpc, hp30, hc8⟩ := xv_nat HYe.out
        obtain rfl : q = (c : Int) := congrArg Prod.snd hpc
        have hp0 : 0 ≤ p := by have : p = (p' : Int) := congrArg Prod.fst hpc; omega
        have hp1 : p ≤ 1073741824 := by have : p = (p' : Int) := congrArg Prod.fst hpc; omega
        clear hpc
        have hsh := shl_one hc8
        have hP1 := pw_le hc8
        have hP0 := pw_pos (c : Int)
        have eln : ln (p, (c : Int)) = pw (c : Int) := rfl
        rw [eln] at hls hsm
        generalize pw (c : Int) = P at *
        clear eln
        by_cases hin : p ≤ e - P
        · rw [decide_eq_true hin, Bool.true_and] at hls
          rcases Nat.eq_zero_or_pos k with h0 | h0
          · rw [h00 h0, decide_eq_true hp0, Bool.true_and] at hls
            have hLS : Hid _ := hls
            clear hls
            have hsm2 : T = S + P + sm (l.drop (k + 1)) := by omega
            clear hcell hpr h00 hend
            have hkz : decide ((0 : Int) < (k : Int)) = false := decide_eq_false (by omega)
            have hkz2 : decide (0 < k) = false := decide_eq_false (by omega)
            have hin' : decide (e - P < p) = false := decide_eq_false (by omega)
            clear h0
            go_wp2
            clear hW1
            refine wp_region_quiet_below (by kernel_rfl) (by kernel_rfl) ?_
            repeat (go_big_quiet_step (exact cP _ _))
            refine wpQuiet_nil ?_
            intro _ hw'
            obtain ⟨⟨dq, osq⟩, hw''⟩ := hw'
            subst hw''
            have b8 := below_regrown W1 dq osq
            have e8 := box_on HE.out b8
            clear cP x0 x1 
            generalize Go.Sort.grow (redrawn W1 dq) osq = w8 at *
            obtain ⟨x0, x1, -, -⟩ := box2_cells e8
            go_wp2
            go_roundw
            case rel => exact ⟨k + 1, S + P, by omega, rfl, by go_num, by omega, by omega, (by rw [HM2.out]; exact hLS.out), hsm2, (fun j hj => by have hjk : j = k := (by omega); rw [hjk]; exact HXB.out), Below.comp hb (Below.comp b1 b8)⟩
            case measure => simp [intOf]; omega
          · obtain ⟨j, hj⟩ : ∃ j, j + 1 = k := ⟨k - 1, by omega⟩
            obtain ⟨m0, m1⟩ := hcell j (by omega)
            rw [hend j hj] at hls
            have hjB := hpr j hj
            obtain ⟨z, hz⟩ : ∃ z, gx l j = z := ⟨_, rfl⟩
            rw [hz] at m0 m1 hls hjB
            obtain ⟨u', c', huc, hu30, hc8'⟩ := xv_nat hjB
            have hz2 : z.2 = (c' : Int) := by rw [huc]
            have hz1 : z.1 = (u' : Int) := by rw [huc]
            have ef : fin z = (u' : Int) + pw (c' : Int) := by rw [huc]; rfl
            rw [ef] at hls
            rw [hz1] at m0
            rw [hz2] at m1
            clear hz huc hz1 hz2 hjB ef hend h00 hcell hpr
            have hsh' := shl_one hc8'
            have hQ1 := pw_le hc8'
            have hQ0 := pw_pos (c' : Int)
            generalize pw (c' : Int) = R at *
            have x2 : ∀ d os, (Go.Sort.grow (redrawn W1 d) os).cell? ⟨b, off + j * 2, none⟩ = some (.int .i64 u') := fun d os => cell_regrown (cell_on m0 b1) d os
            have x3 : ∀ d os, (Go.Sort.grow (redrawn W1 d) os).cell? ⟨b, off + j * 2 + 1, none⟩ = some (.int .i64 c') := fun d os => cell_regrown (cell_on m1 b1) d os
            subst hj
            have hkz : decide ((0 : Int) < (j : Int) + 1) = true := decide_eq_true (by omega)
            have hin' : decide (e - P < p) = false := decide_eq_false (by omega)
            have hj1 : (j : Int) < (l.length : Int) := by omega
            have hsm2 : T = S + P + sm (l.drop (j + 1 + 1)) := by omega
            by_cases hov : (u' : Int) + R ≤ p
            · rw [decide_eq_true hov, Bool.true_and] at hls
              have hLS : Hid _ := hls
              clear hls
              have hov' : decide (p < (u' : Int) + R) = false := decide_eq_false (by omega)
              go_wp2
              clear hW1
              refine wp_region_quiet_below (by kernel_rfl) (by kernel_rfl) ?_
              repeat (go_big_quiet_step (exact cP _ _))
              refine wpQuiet_nil ?_
              intro _ hw'
              obtain ⟨⟨dq, osq⟩, hw''⟩ := hw'
              subst hw''
              have b8 := below_regrown W1 dq osq
              have e8 := box_on HE.out b8
              clear cP x0 x1 x2 x3 m0 m1
              generalize Go.Sort.grow (redrawn W1 dq) osq = w8 at *
              obtain ⟨x0, x1, -, -⟩ := box2_cells e8
              go_wp2
              go_roundw
              case rel => exact ⟨j + 1 + 1, S + P, by omega, rfl, by go_num, by omega, by omega, (by rw [HM2.out]; exact hLS.out), hsm2, (fun i hi => by have hjk : i = j + 1 := (by omega); rw [hjk]; exact HXB.out), Below.comp hb (Below.comp b1 b8)⟩
              case measure => simp [intOf]; omega
            · rw [decide_eq_false hov, Bool.false_and] at hls
              subst hls
              have hov' : decide (p < (u' : Int) + R) = true := decide_eq_true (by omega)
              go_wp2
              clear hW1
              refine wp_region_quiet_below (by kernel_rfl) (by kernel_rfl) ?_
              repeat (go_big_quiet_step (exact cP _ _))
              refine wpQuiet_nil ?_
              intro _ hw'
              obtain ⟨⟨dq, osq⟩, hw''⟩ := hw'
              subst hw''
              have b8 := below_regrown W1 dq osq
              have e8 := box_on HE.out b8
              clear cP x0 x1 x2 x3 m0 m1
              generalize Go.Sort.grow (redrawn W1 dq) osq = w8 at *
              obtain ⟨x0, x1, -, -⟩ := box2_cells e8
              go_wp2
              go_ret2
              exact ⟨rfl, Below.comp hb (Below.comp b1 b8)⟩
        · rw [decide_eq_false hin, Bool.false_and] at hls
          subst hls
          have hin' : decide (e - P < p) = true := decide_eq_true (by omega)
          clear hcell hpr h00 hend
          go_wp2
          clear hW1
          refine wp_region_quiet_below (by kernel_rfl) (by kernel_rfl) ?_
          repeat (go_big_quiet_step (exact cP _ _))
          refine wpQuiet_nil ?_
          intro _ hw'
          obtain ⟨⟨dq, osq⟩, hw''⟩ := hw'
          subst hw''
          have b8 := below_regrown W1 dq osq
          have e8 := box_on HE.out b8
          clear cP x0 x1 
          generalize Go.Sort.grow (redrawn W1 dq) osq = w8 at *
          obtain ⟨x0, x1, -, -⟩ := box2_cells e8
          go_wp2
          go_ret2
          exact ⟨rfl, Below.comp hb (Below.comp b1 b8)⟩
    · have hkn : k = l.length := by omega
      subst hkn
      rw [List.drop_length] at hls hsm
      simp only [lst, sm, Int.add_zero] at hls hsm
      subst hls hsm
      go_wp2
      go_ret2
      exact ⟨rfl, hb⟩
end Go.Proofs.Ytgapplfnlndckaa
