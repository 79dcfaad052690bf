import Derived.Test.YtcfjkejaenmibaaT1
/- The law of TearSlot. -/
namespace Go.Proofs.Ytcfjkejaenmibaa
open Go.ChangeShapes Go.WideShapes Go.ChangeAt Go.RowKit
set_option linter.unusedVariables false
open Lg

attribute [local go_sem] Oper.semAt_some

set_option maxHeartbeats 4000000 in
theorem lawTear (x : Sl) (k : Int) (w : World) (hx : Few x) (hk : i64 k) :
    Calls Try.prog 3 #[sv x, .int .i64 k] w fun e w' => e = .returned (.bool true) ∧ Below w.heap.size w w' := by
  have cS := fun W => szSlot_any x 1048576 hx ⟨by decide, by decide⟩ W
  have cT := fun W => toSlot_any x W
  have cP := fun W => specTear_any x k W hx hk
  have cI := fun W => implTear_any x k W hx hk
  generalize te x k = y at *
  generalize teB x k = b at *
  have cE := fun W => eqSlot_any y W
  have hbb : (b != b) = false := by cases b <;> rfl
  clear hx hk
  obtain ⟨c, t, d, s⟩ := x
  obtain ⟨c', t', d', s'⟩ := y
  simp only at cS cT cP cI cE
  obtain ⟨D, hD⟩ : ∃ D, w.heap.size = D := ⟨_, rfl⟩
  obtain ⟨W0, hW0⟩ : ∃ W0, w.alloc (.cells #[.int .i64 c, .int .i64 t, .string d, .int .i64 s] 23) = W0 := ⟨_, rfl⟩
  have q0 : Below w.heap.size w W0 := by subst hW0; exact below_alloc _ _
  have HA : Hid (W0.heap[D]? = some (.cells #[.int .i64 c, .int .i64 t, .string d, .int .i64 s] 23 (0, 0))) := by subst hW0 hD; exact al1 _ _
  obtain ⟨x0, x1, x2, x3⟩ := box4_cells HA.out
  go_enter Try.func3, Try.ntmps3
  go_wp2_with fail
  refine (cS _).mono ?_
  rintro e w1 ⟨b1, r, rfl, hr⟩
  have g1 := Below.comp q0 b1
  clear cS x0 x1 x2 x3 hW0
  by_cases hr0 : r < 0
  · go_wp2_with fail
    go_ret
    exact ⟨rfl, by first | exact g1 | exact (hD ▸ g1)⟩
  · clear hr
    have HA1 : Hid _ := box_on HA.out b1
    obtain ⟨x0, x1, x2, x3⟩ := box4_cells HA1.out
    go_wp2_with fail
    refine (cT _).mono ?_
    rintro e w2 ⟨rfl, b2⟩
    go_wp2_with fail
    refine (cP _).mono ?_
    rintro e w3 ⟨rfl, b3⟩
    have b13 := Below.comp b2 b3
    have HA3 : Hid _ := box_on HA1.out b13
    clear x0 x1 x2 x3
    obtain ⟨E, hE⟩ : ∃ E, w3.heap.size = E := ⟨_, rfl⟩
    obtain ⟨W3, hW3⟩ : ∃ W3, w3.alloc (.cells #[.int .i64 c', .int .i64 t', .string d', .int .i64 s'] 25) = W3 := ⟨_, rfl⟩
    have q3 : Below w3.heap.size w3 W3 := by subst hW3; exact below_alloc _ _
    have HE3 : Hid (W3.heap[E]? = some (.cells #[.int .i64 c', .int .i64 t', .string d', .int .i64 s'] 25 (0, 0))) := by subst hW3 hE; exact al1 _ _
    have HA4 : Hid _ := box_on HA3.out q3
    obtain ⟨x0, x1, x2, x3⟩ := box4_cells HA4.out
    go_wp2_with fail
    refine (cT _).mono ?_
    rintro e w5 ⟨rfl, b5⟩
    clear x0 x1 x2 x3 hW3
    go_wp2_with fail
    refine (cI _).mono ?_
    rintro e w6 ⟨rfl, b6⟩
    have b56 := Below.comp b5 b6
    obtain ⟨F, hF⟩ : ∃ F, w6.heap.size = F := ⟨_, rfl⟩
    obtain ⟨W6, hW6⟩ : ∃ W6, w6.alloc (.cells #[.int .i64 c', .int .i64 t', .string d', .int .i64 s'] 25) = W6 := ⟨_, rfl⟩
    have q6 : Below w6.heap.size w6 W6 := by subst hW6; exact below_alloc _ _
    have HF : Hid (W6.heap[F]? = some (.cells #[.int .i64 c', .int .i64 t', .string d', .int .i64 s'] 25 (0, 0))) := by subst hW6 hF; exact al1 _ _
    obtain ⟨x0, x1, x2, x3⟩ := box4_cells HF.out
    obtain ⟨y0, y1, y2, y3⟩ := box4_cells (box_on (box_on HE3.out b56) q6)
    go_wp2_with fail
    refine (cE _).mono ?_
    rintro e w7 ⟨rfl, b7⟩
    clear x0 x1 x2 x3 y0 y1 y2 y3 hW6
    have g7 := Below.comp (Below.comp (Below.comp g1 b13) (Below.comp q3 b56)) (Below.comp q6 b7)
    go_wp2_with fail
    go_ret
    exact ⟨rfl, by first | exact g7 | exact (hD ▸ g7)⟩
end Go.Proofs.Ytcfjkejaenmibaa
