import Derived.Test.YtcfjkejaenmibaaDoorN2
/- The law of SlotSum. -/
namespace Go.Proofs.YtcfjkejaenmibaaDoor
open Go.ChangeShapes Go.WideShapes Go.ChangeAt Go.RowKit
set_option linter.unusedVariables false
open Lg

attribute [local go_sem] Oper.semAt_some

set_option maxHeartbeats 4000000 in
theorem lawSum (x : Sl) (w : World) (hx : Few x) (hT : Tb w) :
    Calls Tryd.prog 5 #[sv x] w fun e w' => e = .returned (.bool true) ∧ Below w.heap.size w w' := by
  have cS := fun W => szSlot_any x 1048576 hx ⟨by decide, by decide⟩ W
  have cT := fun W => toSlot_any x W
  have cP := fun W => specSum_any x W hx
  have cI := fun W h => implSum_any x W hx h
  have HT : Hid (Tb w) := hT
  generalize smS x = y at *
  clear hx hT
  obtain ⟨c, t, d, s⟩ := x
  simp only at cS cT cP cI
  obtain ⟨D, hD⟩ : ∃ D, w.heap.size = D := ⟨_, rfl⟩
  obtain ⟨W0, hW0⟩ : ∃ W0, w.alloc (.cells #[.int .i64 c, .int .i64 t, .string d, .int .i64 s] 38) = W0 := ⟨_, rfl⟩
  have q0 : Below w.heap.size w W0 := by subst hW0; exact below_alloc _ _
  have HA : Hid (W0.heap[D]? = some (.cells #[.int .i64 c, .int .i64 t, .string d, .int .i64 s] 38 (0, 0))) := by subst hW0 hD; exact al1 _ _
  obtain ⟨x0, x1, x2, x3⟩ := box4_cells HA.out
  go_enter Tryd.func5, Tryd.ntmps5
  go_wp2_with fail
  refine (cS _).mono ?_
  rintro e w1 ⟨b1, r, rfl, hr⟩
  have g1 := Below.comp q0 b1
  clear cS x0 x1 x2 x3 hW0
  by_cases hr0 : r < 0
  · go_wp2_with fail
    go_ret
    exact ⟨rfl, by first | exact g1 | exact (hD ▸ g1)⟩
  · clear hr
    have HA1 : Hid _ := box_on HA.out b1
    obtain ⟨x0, x1, x2, x3⟩ := box4_cells HA1.out
    go_wp2_with fail
    refine (cT _).mono ?_
    rintro e w2 ⟨rfl, b2⟩
    go_wp2_with fail
    refine (cP _).mono ?_
    rintro e w3 ⟨rfl, b3⟩
    have b13 := Below.comp b2 b3
    have HA3 : Hid _ := box_on HA1.out b13
    clear x0 x1 x2 x3
    obtain ⟨x0, x1, x2, x3⟩ := box4_cells HA3.out
    go_wp2_with fail
    refine (cT _).mono ?_
    rintro e w5 ⟨rfl, b5⟩
    clear x0 x1 x2 x3
    have g5 := Below.comp (Below.comp g1 b13) b5
    have t5 := HT.out.on g5
    go_wp2_with fail
    refine (cI _ t5).mono ?_
    rintro e w6 ⟨rfl, b6⟩
    clear t5
    have g7 := Below.comp g5 b6
    go_wp2_with fail
    go_ret
    exact ⟨rfl, by first | exact g7 | exact (hD ▸ g7)⟩
end Go.Proofs.YtcfjkejaenmibaaDoor
