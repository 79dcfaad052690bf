import Derived.Test.YtgipopkjjhehlaaDoorA4
namespace Go.Proofs.YtgipopkjjhehlaaDoor
open Go.ChangeShapes Go.WideShapes Go.ChangeAt Go.RowKit
set_option linter.unusedVariables false
open GF

set_option maxHeartbeats 400000 in
theorem implInv_any (a : Nat) (w : World) (ha : a < 256) (ht : Tab w) :
    Calls Tryd.prog 55 #[.int .u8 (a : Int)] w fun e w' => e = .returned (.int .u8 (gi a : Nat)) ∧ w' = w := by
  go_enter Tryd.func55, Tryd.ntmps55
  go_wp2_with (go_at_call 54; refine (powerOf_any a 254 _ ha (by omega) ht).mono ?_; rintro e w1 ⟨rfl, rfl⟩)
  go_ret
  exact ⟨by rw [gi_gp]; rfl, rfl⟩
/-- A quotient and whether there is one. -/
def dvV (a b : Nat) : Value := .tuple #[.int .u8 ((if b = 0 then 0 else gm a (gi b) : Nat) : Int), .bool (decide (b ≠ 0))]
set_option maxHeartbeats 400000 in
theorem implDiv_any (a b : Nat) (w : World) (ha : a < 256) (hb : b < 256) (ht : Tab w) :
    Calls Tryd.prog 32 #[.int .u8 (a : Int), .int .u8 (b : Int)] w fun e w' => e = .returned (dvV a b) ∧ w' = w := by
  by_cases hz : b = 0
  · subst hz
    go_enter Tryd.func32, Tryd.ntmps32
    go_wp2
    refine bodyPost_ret (v := dvV a 0) (by simp [results, Tryd.results32, go_sem, dvV]) rfl ⟨rfl, rfl⟩
  · have hzi : ¬ (b : Int) = 0 := by omega
    have e0 : dvV a b = .tuple #[.int .u8 (gm a (gi b) : Nat), .bool true] := by simp [dvV, hz]
    go_enter Tryd.func32, Tryd.ntmps32
    go_wp2_with fail
    refine (implInv_any b _ hb ht).mono ?_
    rintro e w1 ⟨rfl, rfl⟩
    go_wp2_with fail
    refine (fieldMul_any a (gi b) _ ha (gi_lt b) ht).mono ?_
    rintro e w2 ⟨rfl, rfl⟩
    go_wp2
    refine bodyPost_ret (v := dvV a b) (by rw [e0]; simp [results, Tryd.results32, go_sem]) rfl ⟨rfl, rfl⟩
end Go.Proofs.YtgipopkjjhehlaaDoor
