import Derived.Test.YtgipopkjjhehlaaDoorD3
import Derived.Test.YtgipopkjjhehlaaDoorZ2
import Derived.Test.YtgipopkjjhehlaaDoorN2
import Derived.Test.YtgipopkjjhehlaaDoorX7
namespace Go.Proofs.YtgipopkjjhehlaaDoor
open Go.ChangeShapes Go.WideShapes Go.ChangeAt Go.RowKit
set_option linter.unusedVariables false
open GF

set_option maxHeartbeats 400000 in
theorem sameTexts_t (a a' : Option Addr) (n cap cap' : Nat) (S : Nat → ByteArray) (w : World) (hn : n ≤ 9223372036854775807) (hc : At w a n fun i => .string (S i)) (hc' : At w a' n fun i => .string (S i)) :
    Calls Tryd.prog 26 #[.slice a n cap, .slice a' n cap'] w fun e w' => e = .returned (.bool true) ∧ Below w.heap.size w w' := by
  go_enter Tryd.func26, Tryd.ntmps26
  go_wp2
  go_loopw [13] (fun i wr => ∃ (k : Nat), k ≤ n ∧ i = .int .i64 k ∧ Below w.heap.size w wr) (fun i _ => n - (intOf i).toNat)
  case atStart => exact ⟨0, Nat.zero_le _, rfl, Below.refl _ _⟩
  case round =>
    obtain ⟨k, hk, rfl, hb⟩ := hrel
    by_cases hlt : k < n
    · obtain ⟨b, off, rfl, hcell⟩ := (hc.below hb) (by omega)
      obtain ⟨b', off', rfl, hcell'⟩ := (hc'.below hb) (by omega)
      have hck := hcell k hlt
      have hck' := hcell' k hlt
      have hlt' : (k : Int) < (n : Int) := by omega
      clear hcell hc hcell' hc'
      go_wp2
      go_quiet (fail)
      go_wp2
      go_roundw
      case rel => exact ⟨k + 1, by omega, by go_num, below_drewN hb _⟩
      case measure => simp [intOf]; omega
    · obtain rfl : k = n := by omega
      have hlt' : ¬ (k : Int) < (k : Int) := by omega
      go_wp2
      go_ret
      exact ⟨rfl, hb⟩
set_option maxHeartbeats 400000 in
theorem sameStripes_t (a b : Option Addr) (n ca cb : Nat) (D : Nat → ByteArray) (P Q : ByteArray) (w : World) (hn : n ≤ 9223372036854775807)
    (ha : At w a n fun i => .string (D i)) (hb : At w b n fun i => .string (D i)) :
    Calls Tryd.prog 8 #[sv a n ca P Q, sv b n cb P Q] w fun e w' => e = .returned (.bool true) ∧ Below w.heap.size w w' := by
  unfold sv
  have h0 : ∀ o1 o2, Below w.heap.size w ((w.alloc o1).alloc o2) := fun o1 o2 => (below_alloc _ _).alloc (by simp) _
  go_enter Tryd.func8, Tryd.ntmps8
  go_wp2_with fail
  refine (sameTexts_t a b n ca cb D _ hn (ha.below (h0 _ _)) (hb.below (h0 _ _))).mono ?_
  rintro e w1 ⟨rfl, b1⟩
  have g1 := Below.comp (h0 _ _) b1
  go_wp2
  go_ret
  exact ⟨rfl, g1⟩
end Go.Proofs.YtgipopkjjhehlaaDoor
