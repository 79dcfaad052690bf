import Derived.Test.YtmijalmihfgolaaQB2c
namespace Go.Proofs.Ytmijalmihfgolaa
open Go.ChangeShapes Go.WideShapes Go.ChangeAt Go.RowKit
set_option linter.unusedVariables false
open Tx

attribute [local go_sem] Oper.semAt_some

set_option maxHeartbeats 400000 in
theorem eqWriteS_any (a a' : Option Addr) (n cap cap' : Nat) (T : Nat → Int) (U : Nat → ByteArray) (w : World) (hn : n ≤ 9223372036854775807) (hc : At2 w a n T U) (hc' : At2 w a' n T U) :
    Calls Try.prog 15 #[.slice a n cap, .slice a' n cap'] w fun e w' => e = .returned (.bool true) ∧ Below w.heap.size w w' := by
  go_enter Try.func15, Try.ntmps15
  go_wp2
  go_loopw [5] (fun i wr => ∃ (k : Nat), k ≤ n ∧ i = .int .i64 k ∧ Below w.heap.size w wr) (fun i _ => n - (intOf i).toNat)
  case atStart => exact ⟨0, Nat.zero_le _, rfl, Below.refl _ _⟩
  case round =>
    obtain ⟨k, hk, rfl, hb⟩ := hrel
    by_cases hlt : k < n
    · obtain ⟨b, off, rfl, hcell⟩ := (hc.below hb) (by omega)
      obtain ⟨b', off', rfl, hcell'⟩ := (hc'.below hb) (by omega)
      have h1 := cell_regrown (hcell k hlt).1
      have h2 := cell_regrown (hcell k hlt).2
      have h3 := cell_regrown (hcell' k hlt).1
      have h4 := cell_regrown (hcell' k hlt).2
      have hlt' : (k : Int) < (n : Int) := by omega
      clear hcell hc hcell' hc'
      go_wp2
      refine wp_region_quiet_below (by kernel_rfl) (by kernel_rfl) ?_
      repeat (quiet_step (exact Calls.regrown_of (eqWrite_any _ _ _)))
      refine wpQuiet_nil ?_
      intro _ hw'
      obtain ⟨⟨dq, osq⟩, hw''⟩ := hw'
      subst hw''
      clear h1 h2 h3 h4
      go_wp2
      go_roundw
      case rel => exact ⟨k + 1, by omega, by go_num, Below.comp hb (below_regrown _ _ _)⟩
      case measure => simp [intOf]; omega
    · go_wp2
      go_ret
      exact ⟨rfl, hb⟩

set_option maxHeartbeats 400000 in
theorem eqDevice_any (a a' b b' : Option Addr) (n m ca ca' cb cb' : Nat) (S : Nat → ByteArray) (T : Nat → Int) (U : Nat → ByteArray) (w : World) (hn : n ≤ 9223372036854775807) (hm : m ≤ 9223372036854775807)
    (ha : At w a n fun i => .string (S i)) (ha' : At2 w a' m T U) (hb : At w b n fun i => .string (S i)) (hb' : At2 w b' m T U) :
    Calls Try.prog 22 #[.agg #[.slice a n ca, .slice a' m ca'], .agg #[.slice b n cb, .slice b' m cb']] w fun e w' => e = .returned (.bool true) ∧ Below w.heap.size w w' := by
  have h0 : ∀ o1 o2, Below w.heap.size w ((w.alloc o1).alloc o2) := fun o1 o2 => (below_alloc _ _).alloc (by simp) _
  go_enter Try.func22, Try.ntmps22
  go_wp2_with fail
  refine (eqStringS_any a b n ca cb S _ hn (ha.below (h0 _ _)) (hb.below (h0 _ _))).mono ?_
  rintro e w1 ⟨rfl, b1⟩
  obtain ⟨c1, f1⟩ := bcell b1
  have g1 := Below.comp (h0 _ _) b1
  go_wp2_with fail
  refine (eqWriteS_any a' b' m ca' cb' T U _ hm (ha'.below g1) (hb'.below g1)).mono ?_
  rintro e w2 ⟨rfl, b2⟩
  have g2 := Below.comp g1 b2
  clear c1 f1
  go_wp2
  go_ret
  exact ⟨rfl, g2⟩
end Go.Proofs.Ytmijalmihfgolaa
