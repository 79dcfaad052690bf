import Derived.Test.YtnanemkmmokdfaaH3
/- The law FnRolled. -/
namespace Go.Proofs.Ytnanemkmmokdfaa
open Go.ChangeShapes Go.WideShapes Go.ChangeAt Go.RowKit
set_option linter.unusedVariables false
open Hd

attribute [local go_sem] Oper.semAt_some

set_option maxHeartbeats 4000000 in
theorem lawRolled (a a' : Option Addr) (n n' cap cap' : Nat) (S S' : Nat → Nat) (w : World) (hn : n ≤ 9223372036854775807) (hn' : n' ≤ 9223372036854775807) (hS : ∀ i, S i < 256) (hS' : ∀ i, S' i < 256) (h : At w a n (by' S)) (h' : At w a' n' (by' S')) :
    Calls Try.prog 13 #[.slice a n cap, .slice a' n' cap'] w fun e w' => e = .returned (.bool true) ∧ Below w.heap.size w w' := by
  by_cases hle : 1048576 < wrap64 ((n : Int) + (n' : Int))
  · go_enter Try.func13, Try.ntmps13
    go_wp2
    go_ret
    exact ⟨rfl, Below.refl _ _⟩
  · have cD := drawRoll_any a n cap S w hn hS h
    have HCN : Hid (∀ W, Below w.heap.size w W → Calls Try.prog 48 #[.slice a' n' cap'] W fun e w' => (∃ x : Nat, e = .returned (.int .i64 (x : Int)) ∧ x < 1000003) ∧ w' = W) := fun W (hb : Below w.heap.size w W) => numberOf_any a' n' cap' S' W hn' hS' (h'.below hb)
    clear h h'
    go_enter Try.func13, Try.ntmps13
    go_wp2_with fail
    refine cD.mono ?_
    rintro e w1 ⟨⟨u, rfl, hu⟩, b1⟩
    have cI := fun W => implRoll_any u W (by omega)
    have cS := fun W => specRoll_any u W (by omega)
    clear hle
    by_cases h4 : u.size = 4
    · rw [decide_eq_true h4] at cI cS
      have hR : Hid (rh u < 4093) := by show rh u < 4093; unfold rh; split; exact hs_lt _; omega
      have HW : Hid (∀ i : UInt8, rh (u.extract 1 u.size ++ ⟨#[i]⟩) = ro (rh u) (u[0]'(by omega)).toNat i.toNat ∧ (u.extract 1 u.size ++ ⟨#[i]⟩).size = 4) := fun i => roll_win h4 i
      have hu0 : (u[0]'(by omega)).toNat < 256 := UInt8.toNat_lt _
      have h0s : 0 < u.size := by omega
      have hNN : (((rh u : Nat) : Int) != ((rh u : Nat) : Int)) = false := by simp
      have HSl : Hid (∀ W, (Instr.slice 9 (.string u) (some (.int .i64 1)) none none).run Try.prog W = .ok (.string (u.extract 1 u.size)) W) := fun W => slice_end u 1 (by omega) W
      obtain ⟨R, hRe⟩ : ∃ R, rh u = R := ⟨_, rfl⟩
      rw [hRe] at cI cS hR HW hNN
      clear hRe cD
      go_wp2_with (first
        | (go_at_call 15; refine (cI _).mono ?_; rintro e W9 ⟨rfl, e9⟩; subst W9)
        | (go_at_call 14; refine (cS _).mono ?_; rintro e W9 ⟨rfl, e9⟩; subst W9)
        | (go_at_call 48; refine (HCN.out _ b1).mono ?_; rintro e W9 ⟨⟨x, rfl, hx⟩, e9⟩; subst W9; obtain ⟨y, hyx⟩ : ∃ y : Nat, (x : Int) % 256 = (y : Int) := ⟨x % 256, by omega⟩; have hyb : y < 256 := by omega))
      refine (implOn_yes R _ y _ hR.out hu0 hyb).mono ?_
      rintro e W9 ⟨rfl, e9⟩
      subst W9
      have HU0 : Hid ((UInt8.ofNat y).toNat = y) := by show (UInt8.ofNat y).toNat = y; simp; omega
      obtain ⟨hW1, hW2⟩ := HW.out (UInt8.ofNat y)
      rw [HU0.out] at hW1
      have hW3 : (u.extract 1 u.size ++ ⟨#[UInt8.ofNat y]⟩ : ByteArray).size ≤ 9223372036854775807 := by rw [hW2]; omega
      have cI2 := fun W => implRoll_any (u.extract 1 u.size ++ ⟨#[UInt8.ofNat y]⟩) W hW3
      rw [decide_eq_true hW2, hW1] at cI2
      have cv := fun b W h => conv1 b y hyb W h
      have hEq : (((ro R (u[0]'h0s).toNat y : Nat) : Int) == ((ro R (u[0]'h0s).toNat y : Nat) : Int)) = true := by simp
      have cSl := HSl.out
      have hcat : ¬ (9223372036854775807 < (u.extract 1 u.size).size + 1) := by rw [ByteArray.size_extract]; omega
      clear hW1 hW2 hW3 cI cS HW
      generalize u.extract 1 u.size = y1 at *
      generalize ro R (u[0]'h0s).toNat y = RR at *
      go_wp2_with fail
      go_region_law (go_simp; go_at_call 15; refine (cI2 _).mono ?_; rintro e W9 ⟨rfl, e9⟩; subst W9)
      all_goals go_wp2
      all_goals go_ret
      all_goals
        refine ⟨rfl, ?_⟩
        have d0 : Below w1.heap.size w1 w1.drew := Below.drew (Below.refl _ w1)
        exact Below.comp b1 (Below.comp d0 (below_alloc w1.drew _))
    · rw [decide_eq_false h4] at cI cS
      have hr : rh u = 0 := by unfold rh; rw [if_neg h4]
      rw [hr] at cI cS
      clear hr cD
      go_wp2_with (first
        | (go_at_call 15; refine (cI _).mono ?_; rintro e W9 ⟨rfl, e9⟩; subst W9)
        | (go_at_call 14; refine (cS _).mono ?_; rintro e W9 ⟨rfl, e9⟩; subst W9))
      go_ret
      exact ⟨rfl, b1⟩
end Go.Proofs.Ytnanemkmmokdfaa
