import Derived.Test.YtjalhfpjiakhoaaC2
namespace Go.Proofs.Ytjalhfpjiakhoaa
open Go.ChangeShapes Go.WideShapes Go.ChangeAt Go.RowKit
set_option linter.unusedVariables false

set_option maxHeartbeats 800000 in
theorem implSafe_any (a a' : Option Addr) (n m ca ca' : Nat) (S : Nat → ByteArray) (T : Nat → Int) (U : Nat → ByteArray) (s : Int) (w : World) (hn : n ≤ 1048576) (hm : m ≤ 1048576)
    (ha : At w a n fun i => .string (S i)) (ha' : At2 w a' m T U) (hs : ∀ i, i < n → (S i).size ≤ 9223372036854775807) (hs' : ∀ i, i < m → (U i).size ≤ 9223372036854775807) :
    Calls Try.prog 35 #[.agg #[.slice a n ca, .slice a' m ca'], .int .i64 s] w fun e w' => e = .returned (safeV n m S T U s) ∧ Below w.heap.size w w' := by
  have h0 : ∀ o1, Below w.heap.size w (w.alloc o1) := fun o1 => below_alloc _ _
  cases hg : goodB n m S T U
  · rw [safeV_no (by rw [hg]; simp)]
    go_enter Try.func35, Try.ntmps35
    go_wp2_with (go_at_call 20; refine (implGood_any a a' n m ca ca' S T U _ hn hm (ha.below (h0 _)) (ha'.below (h0 _)) hs hs').mono ?_; rintro e w1 ⟨rfl, b1⟩)
    go_ret2
    exact ⟨rfl, Below.comp (h0 _) b1⟩
  · by_cases h1 : 0 ≤ s ∧ s < n
    · rw [safeV_yes hg h1.1 h1.2]
      have d1 : decide (s < 0) = false := by simp; omega
      have d2 : decide ((n : Int) ≤ s) = false := by simp; omega
      obtain ⟨b, off, rfl, hcell⟩ := ha (by omega)
      obtain ⟨k, rfl⟩ : ∃ k : Nat, s = k := ⟨s.toNat, by omega⟩
      have hck := hcell k (by omega)
      have hlt : (k : Int) < n := by omega
      go_enter Try.func35, Try.ntmps35
      go_wp2_with (first | (go_at_call 20; refine (implGood_any _ a' n m ca ca' S T U _ hn hm (ha.below (h0 _)) (ha'.below (h0 _)) hs hs').mono ?_; rintro e w1 ⟨rfl, b1⟩; obtain ⟨c1, f1⟩ := bcell b1; have hck1 := ((Below.comp (h0 _) b1).cell (p := ⟨b, off + k, none⟩) (lt_of_cell hck)).trans hck) | (go_at_call 47; refine (l1In_any _ _ _ _).mono ?_; rintro e w1 ⟨rfl, rfl⟩))
      go_ret2
      exact ⟨rfl, Below.comp (h0 _) (by assumption)⟩
    · rw [safeV_no (by intro h; exact h1 ⟨h.2.1, h.2.2⟩)]
      by_cases h2 : s < 0
      · have d1 : decide (s < 0) = true := by simp; omega
        go_enter Try.func35, Try.ntmps35
        go_wp2_with (go_at_call 20; refine (implGood_any _ a' n m ca ca' S T U _ hn hm (ha.below (h0 _)) (ha'.below (h0 _)) hs hs').mono ?_; rintro e w1 ⟨rfl, b1⟩; obtain ⟨c1, f1⟩ := bcell b1)
        go_ret2
        exact ⟨rfl, Below.comp (h0 _) (by assumption)⟩
      have d1 : decide (s < 0) = false := by simp; omega
      have d2 : decide ((n : Int) ≤ s) = true := by simp; omega
      go_enter Try.func35, Try.ntmps35
      go_wp2_with (first | (go_at_call 20; refine (implGood_any _ a' n m ca ca' S T U _ hn hm (ha.below (h0 _)) (ha'.below (h0 _)) hs hs').mono ?_; rintro e w1 ⟨rfl, b1⟩; obtain ⟨c1, f1⟩ := bcell b1) | (go_at_call 47; refine (l1In_any _ _ _ _).mono ?_; rintro e w1 ⟨rfl, rfl⟩))
      go_ret2
      exact ⟨rfl, Below.comp (h0 _) (by assumption)⟩
end Go.Proofs.Ytjalhfpjiakhoaa
