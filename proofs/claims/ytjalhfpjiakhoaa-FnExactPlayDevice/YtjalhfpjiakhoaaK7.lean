import Derived.Test.YtjalhfpjiakhoaaK6
import Derived.Test.YtjalhfpjiakhoaaD2
namespace Go.Proofs.Ytjalhfpjiakhoaa
open Go.ChangeShapes Go.WideShapes Go.ChangeAt Go.RowKit
set_option linter.unusedVariables false

/-- What ReadSector answers. -/
def readV (n m : Nat) (S : Nat → ByteArray) (T : Nat → Int) (U : Nat → ByteArray) (s : Int) : Value :=
  if goodB n m S T U = true ∧ 0 ≤ s ∧ s < n then .tuple #[.string (doneS S T U m s.toNat), .bool true] else .tuple #[.string ⟨#[]⟩, .bool false]
theorem readV_yes {n m : Nat} {S : Nat → ByteArray} {T : Nat → Int} {U : Nat → ByteArray} {s : Int} (h : goodB n m S T U = true) (h0 : 0 ≤ s) (h1 : s < n) : readV n m S T U s = .tuple #[.string (doneS S T U m s.toNat), .bool true] := if_pos ⟨h, h0, h1⟩
theorem readV_no {n m : Nat} {S : Nat → ByteArray} {T : Nat → Int} {U : Nat → ByteArray} {s : Int} (h : ¬ (goodB n m S T U = true ∧ 0 ≤ s ∧ s < n)) : readV n m S T U s = .tuple #[.string ⟨#[]⟩, .bool false] := if_neg h
theorem readV_form (n m : Nat) (S : Nat → ByteArray) (T : Nat → Int) (U : Nat → ByteArray) (s : Int) : ∃ u ok, readV n m S T U s = .tuple #[.string u, .bool ok] := by
  unfold readV
  split
  · exact ⟨_, _, rfl⟩
  · exact ⟨_, _, rfl⟩
theorem good_done {n m : Nat} {S : Nat → ByteArray} {T : Nat → Int} {U : Nat → ByteArray} (h : goodB n m S T U = true) (T' : Nat → Int) (U' : Nat → ByteArray) : goodB n 0 (doneS S T U m) T' U' = true := by
  obtain ⟨q1, q2, q3, q4, q5⟩ := goodB_spec h
  exact decide_eq_true ⟨q1, q2, by omega, doneS_size q4 q5 m (Nat.le_refl _), fun i hi => absurd hi (by omega)⟩
theorem safe_done {n m : Nat} {S : Nat → ByteArray} {T : Nat → Int} {U : Nat → ByteArray} {s : Int} (h : goodB n m S T U = true) (T' : Nat → Int) (U' : Nat → ByteArray) : safeV n 0 (doneS S T U m) T' U' s = readV n m S T U s := by
  unfold safeV readV
  rw [good_done h, h]

set_option maxHeartbeats 800000 in
theorem specRead_any (a a' : Option Addr) (n m ca ca' : Nat) (S : Nat → ByteArray) (T : Nat → Int) (U : Nat → ByteArray) (s : Int) (w : World) (hn : n ≤ 1048576) (hm : m ≤ 1048576)
    (ha : At w a n fun i => .string (S i)) (ha' : At2 w a' m T U) (hs : ∀ i, i < n → (S i).size ≤ 9223372036854775807) (hs' : ∀ i, i < m → (U i).size ≤ 9223372036854775807) :
    Calls Try.prog 25 #[.agg #[.slice a n ca, .slice a' m ca'], .int .i64 s] w fun e w' => e = .returned (readV n m S T U s) ∧ Below w.heap.size w w' := by
  have h0 : ∀ o1, Below w.heap.size w (w.alloc o1) := fun o1 => below_alloc _ _
  cases hg : goodB n m S T U
  · rw [readV_no (by rw [hg]; simp)]
    go_enter Try.func25, Try.ntmps25
    go_wp2_with (go_at_call 18; refine (specGood_any a a' n m ca ca' S T U _ hn hm (ha.below (h0 _)) (ha'.below (h0 _)) hs hs').mono ?_; rintro e w1 ⟨rfl, b1⟩)
    go_ret2
    exact ⟨rfl, Below.comp (h0 _) b1⟩
  · obtain ⟨q1, q2, q3, q4, q5⟩ := goodB_spec hg
    have Q5 : Hid _ := q5
    have Q4 : Hid _ := q4
    clear q4 q5
    by_cases h1 : 0 ≤ s ∧ s < n
    · rw [readV_yes hg h1.1 h1.2]
      have d1 : inB s 0 ((n : Int) - 1) = true := inB_true (by omega)
      obtain ⟨k, rfl⟩ : ∃ k : Nat, s = k := ⟨s.toNat, by omega⟩
      have hlt : (k : Int) < n := by omega
      go_enter Try.func25, Try.ntmps25
      go_wp2_with fail
      refine (specGood_any a a' n m ca ca' S T U _ hn hm (ha.below (h0 _)) (ha'.below (h0 _)) hs hs').mono ?_
      rintro e w1 ⟨rfl, b1⟩
      have g1 := Below.comp (h0 _) b1
      have y0 := cell_on (cell_new0 w _ _ _) b1
      have y1 := cell_on (cell_new1 w _ _ _) b1
      clear b1 h0
      go_wp2_with fail
      refine (l1In_any _ _ _ _).mono ?_
      rintro e w2 ⟨rfl, rfl⟩
      go_wp2_with fail
      refine (l1Done_any a a' n m ca ca' S T U _ q1 q2 q3 (ha.below g1) (ha'.below g1) Q5.out).mono ?_
      rintro e w3 ⟨b3, x, cx, rfl, mx⟩
      obtain ⟨b, off, rfl, hcell⟩ := mx.strs (by omega)
      have hck := hcell k (by omega)
      have g3 := Below.comp g1 b3
      clear hcell y0 y1 b3
      go_wp2
      go_ret2
      exact ⟨rfl, g3⟩
    · rw [readV_no (by intro h; exact h1 ⟨h.2.1, h.2.2⟩)]
      have d1 : inB s 0 ((n : Int) - 1) = false := inB_false (by omega)
      go_enter Try.func25, Try.ntmps25
      go_wp2_with (first | (go_at_call 18; refine (specGood_any _ a' n m ca ca' S T U _ hn hm (ha.below (h0 _)) (ha'.below (h0 _)) hs hs').mono ?_; rintro e w1 ⟨rfl, b1⟩; obtain ⟨c1, f1⟩ := bcell b1) | (go_at_call 47; refine (l1In_any _ _ _ _).mono ?_; rintro e w1 ⟨rfl, rfl⟩))
      go_ret2
      exact ⟨rfl, Below.comp (h0 _) (by assumption)⟩

set_option maxHeartbeats 800000 in
theorem implRead_any (a a' : Option Addr) (n m ca ca' : Nat) (S : Nat → ByteArray) (T : Nat → Int) (U : Nat → ByteArray) (s : Int) (w : World) (hn : n ≤ 1048576) (hm : m ≤ 1048576)
    (ha : At w a n fun i => .string (S i)) (ha' : At2 w a' m T U) (hs : ∀ i, i < n → (S i).size ≤ 9223372036854775807) (hs' : ∀ i, i < m → (U i).size ≤ 9223372036854775807) :
    Calls Try.prog 26 #[.agg #[.slice a n ca, .slice a' m ca'], .int .i64 s] w fun e w' => e = .returned (readV n m S T U s) ∧ Below w.heap.size w w' := by
  have h0 : ∀ o1, Below w.heap.size w (w.alloc o1) := fun o1 => below_alloc _ _
  cases hg : goodB n m S T U
  · rw [readV_no (by rw [hg]; simp)]
    go_enter Try.func26, Try.ntmps26
    go_wp2_with fail
    refine (implFlush_any a a' n m ca ca' S T U _ hn hm (ha.below (h0 _)) (ha'.below (h0 _)) hs hs').mono ?_
    rintro e w1 ⟨b1, x, cx, y, cy, rfl, mx⟩
    have g1 := Below.comp (h0 _) b1
    go_wp2
    go_ret2
    exact ⟨rfl, Below.comp g1 (below_alloc _ _)⟩
  · have e0 : flushN n m S T U = n := by simp [flushN, hg]
    obtain ⟨q1, q2, q3, q4, q5⟩ := goodB_spec hg
    have hsd : ∀ i, i < n → (doneS S T U m i).size ≤ 9223372036854775807 := fun i hi => by rw [doneS_size q4 q5 m (Nat.le_refl _) i hi]; omega
    have HR : Hid _ := safe_done (s := s) hg T U
    clear q4 q5
    go_enter Try.func26, Try.ntmps26
    go_wp2_with fail
    refine (implFlush_any a a' n m ca ca' S T U _ hn hm (ha.below (h0 _)) (ha'.below (h0 _)) hs hs').mono ?_
    rintro e w1 ⟨b1, x, cx, y, cy, rfl, mx⟩
    have g1 := Below.comp (h0 _) b1
    rw [e0] at mx ⊢
    clear b1 h0 e0
    go_wp2_with fail
    refine (implSafe_any x y n 0 cx cy (doneS S T U m) T U s _ hn (by omega) (mx.below (below_alloc _ _)).1.strs (mx.below (below_alloc _ _)).2.wrts hsd (fun i hi => absurd hi (by omega))).mono ?_
    rintro e w2 ⟨rfl, b2⟩
    rw [HR.out]
    obtain ⟨u, ok, hv⟩ := readV_form n m S T U s
    rw [hv]
    have g2 := Below.comp (Below.comp g1 (below_alloc _ _)) b2
    go_wp2
    go_ret2
    exact ⟨by rw [hv]; rfl, g2⟩
end Go.Proofs.Ytjalhfpjiakhoaa
