import Derived.Test.YtodidnbghiinkaaT2
import Derived.Test.YtodidnbghiinkaaF3
import Derived.Test.YtodidnbghiinkaaU3
import Derived.Test.YtodidnbghiinkaaE4
/- Squeeze and Unsqueeze, both sides; their laws. -/
namespace Go.Proofs.Ytodidnbghiinkaa
open Go.ChangeShapes Go.WideShapes Go.ChangeAt Go.RowKit
set_option linter.unusedVariables false
open Tz

attribute [local go_sem] Oper.semAt_some

/-- What Squeeze tells. -/
def sqA (s : ByteArray) : ByteArray := if s.size ≤ 600 then txt (pk (toks s) (toks s).length) else ⟨#[]⟩
theorem toks_few (s : ByteArray) : ∀ i, i < (toks s).length → Few (gt (toks s) i) := fun i hi => (run_fit s s.size i hi).1
theorem implSq_any (s : ByteArray) (w : World) (hs : s.size ≤ 9223372036854775807) :
    Calls Try.prog 31 #[.string s] w fun e w' => e = .returned (.tuple #[.string (sqA s), .bool (decide (s.size ≤ 600))]) ∧ Below w.heap.size w w' := by
  have c1 := implTok_any s w hs
  unfold sqA
  by_cases h : s.size ≤ 600
  · rw [decide_eq_true h] at c1 ⊢
    rw [if_pos h]
    rw [tkA, if_pos h] at c1
    have hlen := toks_len s
    have cP : Hid (∀ W x c, Tks W x (toks s) → Calls Try.prog 27 #[.slice x (toks s).length c] W fun e w' => e = .returned (.tuple #[.string (txt (pk (toks s) (toks s).length)), .bool true]) ∧ Below W.heap.size W w') := fun W x c hT => by
      have := implPack_any x c (toks s) W (by omega) (toks_few s) hT
      rw [pkA_yes (toks_good h), toks_good h] at this
      exact this
    generalize txt (pk (toks s) (toks s).length) = X at *
    generalize toks s = U at *
    go_enter Try.func31, Try.ntmps31
    go_wp2_with fail
    refine c1.mono ?_
    rintro e w1 ⟨b1, v, rfl, o1⟩
    obtain ⟨x, cx, rfl⟩ := owns_form o1
    have cP1 := cP.out w1 x cx (OwnT.tks o1)
    clear o1 cP c1
    generalize U.length = n at *
    go_wp2_with fail
    refine cP1.mono ?_
    rintro e w2 ⟨rfl, b2⟩
    go_wp2_with fail
    go_ret2
    exact ⟨rfl, Below.comp b1 b2⟩
  · rw [decide_eq_false h] at c1 ⊢
    rw [if_neg h]
    clear h
    generalize tkA s = U at *
    go_enter Try.func31, Try.ntmps31
    go_wp2_with fail
    refine c1.mono ?_
    rintro e w1 ⟨b1, v, rfl, o1⟩
    obtain ⟨x, cx, rfl⟩ := owns_form o1
    clear o1 c1
    generalize U.length = n at *
    go_wp2_with fail
    go_ret2
    exact ⟨rfl, b1⟩
theorem specSq_any (s : ByteArray) (w : World) (hs : s.size ≤ 9223372036854775807) :
    Calls Try.prog 30 #[.string s] w fun e w' => e = .returned (.tuple #[.string (sqA s), .bool (decide (s.size ≤ 600))]) ∧ Below w.heap.size w w' := by
  unfold sqA
  by_cases h : s.size ≤ 600
  · rw [decide_eq_true h, if_pos h]
    have hl' : ¬ (600 : Int) < (s.size : Int) := by omega
    have c1 := l16Tokens_any s w h
    have hlen := toks_len s
    have cP : Hid (∀ W x c, Tks W x (toks s) → Calls Try.prog 51 #[.slice x (toks s).length c] W fun e w' => e = .returned (.string (txt (pk (toks s) (toks s).length))) ∧ Below W.heap.size W w') := fun W x c hT => l16Pack_any x c (toks s) W (by omega) (toks_few s) (toks_good h) hT
    generalize txt (pk (toks s) (toks s).length) = X at *
    generalize toks s = U at *
    clear h hlen
    go_enter Try.func30, Try.ntmps30
    go_wp2_with fail
    refine c1.mono ?_
    rintro e w1 ⟨b1, v, rfl, o1⟩
    obtain ⟨x, cx, rfl⟩ := owns_form o1
    have cP1 := cP.out w1 x cx (OwnT.tks o1)
    clear o1 cP c1
    generalize U.length = n at *
    go_wp2_with fail
    refine cP1.mono ?_
    rintro e w2 ⟨rfl, b2⟩
    go_wp2_with fail
    go_ret2
    exact ⟨rfl, Below.comp b1 b2⟩
  · rw [decide_eq_false h, if_neg h]
    have hl' : (600 : Int) < (s.size : Int) := by omega
    clear h
    go_enter Try.func30, Try.ntmps30
    go_wp2
    go_ret2
    exact ⟨rfl, Below.refl _ _⟩
theorem upr_fitA (s : ByteArray) : ∀ k x, upr s k = some x → Fit s x.1
  | 0, x, h => by simp [upr] at h; subst h; exact fun i hi => absurd hi (by simp)
  | k + 1, x, h => by
    rw [upr] at h
    obtain ⟨y, hy, hx⟩ := Option.bind_eq_some_iff.1 h
    have ih := upr_fitA s k y hy
    obtain ⟨l, p⟩ := y
    have hle := (upr_more s k _ hy).2.1
    simp only at hle
    by_cases hp : p < s.size
    · rw [ups_fst hp] at hx
      split at hx
      · cases hx
      · simp only [Option.some.injEq] at hx
        subst hx
        exact Fit.snoc ih (by omega)
    · unfold ups at hx
      rw [if_neg hp] at hx
      simp only [Option.some.injEq] at hx
      subst hx
      exact ih
/-- What Unsqueeze tells. -/
def usA (s : ByteArray) : ByteArray := if (unp s).2 = true then txt (ex (unp s).1 (unp s).1.length) else ⟨#[]⟩
theorem unp_good {s : ByteArray} (h : (unp s).2 = true) : good (unp s).1 = true ∧ s.size ≤ 610 ∧ Fit s (unp s).1 ∧ upA s = some (unp s).1 := by
  have h6 : s.size ≤ 610 := by
    rcases Nat.lt_or_ge 610 s.size with q | q
    · rw [unp_long q] at h; cases h
    · exact q
  unfold unp at h ⊢
  split at h
  · cases h
  · rename_i l hl
    split at h
    · rename_i hg
      simp only [hl, hg, if_true]
      refine ⟨trivial, h6, ?_, trivial⟩
      unfold upA at hl
      obtain ⟨x, hx, rfl⟩ := Option.map_eq_some_iff.1 hl
      exact upr_fitA s s.size x hx
    · cases h
theorem implUs_any (s : ByteArray) (w : World) (hs : s.size ≤ 9223372036854775807) :
    Calls Try.prog 33 #[.string s] w fun e w' => e = .returned (.tuple #[.string (usA s), .bool (unp s).2]) ∧ Below w.heap.size w w' := by
  have c1 := implUnp_any s w hs
  unfold usA
  cases h : (unp s).2 with
  | true =>
    rw [h] at c1
    rw [if_pos rfl]
    obtain ⟨hg, h610, hfit, -⟩ := unp_good h
    have hlen := unp_len s (by omega)
    have cP : Hid (∀ W x c, Tks W x (unp s).1 → Calls Try.prog 21 #[.slice x (unp s).1.length c] W fun e w' => e = .returned (.tuple #[.string (txt (ex (unp s).1 (unp s).1.length)), .bool true]) ∧ Below W.heap.size W w') := fun W x c hT => by
      have := implExp_any x c (unp s).1 W (by omega) (Fit.few hfit (by omega)) hT
      rw [exA_yes hg, hg] at this
      exact this
    generalize txt (ex (unp s).1 (unp s).1.length) = X at *
    generalize (unp s).1 = U at *
    clear h hfit hg
    go_enter Try.func33, Try.ntmps33
    go_wp2_with fail
    refine c1.mono ?_
    rintro e w1 ⟨b1, v, rfl, o1⟩
    obtain ⟨x, cx, rfl⟩ := owns_form o1
    have cP1 := cP.out w1 x cx (OwnT.tks o1)
    clear o1 cP c1
    generalize U.length = n at *
    go_wp2_with fail
    refine cP1.mono ?_
    rintro e w2 ⟨rfl, b2⟩
    go_wp2_with fail
    go_ret2
    exact ⟨rfl, Below.comp b1 b2⟩
  | false =>
    rw [h] at c1
    rw [if_neg (by simp)]
    clear h
    generalize (unp s).1 = U at *
    go_enter Try.func33, Try.ntmps33
    go_wp2_with fail
    refine c1.mono ?_
    rintro e w1 ⟨b1, v, rfl, o1⟩
    obtain ⟨x, cx, rfl⟩ := owns_form o1
    clear o1 c1
    generalize U.length = n at *
    go_wp2_with fail
    go_ret2
    exact ⟨rfl, b1⟩
theorem specUs_any (s : ByteArray) (w : World) (hs : s.size ≤ 9223372036854775807) :
    Calls Try.prog 32 #[.string s] w fun e w' => e = .returned (.tuple #[.string (usA s), .bool (unp s).2]) ∧ Below w.heap.size w w' := by
  have c1 := specUnp_any s w hs
  unfold usA
  cases h : (unp s).2 with
  | true =>
    rw [h] at c1
    rw [if_pos rfl]
    obtain ⟨hg, h610, hfit, -⟩ := unp_good h
    have hlen := unp_len s (by omega)
    have cP : Hid (∀ W x c, Tks W x (unp s).1 → Calls Try.prog 45 #[.slice x (unp s).1.length c] W fun e w' => e = .returned (.string (txt (ex (unp s).1 (unp s).1.length))) ∧ Below W.heap.size W w') := fun W x c hT => l16Expand_any x c (unp s).1 W (by omega) (Fit.few hfit (by omega)) hg hT
    generalize txt (ex (unp s).1 (unp s).1.length) = X at *
    generalize (unp s).1 = U at *
    clear h hfit hg
    go_enter Try.func32, Try.ntmps32
    go_wp2_with fail
    refine c1.mono ?_
    rintro e w1 ⟨b1, v, rfl, o1⟩
    obtain ⟨x, cx, rfl⟩ := owns_form o1
    have cP1 := cP.out w1 x cx (OwnT.tks o1)
    clear o1 cP c1
    generalize U.length = n at *
    go_wp2_with fail
    refine cP1.mono ?_
    rintro e w2 ⟨rfl, b2⟩
    go_wp2_with fail
    go_ret2
    exact ⟨rfl, Below.comp b1 b2⟩
  | false =>
    rw [h] at c1
    rw [if_neg (by simp)]
    clear h
    generalize (unp s).1 = U at *
    go_enter Try.func32, Try.ntmps32
    go_wp2_with fail
    refine c1.mono ?_
    rintro e w1 ⟨b1, v, rfl, o1⟩
    obtain ⟨x, cx, rfl⟩ := owns_form o1
    clear o1 c1
    generalize U.length = n at *
    go_wp2_with fail
    go_ret2
    exact ⟨rfl, b1⟩
theorem lawSqueeze (s : ByteArray) (w : World) (hl : s.size ≤ 9223372036854775807) :
    Calls Try.prog 9 #[.string s] w fun e w' => e = .returned (.bool true) ∧ Below w.heap.size w w' := by
  by_cases h : s.size ≤ 1048576
  · have hle : ¬ (1048576 : Int) < (s.size : Int) := by omega
    have c1 := fun W => specSq_any s W hl
    have c2 := fun W => implSq_any s W hl
    generalize sqA s = D at *
    generalize decide (s.size ≤ 600) = B at *
    have hD : (!(D.toList == D.toList)) = false := by simp
    have hB : (B != B) = false := by cases B <;> rfl
    go_enter Try.func9, Try.ntmps9
    go_wp2_with (first
      | (go_at_call 30; refine (c1 _).mono ?_; rintro e w1 ⟨rfl, b1⟩)
      | (go_at_call 31; refine (c2 _).mono ?_; rintro e w2 ⟨rfl, b2⟩))
    go_ret
    exact ⟨rfl, Below.comp b1 b2⟩
  · have h' : (1048576 : Int) < (s.size : Int) := by omega
    go_enter Try.func9, Try.ntmps9
    go_wp2
    go_ret
    exact ⟨rfl, Below.refl _ _⟩
theorem lawUnsqueeze (s : ByteArray) (w : World) (hl : s.size ≤ 9223372036854775807) :
    Calls Try.prog 10 #[.string s] w fun e w' => e = .returned (.bool true) ∧ Below w.heap.size w w' := by
  by_cases h : s.size ≤ 1048576
  · have hle : ¬ (1048576 : Int) < (s.size : Int) := by omega
    have c1 := fun W => specUs_any s W hl
    have c2 := fun W => implUs_any s W hl
    generalize usA s = D at *
    generalize (unp s).2 = B at *
    have hD : (!(D.toList == D.toList)) = false := by simp
    have hB : (B != B) = false := by cases B <;> rfl
    go_enter Try.func10, Try.ntmps10
    go_wp2_with (first
      | (go_at_call 32; refine (c1 _).mono ?_; rintro e w1 ⟨rfl, b1⟩)
      | (go_at_call 33; refine (c2 _).mono ?_; rintro e w2 ⟨rfl, b2⟩))
    go_ret
    exact ⟨rfl, Below.comp b1 b2⟩
  · have h' : (1048576 : Int) < (s.size : Int) := by omega
    go_enter Try.func10, Try.ntmps10
    go_wp2
    go_ret
    exact ⟨rfl, Below.refl _ _⟩
end Go.Proofs.Ytodidnbghiinkaa
