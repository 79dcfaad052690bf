import Derived.Test.YtfmgaenedkjmkaaP1
import Derived.Lib.Bytealg
/- Names in their order, of no program. -/
namespace Go.Proofs.Ytfmgaenedkjmkaa.Hd
set_option linter.unusedVariables false

theorem cmp_lt : ∀ (a b : List UInt8), Lib.compareBytes a b < 0 ↔ a < b
  | [], [] => by simp [Lib.compareBytes]
  | [], _ :: _ => by simp [Lib.compareBytes]
  | _ :: _, [] => by simp [Lib.compareBytes]
  | a :: as, b :: bs => by
    unfold Lib.compareBytes
    rw [List.cons_lt_cons_iff]
    by_cases h1 : a < b
    · simp [h1]
    · rw [if_neg h1]
      by_cases h2 : b < a
      · rw [if_pos h2]
        have : a ≠ b := fun e => by subst e; exact h1 h2
        simp [h1, this]
      · have e : a = b := UInt8.le_antisymm (UInt8.not_lt.1 h2) (UInt8.not_lt.1 h1)
        subst e
        simp [cmp_lt as bs]
theorem cmp_eq0 : ∀ (a b : List UInt8), Lib.compareBytes a b = 0 ↔ a = b
  | [], [] => by simp [Lib.compareBytes]
  | [], _ :: _ => by simp [Lib.compareBytes]
  | _ :: _, [] => by simp [Lib.compareBytes]
  | a :: as, b :: bs => by
    unfold Lib.compareBytes
    by_cases h1 : a < b
    · have : a ≠ b := fun e => by subst e; exact UInt8.lt_irrefl _ h1
      simp [h1, this]
    · rw [if_neg h1]
      by_cases h2 : b < a
      · rw [if_pos h2]
        have : a ≠ b := fun e => by subst e; exact h1 h2
        simp [this]
      · have e : a = b := UInt8.le_antisymm (UInt8.not_lt.1 h2) (UInt8.not_lt.1 h1)
        subst e
        simp [cmp_eq0 as bs]
/-- What compareNames answers. -/
def cm (a b : ByteArray) : Int := Lib.compareBytes (bt a) (bt b)
theorem cm_lt (a b : ByteArray) : decide (cm a b < 0) = les a b := by unfold cm les; rw [decide_eq_decide]; exact cmp_lt _ _
theorem cm_ge (a b : ByteArray) : decide (0 ≤ cm a b) = !les a b := by
  rw [← cm_lt]
  have h : (0 ≤ cm a b) ↔ ¬ cm a b < 0 := by omega
  rw [decide_eq_decide.2 h, decide_not]
theorem bt_inj {a b : ByteArray} (h : bt a = bt b) : a = b := by
  obtain ⟨⟨a⟩⟩ := a
  obtain ⟨⟨b⟩⟩ := b
  simp at h
  rw [h]
theorem cm_eq (a b : ByteArray) : cm a b = 0 ↔ a = b := by unfold cm; rw [cmp_eq0]; exact ⟨bt_inj, fun h => by rw [h]⟩
theorem les_irr (a : ByteArray) : les a a = false := by simp [les, List.lt_irrefl]
theorem les_trans {a b c : ByteArray} (h : les a b = true) (k : les b c = true) : les a c = true := by
  simp only [les, decide_eq_true_eq] at *
  exact List.lt_trans h k
theorem les_tri (a b : ByteArray) : les a b = true ∨ a = b ∨ les b a = true := by
  by_cases h : les a b = true
  · exact .inl h
  · by_cases k : les b a = true
    · exact .inr (.inr k)
    · refine .inr (.inl (bt_inj ?_))
      simp only [les, decide_eq_true_eq] at h k
      exact List.le_antisymm k h
theorem les_asym {a b : ByteArray} (h : les a b = true) : les b a = false := by
  cases k : les b a with
  | false => rfl
  | true => have := les_trans h k; rw [les_irr] at this; cases this
end Go.Proofs.Ytfmgaenedkjmkaa.Hd
