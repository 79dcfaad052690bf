import Derived.Test.YtfphffbclpmobaaD1
/- Pieces are neither empty nor long, and few. -/
namespace Go.Proofs.Ytfphffbclpmobaa
open Go.ChangeShapes Go.WideShapes Go.ChangeAt Go.RowKit
set_option linter.unusedVariables false
open Hd

theorem cu_fits (s : ByteArray) : ∀ k, k ≤ s.size → ((cu s k).2 = bg (cu s k).1 (cu s k).1.length) ∧ (k < s.size → k - (cu s k).2 ≤ 23 ∧ 3 * (cu s k).1.length ≤ (cu s k).2) ∧ 3 * (cu s k).1.length ≤ (cu s k).2 + 2 ∧
    ∀ i, i < (cu s k).1.length → (bg (cu s k).1 i : Int) < gi (cu s k).1 i ∧ gi (cu s k).1 i ≤ bg (cu s k).1 i + 24 := by
  intro k
  induction k with
  | zero => intro _; exact ⟨rfl, fun _ => ⟨by simp [cu], by simp [cu]⟩, by simp [cu], fun i h => absurd h (by simp [cu])⟩
  | succ k ih =>
    intro hk
    obtain ⟨h1, h2, h3, h4⟩ := ih (by omega)
    obtain ⟨h5, h6⟩ := h2 (by omega)
    have hf := cu_from s k
    have hbg : ∀ (L : List Int) (x : Int) (i : Nat), i ≤ L.length → bg (L ++ [x]) i = bg L i := fun L x i hi => by
      cases i with
      | zero => rfl
      | succ i => simp [bg, gi, List.getElem?_append_left (show i < L.length by omega)]
    rw [cu]
    by_cases hc : cutB s (cu s k).2 k = true
    · rw [if_pos hc]
      generalize hL : (cu s k).1 = L at *
      generalize hF : (cu s k).2 = f at *
      refine ⟨?_, fun hlt => ⟨by simp, ?_⟩, ?_, fun i hi => ?_⟩
      · simp [bg, gi]
      · simp only [List.length_append, List.length_singleton]
        unfold cutB at hc
        simp only [Bool.or_eq_true, Bool.and_eq_true, decide_eq_true_eq] at hc
        omega
      · simp only [List.length_append, List.length_singleton]
        omega
      · simp only [List.length_append, List.length_singleton] at hi
        by_cases e : i = L.length
        · subst e
          have e1 : gi (L ++ [((k + 1 : Nat) : Int)]) L.length = ((k + 1 : Nat) : Int) := by simp [gi]
          have e2 : bg (L ++ [((k + 1 : Nat) : Int)]) L.length = f := by rw [hbg _ _ _ (Nat.le_refl _), ← h1]
          rw [e1, e2]
          omega
        · have e1 : gi (L ++ [((k + 1 : Nat) : Int)]) i = gi L i := by simp [gi, List.getElem?_append_left (show i < L.length by omega)]
          rw [e1, hbg _ _ _ (by omega)]
          exact h4 i (by omega)
    · rw [if_neg hc]
      refine ⟨h1, fun hlt => ⟨?_, h6⟩, h3, h4⟩
      unfold cutB at hc
      simp only [Bool.or_eq_true, Bool.and_eq_true, decide_eq_true_eq, not_or] at hc
      omega
theorem pcs_at (s : ByteArray) (l : List Int) {i : Nat} : ∀ n, i < n → gs (pcs s l n) i = s.extract (bg l i) (gi l i).toNat := by
  intro n
  induction n with
  | zero => intro h; omega
  | succ n ih =>
    intro h
    rw [pcs]
    by_cases e : i = n
    · subst e
      simp [gs, pcs_len]
    · rw [← ih (by omega)]
      have : i < (pcs s l n).length := by rw [pcs_len]; omega
      simp [gs, List.getElem?_append_left this]
/-- Pieces are few, and each is of 1 to 24 bytes. -/
theorem paR_fits (s : ByteArray) : (paR s).length ≤ 134 ∧ ∀ i, i < (paR s).length → 1 ≤ (gs (paR s) i).size ∧ (gs (paR s) i).size ≤ 24 := by
  unfold paR cuR
  by_cases h : s.size ≤ 400
  · rw [if_pos h]
    obtain ⟨h1, h2, h3, h4⟩ := cu_fits s s.size (Nat.le_refl _)
    have hf := cu_from s s.size
    rw [pcs_len]
    have hc : cuts s = (cu s s.size).1 := rfl
    refine ⟨by rw [hc]; omega, fun i hi => ?_⟩
    rw [pcs_at s _ _ hi]
    obtain ⟨n, g1, g2, g3⟩ := cut_mid s i hi
    have h5 := h4 i hi
    rw [← hc, g1] at h5
    rw [g1]
    have : (s.extract (bg (cuts s) i) (n : Int).toNat).size = n - bg (cuts s) i := by
      rw [ByteArray.size_extract]
      have : (n : Int).toNat = n := rfl
      rw [this]
      omega
    rw [this]
    omega
  · rw [if_neg h]
    simp [pcs]
end Go.Proofs.Ytfphffbclpmobaa
