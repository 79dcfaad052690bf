import Derived.Test.YtfmgaenedkjmkaaP2
/- Where a name stands or would stand in a row, of no program. -/
namespace Go.Proofs.Ytfmgaenedkjmkaa.Hd
set_option linter.unusedVariables false

/-- The place at which a name stands or would. -/
def AtN (l : List Nm) (s : ByteArray) (k : Nat) : Prop := k ≤ l.length ∧ (∀ j, j < k → les (gm l j).nm s = true) ∧ (k < l.length → les (gm l k).nm s = false)
def hasN (l : List Nm) (s : ByteArray) (k : Nat) : Bool := decide (k < l.length) && decide ((gm l k).nm = s)
/-- Names that rise. -/
def Ris (l : List Nm) : Prop := ∀ i, i < l.length → 0 < i → les (gm l (i - 1)).nm (gm l i).nm = true
theorem at_ex (l : List Nm) (s : ByteArray) : ∃ k, AtN l s k := by
  have key : ∀ m, m ≤ l.length → (∃ k, k ≤ m ∧ AtN l s k) ∨ (∀ j, j < m → les (gm l j).nm s = true) := by
    intro m
    induction m with
    | zero => intro _; exact .inr fun j hj => absurd hj (by omega)
    | succ m ih =>
      intro hm
      rcases ih (by omega) with ⟨k, h1, h2⟩ | h
      · exact .inl ⟨k, by omega, h2⟩
      · cases e : les (gm l m).nm s with
        | false => exact .inl ⟨m, by omega, by omega, h, fun _ => e⟩
        | true =>
          refine .inr fun j hj => ?_
          by_cases e' : j = m
          · rw [e']; exact e
          · exact h j (by omega)
  rcases key l.length (Nat.le_refl _) with ⟨k, -, h⟩ | h
  · exact ⟨k, h⟩
  · exact ⟨l.length, Nat.le_refl _, h, fun h => absurd h (by omega)⟩
theorem ris_lt {l : List Nm} (h : Ris l) {i j : Nat} (hij : i < j) (hj : j < l.length) : les (gm l i).nm (gm l j).nm = true := by
  have key : ∀ d, i + 1 + d < l.length → les (gm l i).nm (gm l (i + 1 + d)).nm = true := by
    intro d
    induction d with
    | zero => intro hd; have := h (i + 1) (by omega) (by omega); simpa using this
    | succ d ih =>
      intro hd
      have h1 := ih (by omega)
      have h2 := h (i + 1 + (d + 1)) (by omega) (by omega)
      rw [show i + 1 + (d + 1) - 1 = i + 1 + d by omega] at h2
      exact les_trans h1 h2
  have := key (j - (i + 1)) (by omega)
  rwa [show i + 1 + (j - (i + 1)) = j by omega] at this
theorem at_mono {l : List Nm} {s : ByteArray} {k : Nat} (h : Ris l) (hk : AtN l s k) : ∀ j, j < l.length → les (gm l j).nm s = decide (j < k) := by
  intro j hj
  by_cases hjk : j < k
  · rw [hk.2.1 j hjk]; simp [hjk]
  · have hkl : k < l.length := by omega
    have h0 := hk.2.2 hkl
    rw [decide_eq_false hjk]
    by_cases e : j = k
    · rw [e]; exact h0
    · cases hq : les (gm l j).nm s with
      | false => rfl
      | true =>
        have := les_trans (ris_lt h (i := k) (j := j) (by omega) hj) hq
        rw [h0] at this
        cases this
end Go.Proofs.Ytfmgaenedkjmkaa.Hd
