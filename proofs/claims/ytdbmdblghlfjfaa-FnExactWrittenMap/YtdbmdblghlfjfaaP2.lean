import Derived.Test.YtdbmdblghlfjfaaP1
/- Lists in strict order by place. -/
namespace Go.Proofs.Ytdbmdblghlfjfaa.Mp
set_option linter.unusedVariables false

/-- An extent: At, Long. -/
abbrev Ex := Int × Int

/-- Ahead by place. -/
def ltP (x y : Ex) : Bool := decide (x.1 < y.1)
theorem ltP_iff {x y : Ex} : ltP x y = true ↔ x.1 < y.1 := by simp [ltP]

/-- An order that parts what differs, as far as a list goes. -/
structure Ord (lt : Ex → Ex → Bool) : Prop where
  irr : ∀ x, lt x x = false
  tr : ∀ x y z, lt x y = true → lt y z = true → lt x z = true
theorem ordP : Ord ltP := ⟨fun x => by simp [ltP], fun x y z h k => by
  rw [ltP_iff] at *
  omega⟩

/-- Strictly in order. -/
def So (lt : Ex → Ex → Bool) (l : List Ex) : Prop := l.Pairwise fun x y => lt x y = true

theorem So.cons {lt : Ex → Ex → Bool} {x : Ex} {l : List Ex} : So lt (x :: l) ↔ (∀ y, y ∈ l → lt x y = true) ∧ So lt l := List.pairwise_cons
theorem So.app {lt : Ex → Ex → Bool} {l m : List Ex} : So lt (l ++ m) ↔ So lt l ∧ So lt m ∧ ∀ x, x ∈ l → ∀ y, y ∈ m → lt x y = true := List.pairwise_append

/-- Two lists in strict order with the same members are one. -/
theorem uniq {lt : Ex → Ex → Bool} (o : Ord lt) : ∀ {l m : List Ex}, So lt l → So lt m → (∀ x, x ∈ l ↔ x ∈ m) → l = m
  | [], [], _, _, _ => rfl
  | [], y :: m, _, _, h => absurd ((h y).2 (by simp)) (by simp)
  | x :: l, [], _, _, h => absurd ((h x).1 (by simp)) (by simp)
  | x :: l, y :: m, hl, hm, h => by
    rw [So.cons] at hl hm
    have e : x = y := by
      by_cases e : x = y
      · exact e
      · have h1 : x ∈ m := by have := (h x).1 (by simp); simpa [e] using this
        have h2 : y ∈ l := by have := (h y).2 (by simp); simpa [Ne.symm e] using this
        have := o.tr x y x (hl.1 y h2) (hm.1 x h1)
        rw [o.irr] at this
        cases this
    subst e
    congr 1
    refine uniq o hl.2 hm.2 fun z => ?_
    have hz := h z
    have n1 : z ∈ l → z ≠ x := fun hz' e => by subst e; have := hl.1 z hz'; rw [o.irr] at this; cases this
    have n2 : z ∈ m → z ≠ x := fun hz' e => by subst e; have := hm.1 z hz'; rw [o.irr] at this; cases this
    simp only [List.mem_cons] at hz
    exact ⟨fun a => (hz.1 (.inr a)).resolve_left (n1 a), fun a => (hz.2 (.inr a)).resolve_left (n2 a)⟩
end Go.Proofs.Ytdbmdblghlfjfaa.Mp
