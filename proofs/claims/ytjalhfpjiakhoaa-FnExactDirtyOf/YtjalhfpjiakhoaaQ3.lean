import Derived.Test.YtjalhfpjiakhoaaQ2
namespace Go.Proofs.Ytjalhfpjiakhoaa
open Go.ChangeShapes Go.WideShapes Go.ChangeAt Go.RowKit
set_option linter.unusedVariables false

/-- Is there a write to sector j among the first k? -/
def dP (T : Nat → Int) (k : Nat) (j : Nat) : Bool := decide (∃ i, i < k ∧ T i = (j : Int))
def castL (l : List Nat) : List Int := l.map fun (j : Nat) => (j : Int)
def dL (T : Nat → Int) (k : Nat) : List Int := castL (kidx (dP T k) 32)
theorem dL_len (T : Nat → Int) (k : Nat) : (dL T k).length ≤ 32 := by unfold dL castL; rw [List.length_map]; exact kidx_len _ _
theorem dL_zero (T : Nat → Int) : dL T 0 = [] := by
  have : ∀ j, dP T 0 j = false := fun j => decide_eq_false (by rintro ⟨i, hi, _⟩; omega)
  unfold dL castL kidx
  rw [List.map_eq_nil_iff, List.filter_eq_nil_iff]
  intro a _
  simp [this a]
theorem dP_succ (T : Nat → Int) (k j : Nat) : dP T (k + 1) j = (dP T k j || decide (T k = (j : Int))) := by
  unfold dP
  rw [← Bool.decide_or, decide_eq_decide]
  constructor
  · rintro ⟨i, hi, h⟩
    by_cases e : i = k
    · subst e; exact .inr h
    · exact .inl ⟨i, by omega, h⟩
  · rintro (⟨i, hi, h⟩ | h)
    · exact ⟨i, by omega, h⟩
    · exact ⟨k, by omega, h⟩
theorem castL_append (a b : List Nat) : castL (a ++ b) = castL a ++ castL b := by simp [castL]
theorem dL_put (T : Nat → Int) (k t : Nat) (ht : T k = t) (h32 : t < 32) :
    ∃ A R, dL T k = A ++ R ∧ (∀ x ∈ A, x < (t : Int)) ∧ (∀ x, R.head? = some x → (t : Int) ≤ x) ∧ insL A t R = dL T (k + 1) := by
  have hr : List.range 32 = List.range t ++ (t :: (List.range (31 - t)).map fun i => t + (i + 1)) := by
    have e1 : 32 = t + ((31 - t) + 1) := by omega
    conv => lhs; rw [e1]
    rw [List.range_add, List.range_succ_eq_map]
    simp [Function.comp_def]
  generalize hZ : ((List.range (31 - t)).map fun i => t + (i + 1)) = Z at hr
  have hz : ∀ z ∈ Z, t < z := by
    intro z h
    rw [← hZ] at h
    simp at h
    obtain ⟨i, _, rfl⟩ := h
    omega
  have hA : (List.range t).filter (dP T (k + 1)) = (List.range t).filter (dP T k) := by
    apply List.filter_congr
    intro x hx
    rw [dP_succ, ht]
    have : x < t := List.mem_range.1 hx
    have : decide ((t : Int) = (x : Int)) = false := by simp; omega
    rw [this, Bool.or_false]
  have hZ' : Z.filter (dP T (k + 1)) = Z.filter (dP T k) := by
    apply List.filter_congr
    intro x hx
    rw [dP_succ, ht]
    have : t < x := hz x hx
    have : decide ((t : Int) = (x : Int)) = false := by simp; omega
    rw [this, Bool.or_false]
  have ht1 : dP T (k + 1) t = true := by rw [dP_succ, ht]; simp
  refine ⟨castL ((List.range t).filter (dP T k)), castL ((t :: Z).filter (dP T k)), ?_, ?_, ?_, ?_⟩
  · unfold dL kidx
    rw [hr, List.filter_append, castL_append]
  · intro x hx
    simp [castL] at hx
    obtain ⟨y, ⟨hy, _⟩, rfl⟩ := hx
    omega
  · intro x hx
    have hm := List.mem_of_head? hx
    simp only [castL, List.mem_map, List.mem_filter, List.mem_cons] at hm
    obtain ⟨y, ⟨hy, _⟩, rfl⟩ := hm
    rcases hy with rfl | hy
    · omega
    · have := hz y hy; omega
  · unfold dL kidx
    rw [hr, List.filter_append, castL_append, hA]
    simp only [List.filter_cons, ht1, hZ', if_true]
    cases hp : dP T k t
    · have hne : ¬ (castL (Z.filter (dP T k))).head? = some (t : Int) := by
        intro h
        have hm := List.mem_of_head? h
        simp only [castL, List.mem_map, List.mem_filter] at hm
        obtain ⟨y, ⟨hy, _⟩, e⟩ := hm
        have := hz y hy
        omega
      simp only [Bool.false_eq_true, if_false]
      rw [insL, if_neg hne]
      simp [castL]
    · simp [insL, castL]
end Go.Proofs.Ytjalhfpjiakhoaa
