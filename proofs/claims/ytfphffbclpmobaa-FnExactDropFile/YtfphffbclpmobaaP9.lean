import Derived.Test.YtfphffbclpmobaaP8
/- Dropping a file's texts, one by one: uses less, and none left out. -/
namespace Go.Proofs.Ytfphffbclpmobaa
open Go.ChangeShapes Go.WideShapes Go.ChangeAt Go.RowKit Go.Maps
set_option linter.unusedVariables false
open Hd

/-- One text less. -/
def dr1 (s : SG × Nat) (t : ByteArray) : SG × Nat := match s.1 t with
  | none => s
  | some (p, q) => if q = 1 then (upG s.1 t none, s.2 - 1) else (upG s.1 t (some (p, q - 1)), s.2)
/-- The entries with uses. -/
def livF (k : Nat) (P : List Nm) : List En := (enF k P).filter fun e => decide (e.us ≠ 0)
theorem livF_ris (P : List Nm) (k : Nat) : Ris (livF k P) := List.Pairwise.filter _ (enF_ris P k)
theorem livF_mem {P : List Nm} {k : Nat} {e : En} : e ∈ livF k P ↔ (∃ i, i < P.length ∧ gm P i = ⟨e.tx, e.us⟩ ∧ e.pl = ((k + i : Nat) : Int)) ∧ e.us ≠ 0 := by
  unfold livF
  rw [List.mem_filter, enF_mem]
  simp
theorem livF_cons (k : Nat) (x : Nm) (P : List Nm) : livF k (x :: P) = if x.fl = 0 then livF (k + 1) P else ⟨x.nm, (k : Int), x.fl⟩ :: livF (k + 1) P := by
  unfold livF
  show List.filter _ (_ :: enF (k + 1) P) = _
  rw [List.filter_cons]
  by_cases h : x.fl = 0 <;> simp [h]
theorem livF_set_len : ∀ (P : List Nm) (k i : Nat) (y : Nm), i < P.length → (livF k (P.set i y)).length + (if (gm P i).fl = 0 then 0 else 1) = (livF k P).length + (if y.fl = 0 then 0 else 1)
  | [], k, i, y, h => absurd h (by simp)
  | x :: P, k, 0, y, h => by
    have e : gm (x :: P) 0 = x := by simp [gm]
    rw [e, List.set_cons_zero, livF_cons, livF_cons]
    by_cases h1 : x.fl = 0 <;> by_cases h2 : y.fl = 0 <;> simp [h1, h2]
  | x :: P, k, i + 1, y, h => by
    have ih := livF_set_len P (k + 1) i y (by simpa using h)
    have e : gm (x :: P) (i + 1) = gm P i := by simp [gm]
    rw [e, List.set_cons_succ, livF_cons, livF_cons]
    by_cases h1 : x.fl = 0
    · rw [if_pos h1, if_pos h1]; exact ih
    · rw [if_neg h1, if_neg h1]
      simp only [List.length_cons]
      omega
/-- A map that stands for the pieces with uses. -/
def RepZ (s : SG × Nat) (P : List Nm) : Prop := Ens s.1 (livF 0 P) ∧ s.2 = (livF 0 P).length
theorem RepZ.of {s : SG × Nat} {P : List Nm} (h : Rep s.1 P) (hN : s.2 = P.length) (hp : ∀ i, i < P.length → 1 ≤ (gm P i).fl) : RepZ s P := by
  have e : livF 0 P = enF 0 P := by
    unfold livF
    rw [List.filter_eq_self]
    intro x hx
    obtain ⟨i, hi, e, -⟩ := (enF_mem P 0 x).1 hx
    have := hp i hi
    rw [e] at this
    simp only at this
    simp
    omega
  unfold RepZ
  rw [e]
  exact ⟨rep_ens h, by rw [enF_len]; exact hN⟩
/-- Both sides' step. -/
theorem RepZ.step {s : SG × Nat} {P : List Nm} (h : RepZ s P) (hd : Dis P) {i : Nat} (hi : i < P.length) (hp : 1 ≤ (gm P i).fl) : RepZ (dr1 s (gm P i).nm) (P.set i ⟨(gm P i).nm, (gm P i).fl - 1⟩) := by
  obtain ⟨h1, h2⟩ := h
  have hg : s.1 (gm P i).nm = some ((i : Int), (gm P i).fl) := (h1.2 _ _ _).2 (livF_mem.2 ⟨⟨i, hi, rfl, by simp⟩, by simp only; omega⟩)
  have hl := livF_set_len P 0 i ⟨(gm P i).nm, (gm P i).fl - 1⟩ hi
  rw [if_neg (by omega)] at hl
  have hu : ∀ j, j < P.length → (gm P j).nm = (gm P i).nm → j = i := fun j hj e => by
    rcases Nat.lt_trichotomy j i with q | q | q
    · exact absurd e (hd i j q hi)
    · exact q
    · exact absurd e.symm (hd j i q hj)
  have hmem : ∀ x p q, x ≠ (gm P i).nm → ((⟨x, p, q⟩ : En) ∈ livF 0 (P.set i ⟨(gm P i).nm, (gm P i).fl - 1⟩) ↔ (⟨x, p, q⟩ : En) ∈ livF 0 P) := fun x p q hx => by
    rw [livF_mem, livF_mem]
    refine and_congr_left fun _ => ?_
    constructor
    · rintro ⟨j, hj, e1, e2⟩
      rw [List.length_set] at hj
      rw [gm_set hj] at e1
      by_cases e : i = j
      · rw [if_pos e] at e1
        simp at e1
        exact absurd e1.1.symm hx
      · rw [if_neg e] at e1
        exact ⟨j, hj, e1, e2⟩
    · rintro ⟨j, hj, e1, e2⟩
      refine ⟨j, by rw [List.length_set]; exact hj, ?_, e2⟩
      rw [gm_set hj, if_neg (fun e => hx (by subst e; rw [e1]))]
      exact e1
  have hown : ∀ p q, ((⟨(gm P i).nm, p, q⟩ : En) ∈ livF 0 (P.set i ⟨(gm P i).nm, (gm P i).fl - 1⟩) ↔ (p = (i : Int) ∧ q = (gm P i).fl - 1) ∧ q ≠ 0) := fun p q => by
    rw [livF_mem]
    refine and_congr_left fun _ => ?_
    constructor
    · rintro ⟨j, hj, e1, e2⟩
      rw [List.length_set] at hj
      rw [gm_set hj] at e1
      by_cases e : i = j
      · rw [if_pos e] at e1
        simp at e1
        simp only [Nat.zero_add] at e2
        exact ⟨by rw [e2, e], e1.symm⟩
      · rw [if_neg e] at e1
        exact absurd (hu j hj (by rw [e1])).symm e
    · rintro ⟨rfl, rfl⟩
      exact ⟨i, by rw [List.length_set]; exact hi, by rw [gm_set hi, if_pos rfl], by simp⟩
  unfold dr1
  rw [hg]
  by_cases hq : (gm P i).fl = 1
  · simp only [if_pos hq]
    rw [if_pos (by simp only; omega)] at hl
    refine ⟨⟨livF_ris _ _, fun x p q => ?_⟩, by rw [h2]; omega⟩
    simp only [upG]
    by_cases e : x = (gm P i).nm
    · subst e
      rw [if_pos rfl, hown]
      constructor
      · intro q; cases q
      · rintro ⟨⟨-, e2⟩, e3⟩
        omega
    · rw [if_neg e, h1.2, hmem x p q e]
  · simp only [if_neg hq]
    rw [if_neg (by simp only; omega)] at hl
    refine ⟨⟨livF_ris _ _, fun x p q => ?_⟩, by rw [h2]; omega⟩
    simp only [upG]
    by_cases e : x = (gm P i).nm
    · subst e
      rw [if_pos rfl, hown]
      constructor
      · intro q'
        simp at q'
        exact ⟨⟨q'.1.symm, q'.2.symm⟩, by omega⟩
      · rintro ⟨⟨e1, e2⟩, -⟩
        rw [e1, e2]
    · rw [if_neg e, h1.2, hmem x p q e]
end Go.Proofs.Ytfphffbclpmobaa
