import Derived.Test.YtfphffbclpmobaaP4
import Derived.Test.YtfphffbclpmobaaY1
/- Putting a text into a vault, piece by piece. -/
namespace Go.Proofs.Ytfphffbclpmobaa
open Go.ChangeShapes Go.WideShapes Go.ChangeAt Go.RowKit Go.Maps
set_option linter.unusedVariables false
open Hd

theorem gm_eq' {L : List Nm} {i : Nat} (h : i < L.length) : gm L i = L[i] := by simp [gm, h]
/-- A map of stocks that stands for a row of pieces. -/
def Rep (g : SG) (P : List Nm) : Prop := ∀ x p q, g x = some (p, q) ↔ ∃ i, i < P.length ∧ gm P i = ⟨x, q⟩ ∧ p = (i : Int)
theorem Rep.at_ {g : SG} {P : List Nm} (h : Rep g P) {i : Nat} (hi : i < P.length) : g (gm P i).nm = some ((i : Int), (gm P i).fl) := (h _ _ _).2 ⟨i, hi, rfl, rfl⟩
theorem Rep.uniq {g : SG} {P : List Nm} (h : Rep g P) {i j : Nat} (hi : i < P.length) (hj : j < P.length) (e : (gm P i).nm = (gm P j).nm) : i = j := by
  have h1 := h.at_ hi
  have h2 := h.at_ hj
  rw [e, h2] at h1
  simp at h1
  omega
theorem Rep.dis {g : SG} {P : List Nm} (h : Rep g P) : Dis P := fun i j hji hi e => by
  have := h.uniq (show j < P.length by omega) hi e
  omega
/-- One piece more: the pieces behind, and its place. -/
def st1 (P : List Nm) (t : ByteArray) : List Nm × Nat := match lastI P P.length t with
  | none => (P ++ [⟨t, 1⟩], P.length)
  | some i => (P.set i ⟨t, (gm P i).fl + 1⟩, i)
theorem lastI_none {P : List Nm} {t : ByteArray} (h : lastI P P.length t = none) {i : Nat} (hi : i < P.length) : (gm P i).nm ≠ t := fun e => by
  obtain ⟨j, hj, -⟩ := lastI_ex hi
  rw [e, h] at hj
  cases hj
theorem gm_snoc {P : List Nm} {x : Nm} {i : Nat} (hi : i < P.length) : gm (P ++ [x]) i = gm P i := by simp [gm, List.getElem?_append_left hi]
theorem gm_last {P : List Nm} {x : Nm} : gm (P ++ [x]) P.length = x := by simp [gm]
theorem gm_set {P : List Nm} {x : Nm} {i j : Nat} (hj : j < P.length) : gm (P.set i x) j = if i = j then x else gm P j := by
  by_cases e : i = j
  · subst e; simp [gm, hj]
  · simp [gm, e]
/-- Both sides' step. -/
theorem st1_rep {s : SG × Nat} {P : List Nm} (h : Rep s.1 P) (hN : s.2 = P.length) (t : ByteArray) : Rep (ad1 s t).1 (st1 P t).1 ∧ (ad1 s t).2 = (st1 P t).1.length := by
  unfold st1
  cases hl : lastI P P.length t with
  | none =>
    have hg : s.1 t = none := by
      cases hg : s.1 t with
      | none => rfl
      | some pq =>
        obtain ⟨p, q⟩ := pq
        obtain ⟨i, hi, e, -⟩ := (h t p q).1 hg
        exact absurd (by rw [e]) (lastI_none hl hi)
    unfold ad1
    rw [hg]
    refine ⟨fun x p q => ?_, by simp [hN]⟩
    simp only [upG]
    by_cases e : x = t
    · rw [if_pos e]
      subst e
      constructor
      · intro hh
        simp at hh
        refine ⟨P.length, by simp, by rw [gm_last, ← hh.2], by rw [← hh.1, hN]⟩
      · rintro ⟨i, hi, e1, rfl⟩
        simp only [List.length_append, List.length_singleton] at hi
        by_cases ei : i = P.length
        · subst ei
          rw [gm_last] at e1
          simp at e1
          simp [hN, e1]
        · rw [gm_snoc (by omega)] at e1
          exact absurd (by rw [e1]) (lastI_none hl (show i < P.length by omega))
    · rw [if_neg e, h]
      constructor
      · rintro ⟨i, hi, e1, rfl⟩
        exact ⟨i, by simp; omega, by rw [gm_snoc hi]; exact e1, rfl⟩
      · rintro ⟨i, hi, e1, rfl⟩
        simp only [List.length_append, List.length_singleton] at hi
        by_cases ei : i = P.length
        · subst ei
          rw [gm_last] at e1
          simp at e1
          exact absurd e1.1.symm e
        · rw [gm_snoc (by omega)] at e1
          exact ⟨i, by omega, e1, rfl⟩
  | some i =>
    obtain ⟨hi, hit, -⟩ := lastI_some hl
    have hg := h.at_ hi
    rw [hit] at hg
    unfold ad1
    rw [hg]
    refine ⟨fun x p q => ?_, by simp [hN]⟩
    simp only [upG]
    by_cases e : x = t
    · rw [if_pos e]
      subst e
      constructor
      · intro hh
        simp at hh
        refine ⟨i, by simp; omega, ?_, hh.1.symm⟩
        rw [gm_set hi, if_pos rfl, hh.2]
      · rintro ⟨j, hj, e1, rfl⟩
        simp only [List.length_set] at hj
        rw [gm_set hj] at e1
        by_cases ei : i = j
        · rw [if_pos ei] at e1
          simp at e1
          subst ei
          simp [e1]
        · rw [if_neg ei] at e1
          exact absurd (h.uniq hi hj (by rw [hit, e1])) ei
    · rw [if_neg e, h]
      constructor
      · rintro ⟨j, hj, e1, rfl⟩
        refine ⟨j, by simp; omega, ?_, rfl⟩
        rw [gm_set hj, if_neg (fun q => e (by subst q; rw [e1] at hit; exact hit))]
        exact e1
      · rintro ⟨j, hj, e1, rfl⟩
        simp only [List.length_set] at hj
        rw [gm_set hj] at e1
        by_cases ei : i = j
        · rw [if_pos ei] at e1
          simp at e1
          exact absurd e1.1.symm e
        · rw [if_neg ei] at e1
          exact ⟨j, hj, e1, rfl⟩
/-- What a step keeps, and where it puts. -/
theorem st1_keeps {g : SG} {P : List Nm} (t : ByteArray) : P.length ≤ (st1 P t).1.length ∧ (st1 P t).1.length ≤ P.length + 1 ∧ (∀ i, i < P.length → (gm (st1 P t).1 i).nm = (gm P i).nm) ∧ (st1 P t).2 < (st1 P t).1.length ∧ (gm (st1 P t).1 (st1 P t).2).nm = t := by
  unfold st1
  cases hl : lastI P P.length t with
  | none => exact ⟨by simp, by simp, fun i hi => by rw [gm_snoc hi], by simp, by rw [gm_last]⟩
  | some i =>
    obtain ⟨hi, hit, -⟩ := lastI_some hl
    refine ⟨by simp, by simp, fun j hj => ?_, by simp; exact hi, ?_⟩
    · rw [gm_set hj]
      split
      · rename_i e; subst e; exact hit.symm
      · rfl
    · rw [gm_set hi, if_pos rfl]
end Go.Proofs.Ytfphffbclpmobaa
