import Derived.Test.YthioomihpfmlmaaT1
/- The specification: a path cut into names. -/
namespace Go.Proofs.Ythioomihpfmlmaa
open Go.ChangeShapes Go.WideShapes Go.ChangeAt Go.RowKit
set_option linter.unusedVariables false
open Hd

attribute [local go_sem] Oper.semAt_some

/-- What cutting a path tells. -/
def PathR (w : World) (p : ByteArray) (e : Ending) (w' : World) : Prop :=
  Below w.heap.size w w' ∧ ((∃ L a c, PN p = some L ∧ e = .returned (.tuple #[.slice a L.length c, .bool true]) ∧ L.length ≤ c ∧ Strs w' a L) ∨ (PN p = none ∧ ∃ a n c, e = .returned (.tuple #[.slice a n c, .bool false])))
/-- What holds on the way. -/
def St (p : ByteArray) (i : Nat) (out : List ByteArray) : Prop :=
  (∀ h : 0 < p.size, p[0] = 47 → pcs p 1 = out ++ (if i < p.size then pcs p (i + 1) else [])) ∧ out.all isN = true ∧ (∀ h0 : 0 < i, ∃ h : 0 < p.size, p[0] = 47) ∧ (∀ h : i < p.size, 0 < i → p[i] = 47) ∧ (i = 0 → out = [])
theorem St_start (p : ByteArray) : St p 0 [] := by
  refine ⟨fun h _ => ?_, rfl, fun h => absurd h (by omega), fun _ h => absurd h (by omega), fun _ => rfl⟩
  rw [if_pos h]; rfl
theorem St_next {p : ByteArray} {i : Nat} {out : List ByteArray} (h : St p i out) (hi : i < p.size) (hc : p[i] = 47) (hn : isN (p.extract (i + 1) (nx p (i + 1))) = true) : St p (nx p (i + 1)) (out ++ [p.extract (i + 1) (nx p (i + 1))]) := by
  have hge := nx_ge p (i + 1)
  have hle : nx p (i + 1) ≤ p.size := nx_le (by omega)
  have h0 : ∃ h : 0 < p.size, p[0] = 47 := by
    by_cases e : i = 0
    · subst e; exact ⟨hi, hc⟩
    · exact h.2.2.1 (by omega)
  refine ⟨fun hp hs => ?_, ?_, fun _ => h0, fun hlt _ => nx_at _ _ rfl hlt, fun e => absurd e (by omega)⟩
  · rw [h.1 hp hs, if_pos hi, pcs_step (i := i + 1) (by omega), List.append_assoc]
    rfl
  · rw [List.all_append, h.2.1]
    simp [hn]
theorem St_bad {p : ByteArray} (hne : p ≠ sl1) {i : Nat} {out : List ByteArray} (h : St p i out) (hi : i < p.size) (hc : p[i] = 47) (hn : isN (p.extract (i + 1) (nx p (i + 1))) = false ∨ 8 ≤ out.length) : PN p = none := by
  obtain ⟨hp, hs⟩ : ∃ h : 0 < p.size, p[0] = 47 := by
    by_cases e : i = 0
    · subst e; exact ⟨hi, hc⟩
    · exact h.2.2.1 (by omega)
  rw [PN_slash hne hp hs, h.1 hp hs, if_pos hi, pcs_step (i := i + 1) (by omega), if_neg]
  rintro ⟨h1, h2⟩
  rcases hn with hn | hn
  · simp [hn] at h2
  · simp at h1
    omega
theorem St_end {p : ByteArray} (hne : p ≠ sl1) {i : Nat} {out : List ByteArray} (h : St p i out) (hi : p.size ≤ i) (h8 : out.length ≤ 8) (h0 : 0 < i) : PN p = some out ∧ 0 < out.length := by
  obtain ⟨hp, hs⟩ := h.2.2.1 h0
  have e := h.1 hp hs
  rw [if_neg (by omega), List.append_nil] at e
  have : 0 < (pcs p 1).length := List.length_pos_iff.2 (pcs_ne p (by omega))
  rw [PN_slash hne hp hs, e, if_pos ⟨h8, h.2.1⟩]
  rw [e] at this
  exact ⟨rfl, this⟩
theorem isEmp (s : ByteArray) : s.toList.isEmpty = decide (s.size = 0) := by
  rw [Lib.toList_data, Bool.eq_iff_iff, decide_eq_true_eq, List.isEmpty_iff]
  rw [← List.length_eq_zero_iff]
  rfl
theorem sl1_list : (⟨#[47]⟩ : ByteArray).toList = [47] := by rw [Lib.toList_data]
end Go.Proofs.Ythioomihpfmlmaa
