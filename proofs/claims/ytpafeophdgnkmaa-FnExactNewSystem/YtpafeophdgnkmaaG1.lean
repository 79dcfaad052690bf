import Derived.Test.YtpafeophdgnkmaaL2
/- The model's look at a row of extents: by place. -/
namespace Go.Proofs.Ytpafeophdgnkmaa
open Go.ChangeShapes Go.WideShapes Go.ChangeAt Go.RowKit
set_option linter.unusedVariables false
open Room

attribute [local go_sem] Oper.semAt_some

/-- The extent at a place lies within, behind the one ahead of it. -/
def okAt (b : Int) (f : Nat → Ex) (i : Nat) : Prop := 0 ≤ (f i).1 ∧ 1 ≤ (f i).2 ∧ fin (f i) ≤ b ∧ (0 < i → fin (f (i - 1)) < (f i).1)
theorem gx_cons {x : Ex} {l : List Ex} {i : Nat} : gx (x :: l) (i + 1) = gx l i := by simp [gx]
theorem gx_zero {x : Ex} {l : List Ex} : gx (x :: l) 0 = x := by simp [gx]
theorem plc_ok {b : Int} : ∀ {l : List Ex} {m : Int}, plc b m l = true ↔ (∀ i, i < l.length → okAt b (gx l) i) ∧ (0 < l.length → m ≤ (gx l 0).1)
  | [], m => by simp [plc]
  | x :: l, m => by
    have ih := plc_ok (b := b) (l := l) (m := fin x + 1)
    simp only [plc, Bool.and_eq_true, decide_eq_true_eq, inB_iff, ih]
    constructor
    · rintro ⟨h1, ⟨h2, h3, h4⟩, h5, h6⟩
      refine ⟨fun i hi => ?_, fun _ => by rw [gx_zero]; exact h1⟩
      cases i with
      | zero =>
        unfold okAt
        rw [gx_zero]
        exact ⟨h2, h3, by unfold fin; omega, fun h => absurd h (by omega)⟩
      | succ i =>
        have h7 := h5 i (by simpa using hi)
        unfold okAt at h7 ⊢
        rw [gx_cons]
        refine ⟨h7.1, h7.2.1, h7.2.2.1, fun _ => ?_⟩
        cases i with
        | zero =>
          have := h6 (by simpa using hi)
          show fin (gx (x :: l) 0) < _
          rw [gx_zero]
          omega
        | succ i =>
          show fin (gx (x :: l) (i + 1)) < _
          rw [gx_cons]
          exact h7.2.2.2 (by omega)
    · rintro ⟨h1, h2⟩
      have h3 := h1 0 (by simp)
      unfold okAt at h3
      rw [gx_zero] at h3
      have h4 := h2 (by simp)
      rw [gx_zero] at h4
      refine ⟨h4, ⟨h3.1, h3.2.1, by have := h3.2.2.1; unfold fin at this; omega⟩, fun i hi => ?_, fun h0 => ?_⟩
      · have h5 := h1 (i + 1) (by simpa using hi)
        unfold okAt at h5 ⊢
        rw [gx_cons] at h5
        refine ⟨h5.1, h5.2.1, h5.2.2.1, fun hi0 => ?_⟩
        have h6 := h5.2.2.2 (by omega)
        obtain ⟨i, rfl⟩ : ∃ j, i = j + 1 := ⟨i - 1, by omega⟩
        have : gx (x :: l) (i + 1 + 1 - 1) = gx l i := gx_cons
        rw [this] at h6
        exact h6
      · have h5 := (h1 1 (by simpa using h0)).2.2.2 (by omega)
        have e1 : gx (x :: l) (1 - 1) = x := gx_zero
        have e2 : gx (x :: l) 1 = gx l 0 := gx_cons
        rw [e1, e2] at h5
        omega
theorem plc_okAt {b : Int} {l : List Ex} : plc b 0 l = true ↔ ∀ i, i < l.length → okAt b (gx l) i := by
  rw [plc_ok]
  exact ⟨fun h => h.1, fun h => ⟨h, fun h0 => (h 0 h0).1⟩⟩

end Go.Proofs.Ytpafeophdgnkmaa
