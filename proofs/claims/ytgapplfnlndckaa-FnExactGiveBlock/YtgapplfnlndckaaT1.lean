import Derived.Test.YtgapplfnlndckaaM2
import Derived.Test.YtgapplfnlndckaaP3
import Derived.Test.YtgapplfnlndckaaH1
/- A block taken, in the map of kinds and in the lists. -/
namespace Go.Proofs.Ytgapplfnlndckaa
open Go.ChangeShapes Go.WideShapes Go.ChangeAt Go.RowKit
set_option linter.unusedVariables false
open Room

/-- What holds in a good buddy. -/
structure Gd (b : Int) (F U : List Ex) : Prop where
  b0 : 0 ≤ b
  b8 : b ≤ 8
  lf : lst (pw b) 0 F = true
  lu : lst (pw b) 0 U = true
  ds : dis F U
theorem gd_of {b : Int} {F U : List Ex} (h : good b F U = true) : Gd b F U := by
  have h0 : 0 ≤ b ∧ b ≤ 8 := by
    unfold good at h
    simp only [Bool.and_eq_true, decide_eq_true_eq] at h
    exact ⟨h.1, h.2.1⟩
  rw [good_spec h0.1 h0.2] at h
  simp only [Bool.and_eq_true] at h
  exact ⟨h0.1, h0.2, h.1, h.2.1, fun x hx o ho => ((nonB_iff.1 h.2.2.2) x hx).2 o ho⟩
theorem len_of {e : Int} {l : List Ex} (h : lst e 0 l = true) (he : 0 ≤ e) : (l.length : Int) ≤ e := by
  have h1 := sm_one h he
  have : ∀ l : List Ex, (l.length : Int) ≤ sm l := by
    intro l
    induction l with
    | nil => simp [sm]
    | cons x l ih => simp only [sm, List.length_cons]; have := ln_pos x; omega
  have := this l
  omega
theorem wf_int {n : Int} (h : -9223372036854775808 ≤ n ∧ n ≤ 9223372036854775807) : (Lit.int .i64 n).wf = true := by
  simp only [Lit.wf, Bool.and_eq_true, decide_eq_true_eq]
  exact h
theorem fit_small {x : Ex} (h1 : 0 ≤ x.1 ∧ x.1 ≤ 2000000000) (h2 : 0 ≤ x.2 ∧ x.2 ≤ 100) : FitX x := ⟨wf_int (by omega), wf_int (by omega)⟩
theorem fit_B {x : Ex} (h : isB x = true) : FitX x := by
  obtain ⟨h1, h2, h3, h4, _⟩ := isB_iff.1 h
  exact fit_small (by omega) (by omega)
theorem Gd.fitF {b : Int} {F U : List Ex} (h : Gd b F U) : ∀ x, x ∈ F → FitX x := fun x hx => fit_B (lst_mem h.lf hx).1
theorem Gd.fitU {b : Int} {F U : List Ex} (h : Gd b F U) : ∀ x, x ∈ U → FitX x := fun x hx => fit_B (lst_mem h.lu hx).1
/-- The best free block: the first of the least order that is enough. -/
def Best (F : List Ex) (o : Int) (k : Nat) : Prop := k < F.length ∧ o ≤ (gx F k).2 ∧ (∀ i, i < F.length → o ≤ (gx F i).2 → (gx F k).2 ≤ (gx F i).2) ∧ ∀ i, i < k → o ≤ (gx F i).2 → (gx F k).2 < (gx F i).2
theorem best_one {F : List Ex} {o : Int} {k j : Nat} (h : Best F o k) (h' : Best F o j) : k = j := by
  rcases Nat.lt_trichotomy k j with q | q | q
  · have h1 := h'.2.2.2 k q h.2.1
    have h2 := h.2.2.1 j h'.1 h'.2.1
    omega
  · exact q
  · have h1 := h.2.2.2 j q h'.2.1
    have h2 := h'.2.2.1 k h.1 h.2.1
    omega
/-- The lists behind a step. -/
def without (l : List Ex) (k : Nat) : List Ex := l.take k ++ l.drop (k + 1)
theorem mem_without {l : List Ex} {k : Nat} (hk : k < l.length) (h : So ltP l) {y : Ex} : y ∈ without l k ↔ y ∈ l ∧ y ≠ gx l k := by
  have e : l = l.take k ++ l[k] :: l.drop (k + 1) := by rw [← List.drop_eq_getElem_cons hk, List.take_append_drop]
  have hs : So ltP (l.take k ++ l[k] :: l.drop (k + 1)) := by rw [← e]; exact h
  rw [So.app, So.cons] at hs
  rw [without, List.mem_append, gx_eq hk]
  constructor
  · rintro (q | q)
    · refine ⟨List.mem_of_mem_take q, fun e => ?_⟩
      have := hs.2.2 y q l[k] (List.mem_cons.2 (.inl rfl))
      rw [ltP_iff, e] at this
      omega
    · refine ⟨List.mem_of_mem_drop q, fun e => ?_⟩
      have := hs.2.1.1 y q
      rw [ltP_iff, e] at this
      omega
  · rintro ⟨q1, q2⟩
    rw [e, List.mem_append, List.mem_cons] at q1
    rcases q1 with q | q | q
    · exact .inl q
    · exact absurd q q2
    · exact .inr q
theorem so_without {l : List Ex} {k : Nat} (h : So ltP l) : So ltP (without l k) := by
  refine List.Pairwise.sublist ?_ h
  have : (l.take k ++ l.drop k).Sublist l := by rw [List.take_append_drop]; exact List.Sublist.refl _
  refine List.Sublist.trans (List.Sublist.append_left ?_ _) this
  rw [← List.drop_drop]
  exact List.drop_sublist _ _
/-- Halves that are free, in a map of kinds. -/
def cutG (p : Int) (o : Nat) : Nat → (Ex → Int) → (Ex → Int)
  | 0, g => g
  | n + 1, g => cutG p o n (upd g (p + pw ((o + n : Nat) : Int), ((o + n : Nat) : Int)) 1)
theorem cutG_at {p : Int} {o : Nat} {y : Ex} : ∀ {n : Nat} {g : Ex → Int}, (∃ j : Nat, o ≤ j ∧ j < o + n ∧ y = (p + pw (j : Int), (j : Int))) ∧ cutG p o n g y = 1 ∨ (¬ ∃ j : Nat, o ≤ j ∧ j < o + n ∧ y = (p + pw (j : Int), (j : Int))) ∧ cutG p o n g y = g y
  | 0, g => .inr ⟨fun ⟨j, h1, h2, _⟩ => by omega, rfl⟩
  | n + 1, g => by
    rw [cutG]
    rcases cutG_at (n := n) (g := upd g (p + pw ((o + n : Nat) : Int), ((o + n : Nat) : Int)) 1) with ⟨⟨j, h1, h2, h3⟩, h⟩ | ⟨h1, h2⟩
    · exact .inl ⟨⟨j, h1, by omega, h3⟩, h⟩
    · by_cases e : y = (p + pw ((o + n : Nat) : Int), ((o + n : Nat) : Int))
      · exact .inl ⟨⟨o + n, by omega, by omega, e⟩, by rw [h2]; simp [upd, e]⟩
      · refine .inr ⟨fun ⟨j, q1, q2, q3⟩ => ?_, by rw [h2, upd, if_neg e]⟩
        by_cases hj : j = o + n
        · subst hj; exact e q3
        · exact h1 ⟨j, q1, by omega, q3⟩
/-- The kinds behind a taking. -/
def tkG (F U : List Ex) (x : Ex) (o n : Nat) : Ex → Int := upd (cutG x.1 o n (upd (kg F U) x 0)) (x.1, (o : Int)) 2

theorem tk_mem {F : List Ex} {k : Nat} (hk : k < F.length) : gx F k ∈ F := by rw [gx_eq hk]; exact List.getElem_mem hk
theorem tk_half {x : Ex} {o n : Nat} (hq : x.2 = ((o + n : Nat) : Int)) {j : Nat} (h1 : o ≤ j) (h2 : j < o + n) {y : Ex} (hy : y = (x.1 + pw (j : Int), (j : Int))) : x.1 < y.1 ∧ fin y ≤ fin x := by
  have e := pw_succ j
  have e2 := pw_mono (i := j + 1) (j := o + n) (by omega)
  have e3 := pw_pos (j : Int)
  subst hy
  simp only [fin, ln, hq]
  omega
theorem rise_at {e m : Int} {l : List Ex} {k i : Nat} (h : lst e m l = true) (hk : k < l.length) (hi : i < l.length) (q : k < i) : fin (gx l k) ≤ l[i].1 := by
  induction l generalizing m k i with
  | nil => simp at hk
  | cons x l ih =>
    rw [lst_cons] at h
    cases k with
    | zero =>
      cases i with
      | zero => omega
      | succ i =>
        have := lst_all h.2.2.2 (l[i]'(by simpa using hi)) (List.getElem_mem _)
        simpa [gx] using this
    | succ k =>
      cases i with
      | zero => omega
      | succ i =>
        have := ih h.2.2.2 (k := k) (i := i) (by simpa using hk) (by simpa using hi) (by omega)
        simpa [gx] using this
section
variable {b : Int} {F U : List Ex} (G : Gd b F U) {k o n : Nat} (hk : k < F.length) (hq : (gx F k).2 = ((o + n : Nat) : Int))
include G hk hq in
theorem tk_free (y : Ex) : FitX y ∧ tkG F U (gx F k) o n y = 1 ↔ y ∈ cutF (gx F k).1 o n (without F k) := by
  have hx := tk_mem hk
  have so := lst_so G.lf
  have hB := lst_mem G.lf hx
  have iB := isB_iff.1 hB.1
  rw [mem_cutF, mem_without hk so]
  unfold tkG
  constructor
  · rintro ⟨hf, h⟩
    by_cases e : y = ((gx F k).1, (o : Int))
    · simp [upd, e] at h
    · rw [upd, if_neg e] at h
      rcases cutG_at (p := (gx F k).1) (o := o) (y := y) (n := n) (g := upd (kg F U) (gx F k) 0) with ⟨q, _⟩ | ⟨_, q⟩
      · exact .inr q
      · rw [q] at h
        by_cases e2 : y = gx F k
        · simp [upd, e2] at h
        · rw [upd, if_neg e2, kg] at h
          by_cases hu : y ∈ U
          · simp [hu] at h
          · by_cases hfr : y ∈ F
            · exact .inl ⟨hfr, e2⟩
            · simp [hu, hfr] at h
  · rintro (⟨h1, h2⟩ | ⟨j, h1, h2, h3⟩)
    · refine ⟨G.fitF y h1, ?_⟩
      have hne : y ≠ ((gx F k).1, (o : Int)) := fun e => by
        have e1 : y.1 = (gx F k).1 := by rw [e]
        rcases List.pairwise_iff_getElem.1 so with sp
        obtain ⟨i, hi, rfl⟩ := List.getElem_of_mem h1
        rw [gx_eq hk] at e1 h2
        rcases Nat.lt_trichotomy i k with q | q | q
        · have := sp i k hi hk q; rw [ltP_iff] at this; omega
        · subst q; exact h2 rfl
        · have := sp k i hk hi q; rw [ltP_iff] at this; omega
      rw [upd, if_neg hne]
      rcases cutG_at (p := (gx F k).1) (o := o) (y := y) (n := n) (g := upd (kg F U) (gx F k) 0) with ⟨_, q⟩ | ⟨_, q⟩
      · exact q
      · rw [q, upd, if_neg h2, kg]
        have hu : y ∉ U := fun hu => G.ds y h1 y hu (by have := ln_pos y; unfold fin; omega)
        simp [hu, h1]
    · have hh := tk_half hq h1 h2 h3
      refine ⟨?_, ?_⟩
      · have hj : (j : Int) ≤ 8 := by rw [hq] at iB; omega
        have := pw_le (k := j) (by omega)
        have := pw_pos (j : Int)
        subst h3
        exact fit_small (by simp only; omega) (by simp only; omega)
      · have hne : y ≠ ((gx F k).1, (o : Int)) := fun e => by rw [e] at hh; simp at hh
        rw [upd, if_neg hne]
        rcases cutG_at (p := (gx F k).1) (o := o) (y := y) (n := n) (g := upd (kg F U) (gx F k) 0) with ⟨_, q⟩ | ⟨q, _⟩
        · exact q
        · exact absurd ⟨j, h1, h2, h3⟩ q
include G hk hq in
theorem tk_used (y : Ex) : FitX y ∧ tkG F U (gx F k) o n y = 2 ↔ y ∈ put ((gx F k).1, (o : Int)) U := by
  have hx := tk_mem hk
  have hB := lst_mem G.lf hx
  have iB := isB_iff.1 hB.1
  rw [mem_put]
  unfold tkG
  constructor
  · rintro ⟨hf, h⟩
    by_cases e : y = ((gx F k).1, (o : Int))
    · exact .inl e
    · rw [upd, if_neg e] at h
      rcases cutG_at (p := (gx F k).1) (o := o) (y := y) (n := n) (g := upd (kg F U) (gx F k) 0) with ⟨_, q⟩ | ⟨_, q⟩
      · omega
      · rw [q] at h
        by_cases e2 : y = gx F k
        · simp [upd, e2] at h
        · rw [upd, if_neg e2, kg] at h
          by_cases hu : y ∈ U
          · exact .inr hu
          · by_cases hfr : y ∈ F
            · simp [hu, hfr] at h
            · simp [hu, hfr] at h
  · rintro (h | h)
    · have ho : (o : Int) ≤ 8 := by rw [hq] at iB; omega
      refine ⟨?_, by simp [upd, h]⟩
      subst h
      exact fit_small (by simp only; omega) (by simp only; omega)
    · refine ⟨G.fitU y h, ?_⟩
      have hd := G.ds (gx F k) hx y h
      have p1 := ln_pos (gx F k)
      have p2 := ln_pos y
      by_cases e : y = ((gx F k).1, (o : Int))
      · simp [upd, e]
      · rw [upd, if_neg e]
        rcases cutG_at (p := (gx F k).1) (o := o) (y := y) (n := n) (g := upd (kg F U) (gx F k) 0) with ⟨⟨j, h1, h2, h3⟩, _⟩ | ⟨_, q⟩
        · have hh := tk_half hq h1 h2 h3
          exfalso
          unfold fin at *
          omega
        · have e2 : y ≠ gx F k := fun e => by subst e; unfold fin at hd; omega
          rw [q, upd, if_neg e2, kg]
          simp [h]
include G hk hq in
theorem tk_soF : So ltP (cutF (gx F k).1 o n (without F k)) := by
  have hx := tk_mem hk
  have so := lst_so G.lf
  refine so_cutF (so_without so) fun y hy j h1 h2 e => ?_
  obtain ⟨q1, q2⟩ := (mem_without hk so).1 hy
  have hh := tk_half hq h1 h2 rfl
  simp only at hh
  rw [← e] at hh
  have sp := List.pairwise_iff_getElem.1 so
  have hj := pw_pos (j : Int)
  obtain ⟨i, hi, rfl⟩ := List.getElem_of_mem q1
  -- y begins inside the block that is cut
  have hin : F[i].1 < fin (gx F k) := by
    have : fin (F[i].1, (j : Int)) = F[i].1 + pw (j : Int) := rfl
    rw [this] at hh
    omega
  have hlt : (gx F k).1 < F[i].1 := hh.1
  rcases Nat.lt_trichotomy i k with q | q | q
  · have := sp i k hi hk q
    rw [ltP_iff, ← gx_eq hk] at this
    omega
  · subst q
    rw [gx_eq hk] at hlt
    omega
  · have := rise_at G.lf hk hi q
    omega
include G hk in
theorem tk_soU : So ltP (put ((gx F k).1, (o : Int)) U) := by
  have hx := tk_mem hk
  refine so_put (lst_so G.lu) fun y hy e => ?_
  have hd := G.ds (gx F k) hx y hy
  have p1 := ln_pos (gx F k)
  have p2 := ln_pos y
  simp only at e
  unfold fin at hd
  omega
end
end Go.Proofs.Ytgapplfnlndckaa
