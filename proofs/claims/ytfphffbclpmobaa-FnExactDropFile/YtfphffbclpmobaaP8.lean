import Derived.Test.YtfphffbclpmobaaP7
/- What is left is good, where it is not too large; entries out of pieces. -/
namespace Go.Proofs.Ytfphffbclpmobaa
open Go.ChangeShapes Go.WideShapes Go.ChangeAt Go.RowKit Go.Maps
set_option linter.unusedVariables false
open Hd

/-- The pieces as entries, their places counted from so many. -/
def enF : Nat → List Nm → List En
  | _, [] => []
  | k, x :: l => ⟨x.nm, (k : Int), x.fl⟩ :: enF (k + 1) l
theorem enF_nm : ∀ (P : List Nm) (k : Nat), (enF k P).map toNm = P
  | [], _ => rfl
  | x :: P, k => by show toNm _ :: _ = _; rw [enF_nm P (k + 1)]; rfl
theorem enF_len (P : List Nm) (k : Nat) : (enF k P).length = P.length := by have := congrArg List.length (enF_nm P k); simpa using this
theorem enF_mem : ∀ (P : List Nm) (k : Nat) (e : En), e ∈ enF k P ↔ ∃ i, i < P.length ∧ gm P i = ⟨e.tx, e.us⟩ ∧ e.pl = ((k + i : Nat) : Int)
  | [], _, e => by simp [enF]
  | x :: P, k, e => by
    show e ∈ _ :: enF (k + 1) P ↔ _
    rw [List.mem_cons, enF_mem P (k + 1) e]
    constructor
    · rintro (rfl | ⟨i, hi, h1, h2⟩)
      · exact ⟨0, by simp, by simp [gm], by simp⟩
      · exact ⟨i + 1, by simpa using hi, by simpa [gm] using h1, by rw [h2]; congr 1; omega⟩
    · rintro ⟨i, hi, h1, h2⟩
      cases i with
      | zero =>
        left
        have h3 : x = ⟨e.tx, e.us⟩ := by simpa [gm] using h1
        exact En.ext' (by rw [h3]) (by simpa using h2) (by rw [h3])
      | succ i => exact .inr ⟨i, by simpa using hi, by simpa [gm] using h1, by rw [h2]; congr 1; omega⟩
theorem enF_ris : ∀ (P : List Nm) (k : Nat), Ris (enF k P)
  | [], _ => List.Pairwise.nil
  | x :: P, k => by
    refine Ris.cons.2 ⟨fun y hy => ?_, enF_ris P (k + 1)⟩
    obtain ⟨i, hi, -, h2⟩ := (enF_mem P (k + 1) y).1 hy
    rw [h2]
    show (k : Int) < _
    omega
theorem rep_ens {g : SG} {P : List Nm} (h : Rep g P) : Ens g (enF 0 P) := ⟨enF_ris P 0, fun x p q => by
  rw [h, enF_mem]
  simp only [Nat.zero_add]⟩
theorem tf_none {F : List (List Int)} {n : Nat} : ∀ j, j ≤ F.length → (∀ r, r < j → ∀ i, i < (gf F r).length → gi (gf F r) i < n) → tf F j n = 0 := by
  intro j
  induction j with
  | zero => intro _ _; rfl
  | succ j ih =>
    intro hj h
    rw [tf, ih (by omega) (fun r hr => h r (by omega))]
    have : (gf F j).count (n : Int) = 0 := by
      rw [List.count_eq_zero]
      intro hm
      obtain ⟨i, hi, e⟩ := List.getElem_of_mem hm
      have h2 := h j (by omega) i hi
      have e2 : gi (gf F j) i = (gf F j)[i] := by simp [gi, hi]
      rw [e2, e] at h2
      omega
    omega
theorem gf_snoc_lt {F : List (List Int)} {x : List Int} {i : Nat} (h : i < F.length) : gf (F ++ [x]) i = gf F i := by simp [gf, List.getElem?_append_left h]
theorem gf_snoc {F : List (List Int)} {x : List Int} : gf (F ++ [x]) F.length = x := by simp [gf]
theorem tf_snoc {F : List (List Int)} {x : List Int} (i : Nat) : tf (F ++ [x]) (F.length + 1) i = tf F F.length i + x.count (i : Int) := by
  have key : ∀ j, j ≤ F.length → tf (F ++ [x]) j i = tf F j i := by
    intro j
    induction j with
    | zero => intro _; rfl
    | succ j ih => intro hj; rw [tf, tf, ih (by omega), gf_snoc_lt (by omega)]
  rw [tf, key _ (Nat.le_refl _), gf_snoc]
/-- The uses behind so many texts. -/
def UsI (u : Va) (S : List Nm × List Int) : Prop := u.pc.length ≤ S.1.length ∧ (∀ x, x ∈ S.2 → 0 ≤ x ∧ x < S.1.length) ∧ ∀ i, i < S.1.length → (gm S.1 i).fl = ((tf u.fs u.fs.length i + S.2.count (i : Int) : Nat) : Int) ∧ 1 ≤ (gm S.1 i).fl
theorem UsI.step {u : Va} (hg : GV u) {S : List Nm × List Int} (h : UsI u S) (t : ByteArray) : UsI u ((st1 S.1 t).1, S.2 ++ [((st1 S.1 t).2 : Int)]) := by
  obtain ⟨h1, h2, h3⟩ := h
  obtain ⟨k1, k2, k3, k4, -⟩ := st1_keeps (g := fun _ => none) (P := S.1) t
  refine ⟨by simp only; omega, fun x hx => ?_, fun i hi => ?_⟩
  · simp only [List.mem_append, List.mem_singleton] at hx
    rcases hx with hx | rfl
    · have := h2 x hx; simp only; omega
    · simp only; omega
  · simp only at hi ⊢
    rw [List.count_append, List.count_singleton]
    unfold st1 at hi ⊢
    cases hl : lastI S.1 S.1.length t with
    | none =>
      rw [hl] at hi
      simp only [List.length_append, List.length_singleton] at hi ⊢
      by_cases e : i = S.1.length
      · subst e
        rw [gm_last]
        have hz : tf u.fs u.fs.length S.1.length = 0 := tf_none _ (Nat.le_refl _) (fun r hr j hj => by have := ((hg.2.1 r hr).1 j hj).2; omega)
        have hc : S.2.count (S.1.length : Int) = 0 := by
          rw [List.count_eq_zero]
          intro hm
          have := (h2 _ hm).2
          omega
        rw [hz, hc]
        simp
      · obtain ⟨h4, h5⟩ := h3 i (by omega)
        rw [gm_snoc (by omega)]
        have hne : (((S.1.length : Nat) : Int) == ((i : Nat) : Int)) = false := by simp; omega
        refine ⟨?_, h5⟩
        rw [h4]
        simp [hne]
    | some j =>
      rw [hl] at hi
      simp only [List.length_set] at hi ⊢
      obtain ⟨h4, h5⟩ := h3 i hi
      obtain ⟨hj, -, -⟩ := lastI_some hl
      rw [gm_set hi]
      by_cases e : j = i
      · subst e
        rw [if_pos rfl]
        simp only [beq_self_eq_true, if_true]
        omega
      · rw [if_neg e]
        have hne : (((j : Nat) : Int) == ((i : Nat) : Int)) = false := by simp; omega
        refine ⟨?_, h5⟩
        rw [h4]
        simp [hne]
theorem UsI.all {u : Va} (hg : GV u) : ∀ (l : List ByteArray) (S : List Nm × List Int), UsI u S → UsI u (stL S l)
  | [], S, h => h
  | t :: l, S, h => by rw [stL_cons]; exact UsI.all hg l _ (h.step hg t)
/-- Every piece's text is an old one's, or one of those put. -/
theorem stL_old : ∀ (l : List ByteArray) (S : List Nm × List Int) (Q : ByteArray → Prop), (∀ i, i < S.1.length → Q (gm S.1 i).nm) → (∀ t, t ∈ l → Q t) → ∀ i, i < (stL S l).1.length → Q (gm (stL S l).1 i).nm
  | [], S, Q, h, _ => h
  | t :: l, S, Q, h, ht => by
    rw [stL_cons]
    refine stL_old l _ Q (fun i hi => ?_) (fun x hx => ht x (by simp [hx]))
    simp only at hi ⊢
    obtain ⟨k1, k2, k3, k4, k5⟩ := st1_keeps (g := fun _ => none) (P := S.1) t
    by_cases e : i < S.1.length
    · rw [k3 i e]; exact h i e
    · have e2 : i = (st1 S.1 t).2 := by
        unfold st1 at hi ⊢
        cases hl : lastI S.1 S.1.length t with
        | none => rw [hl] at hi; simp at hi ⊢; omega
        | some j => rw [hl] at hi; simp at hi; omega
      rw [e2, k5]
      exact ht t (by simp)
theorem us_start {u : Va} (hg : GV u) : UsI u (u.pc, []) := ⟨Nat.le_refl _, fun x hx => by simp at hx, fun i hi => by
  obtain ⟨-, -, h3, h4⟩ := hg.2.2 i hi
  exact ⟨by simpa using h3, h4⟩⟩
/-- What PutText leaves is good, where it is not too large. -/
theorem pt_good {u : Va} (hg : GV u) {l : List ByteArray} (hl : l.length ≤ 200) (hs : ∀ t, t ∈ l → 1 ≤ t.size ∧ t.size ≤ 24) : GV (ptV u l) ↔ (ptV u l).pc.length ≤ 100 ∧ (ptV u l).fs.length ≤ 20 := by
  refine ⟨fun h => h.1, fun h => ⟨h, fun j hj => ?_, fun i hi => ?_⟩⟩
  · have hu := UsI.all hg l (u.pc, []) (us_start hg)
    have hn := stL_len l (u.pc, [])
    unfold ptV at hj ⊢
    simp only [List.length_append, List.length_singleton] at hj ⊢
    by_cases e : j < u.fs.length
    · rw [gf_snoc_lt e]
      obtain ⟨h1, h2⟩ := hg.2.1 j e
      exact ⟨fun i hi => ⟨(h1 i hi).1, by have := (h1 i hi).2; have := hn.2.1; simp only at this; omega⟩, h2⟩
    · have : j = u.fs.length := by omega
      subst this
      rw [gf_snoc]
      refine ⟨fun i hi => ?_, by have := hn.1; simp at this; omega⟩
      have e2 : gi (stL (u.pc, []) l).2 i = (stL (u.pc, []) l).2[i] := by simp [gi, hi]
      rw [e2]
      exact hu.2.1 _ (List.getElem_mem hi)
  · have hu := UsI.all hg l (u.pc, []) (us_start hg)
    have hd := pt_dis hg l
    have ho := stL_old l (u.pc, []) (fun t => 1 ≤ t.size ∧ t.size ≤ 24) (fun i hi => (hg.2.2 i hi).1) hs
    unfold ptV at hi hd ⊢
    unfold pOk
    simp only at hi hd ⊢
    obtain ⟨h1, h2⟩ := hu.2.2 i hi
    refine ⟨ho i hi, fun j hj => hd i j hj hi, ?_, h2⟩
    rw [List.length_append, List.length_singleton, tf_snoc]
    exact h1
end Go.Proofs.Ytfphffbclpmobaa
