import Derived.Test.YtfphffbclpmobaaP5
import Derived.Test.YtfphffbclpmobaaP6
import Derived.Test.YtfphffbclpmobaaN1
/- Putting a whole text: what is left is what closed tells, and it is good where it is not too large. -/
namespace Go.Proofs.Ytfphffbclpmobaa
open Go.ChangeShapes Go.WideShapes Go.ChangeAt Go.RowKit Go.Maps
set_option linter.unusedVariables false
open Hd

/-- Pieces and parts behind so many texts. -/
def stL (S : List Nm × List Int) (l : List ByteArray) : List Nm × List Int := l.foldl (fun S t => ((st1 S.1 t).1, S.2 ++ [((st1 S.1 t).2 : Int)])) S
theorem stL_nil (S : List Nm × List Int) : stL S [] = S := rfl
theorem stL_cons (S : List Nm × List Int) (t : ByteArray) (l : List ByteArray) : stL S (t :: l) = stL ((st1 S.1 t).1, S.2 ++ [((st1 S.1 t).2 : Int)]) l := rfl
theorem stL_snoc (S : List Nm × List Int) (l : List ByteArray) (t : ByteArray) : stL S (l ++ [t]) = ((st1 (stL S l).1 t).1, (stL S l).2 ++ [((st1 (stL S l).1 t).2 : Int)]) := by simp [stL, List.foldl_append]
theorem stL_len : ∀ (l : List ByteArray) (S : List Nm × List Int), (stL S l).2.length = S.2.length + l.length ∧ S.1.length ≤ (stL S l).1.length ∧ (stL S l).1.length ≤ S.1.length + l.length
  | [], S => ⟨rfl, Nat.le_refl _, Nat.le_refl _⟩
  | t :: l, S => by
    obtain ⟨h1, h2, h3⟩ := stL_len l ((st1 S.1 t).1, S.2 ++ [((st1 S.1 t).2 : Int)])
    obtain ⟨k1, k2, -⟩ := st1_keeps (g := fun _ => none) (P := S.1) t
    rw [stL_cons]
    simp only [List.length_append, List.length_cons, List.length_nil] at h1 h2 h3 ⊢
    omega
/-- The names stay where they are. -/
theorem stL_nm : ∀ (l : List ByteArray) (S : List Nm × List Int) {i : Nat}, i < S.1.length → (gm (stL S l).1 i).nm = (gm S.1 i).nm
  | [], S, i, hi => rfl
  | t :: l, S, i, hi => by
    obtain ⟨k1, k2, k3, -⟩ := st1_keeps (g := fun _ => none) (P := S.1) t
    rw [stL_cons, stL_nm l _ (by simp only; omega), k3 i hi]
theorem stL_rep : ∀ (l : List ByteArray) (S : List Nm × List Int) {s : SG × Nat}, Rep s.1 S.1 → s.2 = S.1.length → Rep (adL s l).1 (stL S l).1 ∧ (adL s l).2 = (stL S l).1.length
  | [], S, s, h, hN => ⟨h, hN⟩
  | t :: l, S, s, h, hN => by
    obtain ⟨h1, h2⟩ := st1_rep h hN t
    rw [stL_cons]
    exact stL_rep l _ h1 h2
/-- A text's number among pieces that differ. -/
theorem nuF_at {P : List Nm} (hd : Dis P) {i : Nat} : ∀ k, i < k → k ≤ P.length → nuF P k (gm P i).nm = (i : Int) := by
  intro k
  induction k with
  | zero => intro h; omega
  | succ k ih =>
    intro h hk
    show upN (nuF P k) (gm P k).nm (k : Int) (gm P i).nm = _
    unfold upN
    by_cases e : i = k
    · subst e; rw [if_pos rfl]
    · rw [if_neg (hd k i (by omega) (by omega)), ih (by omega) (by omega)]
theorem stL_parts : ∀ (l : List ByteArray) (S : List Nm × List Int), Dis (stL S l).1 → (stL S l).2 = S.2 ++ l.map (nuF (stL S l).1 (stL S l).1.length)
  | [], S, _ => by simp [stL_nil]
  | t :: l, S, hd => by
    obtain ⟨k1, k2, k3, k4, k5⟩ := st1_keeps (g := fun _ => none) (P := S.1) t
    rw [stL_cons] at hd ⊢
    have h1 := stL_parts l _ hd
    rw [h1]
    have h2 := (stL_len l ((st1 S.1 t).1, S.2 ++ [((st1 S.1 t).2 : Int)])).2.1
    have h3 := stL_nm l ((st1 S.1 t).1, S.2 ++ [((st1 S.1 t).2 : Int)]) k4
    simp only at h2 h3
    rw [k5] at h3
    have h4 := nuF_at hd (i := (st1 S.1 t).2) _ (show (st1 S.1 t).2 < _ by omega) (Nat.le_refl _)
    rw [h3] at h4
    rw [List.map_cons, h4, List.append_assoc]
    rfl
theorem good_rep {u : Va} (hg : GV u) : Rep (oG u).1 u.pc := fun x p q => by
  constructor
  · intro h
    obtain ⟨i, hi, e⟩ := good_in hg (x := x) (by rw [h]; rfl)
    have h2 := good_at hg hi
    rw [e, h] at h2
    simp at h2
    refine ⟨i, hi, ?_, h2.1⟩
    have : gm u.pc i = ⟨(gm u.pc i).nm, (gm u.pc i).fl⟩ := rfl
    rw [this, e, h2.2]
  · rintro ⟨i, hi, e, rfl⟩
    have h2 := good_at hg hi
    rw [e] at h2
    exact h2
theorem good_num {u : Va} (hg : GV u) : (oG u).2 = u.pc.length := by
  have h1 := (adF_is u.pc u.fs u.fs.length (Nat.le_refl _) hg.2.1).1
  rw [oG, h1]
  have hd := good_dis hg
  have key : ∀ k, k ≤ u.pc.length → (g1 u.pc k).2 = k := by
    intro k
    induction k with
    | zero => intro _; rfl
    | succ k ih =>
      intro hk
      show (if ((g1 u.pc k).1 (gm u.pc k).nm).isSome then (g1 u.pc k).2 else (g1 u.pc k).2 + 1) = _
      rw [g1_is, ih (by omega)]
      cases hl : lastI u.pc k (gm u.pc k).nm with
      | none => rfl
      | some i =>
        obtain ⟨hi, e, -⟩ := lastI_some hl
        exact absurd e (hd k i hi (by omega))
  exact key _ (Nat.le_refl _)
/-- What PutText leaves of a good vault, where it is not too large. -/
def ptV (u : Va) (l : List ByteArray) : Va := ⟨(stL (u.pc, []) l).1, u.fs ++ [(stL (u.pc, []) l).2]⟩
theorem pt_dis {u : Va} (hg : GV u) (l : List ByteArray) : Dis (ptV u l).pc := (stL_rep l (u.pc, []) (good_rep hg) (good_num hg)).1.dis
/-- The program's files, numbered, are the specification's. -/
theorem pt_files {u : Va} (hg : GV u) (l : List ByteArray) : clF (ptV u l).pc (fsT u ++ [l]) = (ptV u l).fs := by
  have hd := pt_dis hg l
  have hn := stL_len l (u.pc, [])
  have hnm := @stL_nm l (u.pc, [])
  have hp := stL_parts l (u.pc, []) hd
  unfold ptV at hd ⊢
  simp only at hd hp hn hnm ⊢
  rw [hp]
  generalize (stL (u.pc, []) l).1 = P at *
  unfold clF
  rw [List.map_append]
  congr 1
  unfold fsT
  rw [List.map_map]
  refine List.ext_getElem (by simp) fun j h1 h2 => ?_
  have hj : j < u.fs.length := by simpa using h1
  have hf := hg.2.1 j hj
  have e : gf u.fs j = u.fs[j] := by simp [gf, hj]
  rw [e] at hf
  simp only [List.getElem_map, Function.comp]
  unfold txs
  rw [List.map_map]
  refine List.ext_getElem (by simp) fun i h3 h4 => ?_
  have hi : i < u.fs[j].length := by simpa using h3
  obtain ⟨p1, p2⟩ := hf.1 i hi
  have e2 : gi u.fs[j] i = u.fs[j][i] := by simp [gi, hi]
  rw [e2] at p1 p2
  simp only [List.getElem_map, Function.comp]
  have hlt : (u.fs[j][i]).toNat < u.pc.length := by omega
  rw [← hnm hlt, nuF_at hd _ (by omega) (Nat.le_refl _)]
  omega
end Go.Proofs.Ytfphffbclpmobaa
