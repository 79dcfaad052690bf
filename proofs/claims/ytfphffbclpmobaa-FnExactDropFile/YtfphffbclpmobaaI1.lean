import Derived.Test.YtfphffbclpmobaaC3
import Derived.Test.YtfphffbclpmobaaP8
import Derived.Test.YtfphffbclpmobaaD1
import Derived.Test.YtfphffbclpmobaaM5
/- impl.PutText. -/
namespace Go.Proofs.Ytfphffbclpmobaa
open Go.ChangeShapes Go.WideShapes Go.ChangeAt Go.RowKit Go.Maps
set_option linter.unusedVariables false
open Hd

attribute [local go_sem] Oper.semAt_some

/-- Whether a text can be put. -/
def ptOk (u : Va) (s : ByteArray) : Prop := GV u ∧ s.size ≤ 400 ∧ GV (ptV u (paR s))
def vz : Va := ⟨[], []⟩
/-- What PutText tells. -/
def ptR (u : Va) (s : ByteArray) (D : Va) (O : Bool) : Prop := (ptOk u s ∧ D = ptV u (paR s) ∧ O = true) ∨ (¬ ptOk u s ∧ D = vz ∧ O = false)
theorem ptR_ex (u : Va) (s : ByteArray) : ∃ D O, ptR u s D O := by
  by_cases h : ptOk u s
  · exact ⟨_, _, .inl ⟨h, rfl, rfl⟩⟩
  · exact ⟨_, _, .inr ⟨h, rfl, rfl⟩⟩
theorem vz_own {w : World} {B C : Nat} (h : B ≤ C) : VOwn w B C (vv none 0 0 none 0 0) vz :=
  ⟨none, 0, .slice none 0 0, 0, C, 0, rfl, Nat.le_refl _, h, Nat.zero_le _, .inr (Nat.le_refl _), NB.nil, FOwn.nil⟩
theorem gs_mem {l : List ByteArray} {i : Nat} (h : i < l.length) : gs l i ∈ l := by
  have : gs l i = l[i] := by simp [gs, h]
  rw [this]
  exact List.getElem_mem h
theorem mem_gs {l : List ByteArray} {t : ByteArray} (h : t ∈ l) : ∃ i, i < l.length ∧ gs l i = t := by
  obtain ⟨i, hi, e⟩ := List.getElem_of_mem h
  exact ⟨i, hi, by rw [← e]; simp [gs, hi]⟩
/-- A block laid later is apart from the rows. -/
theorem FRow.fresh {w : World} {lo e1 e2 ob : Nat} {y : Value} {F : List (List ByteArray)} (h : FRow w lo e1 e2 y F) (ho : w.heap.size ≤ ob) : FRow w lo ob e2 y F := by
  have hlt := h.lt
  obtain ⟨vs, h1, h2, h3⟩ := h
  refine ⟨vs, h1, fun k hk => ⟨by have := hlt k hk; omega, (h2 k hk).2⟩, fun i hi => ?_⟩
  obtain ⟨v, g1, a, c, g2, g3, g4⟩ := h3 i hi
  refine ⟨v, g1, a, c, g2, g3, fun hn => ?_⟩
  obtain ⟨b, off, p1, p2, p3, p4, p5, p6⟩ := g4 hn
  have := lt_of_cell (p6 0 (by omega))
  exact ⟨b, off, p1, p2, by omega, p4, p5, p6⟩
theorem gt_len (F : List (List ByteArray)) (x : List ByteArray) (i : Nat) (hi : i < (F ++ [x]).length) : (i < F.length ∧ gt (F ++ [x]) i = gt F i) ∨ gt (F ++ [x]) i = x := by
  simp only [List.length_append, List.length_singleton] at hi
  by_cases e : i < F.length
  · exact .inl ⟨e, gt_snoc_lt e⟩
  · have : i = F.length := by omega
    subst this
    exact .inr gt_snoc
theorem few_put {u : Va} (hg : GV u) (s : ByteArray) : FewT (fsT u ++ [paR s]) := by
  obtain ⟨p1, p2⟩ := paR_fits s
  refine ⟨by rw [List.length_append, fsT_len]; have := hg.1.2; simp; omega, fun i hi => ?_⟩
  rcases gt_len _ _ i hi with ⟨h1, h2⟩ | h2
  · rw [h2]
    rw [fsT_len] at h1
    rw [fsT_at u h1]
    have hf := hg.2.1 i h1
    refine ⟨by rw [txs_len]; have := hf.2; omega, fun k hk => ?_⟩
    rw [txs_len] at hk
    rw [txs_at _ hk]
    have h3 := hf.1 k hk
    have := (hg.2.2 (gi (gf u.fs i) k).toNat (by omega)).1.2
    unfold maxLen
    omega
  · rw [h2]
    exact ⟨by omega, fun k hk => by have := (p2 k hk).2; unfold maxLen; omega⟩
end Go.Proofs.Ytfphffbclpmobaa
