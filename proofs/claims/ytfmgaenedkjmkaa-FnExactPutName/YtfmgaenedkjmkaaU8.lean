import Derived.Test.YtfmgaenedkjmkaaU7
/- A name put into a bucket, of no program. -/
namespace Go.Proofs.Ytfmgaenedkjmkaa.Hd
set_option linter.unusedVariables false

theorem mem_take_ns {l : List Nm} {k : Nat} {y : Nm} (h : y ∈ l.take k) : ∃ i, i < k ∧ i < l.length ∧ gm l i = y := by
  obtain ⟨i, hi, rfl⟩ := List.mem_iff_getElem.1 h
  have h1 : i < k := by simp at hi; omega
  have h2 : i < l.length := by simp at hi; omega
  exact ⟨i, h1, h2, by rw [gm_eq h2]; simp⟩
theorem mem_drop_ns {l : List Nm} {k : Nat} {y : Nm} (h : y ∈ l.drop k) : ∃ i, k ≤ i ∧ i < l.length ∧ gm l i = y := by
  obtain ⟨i, hi, rfl⟩ := List.mem_iff_getElem.1 h
  have h2 : k + i < l.length := by simp at hi; omega
  exact ⟨k + i, by omega, h2, by rw [gm_eq h2]; simp⟩
theorem put_ok {q p k : Nat} {l : List Nm} {x : Nm} (h : okL q p l) (hk : AtN l x.nm k) (h1 : isN x.nm = true) (h2 : isF x.fl = true) (h3 : low (nh x.nm) q = p) (hr : hasN l x.nm k = true ∨ l.length < 4) : okL q p (putL l x k) := by
  obtain ⟨a, b, c⟩ := h
  have hris := so_ris.1 b
  obtain ⟨k1, k2, k3⟩ := hk
  have hle : hasN l x.nm k = true → k < l.length ∧ (gm l k).nm = x.nm := fun e => by unfold hasN at e; simpa using e
  have hD : ∀ y, y ∈ l.drop (bif hasN l x.nm k then k + 1 else k) → les x.nm y.nm = true := by
    intro y hy
    obtain ⟨i, e1, e2, rfl⟩ := mem_drop_ns hy
    by_cases z : hasN l x.nm k = true
    · obtain ⟨z1, z2⟩ := hle z
      rw [z] at e1
      simp only [cond_true] at e1
      rw [← z2]
      exact ris_lt hris (by omega) e2
    · have z' : hasN l x.nm k = false := by simpa using z
      rw [z'] at e1
      simp only [cond_false] at e1
      have z4 : ¬ (gm l k).nm = x.nm := fun e => by
        apply z
        unfold hasN
        simp [e]
        omega
      have z5 : les x.nm (gm l k).nm = true := by
        rcases les_tri x.nm (gm l k).nm with w | w | w
        · exact w
        · exact absurd w.symm z4
        · rw [k3 (by omega)] at w; cases w
      by_cases y : i = k
      · rw [y]; exact z5
      · exact les_trans z5 (ris_lt hris (by omega) e2)
  have hA : ∀ y, y ∈ l.take k → les y.nm x.nm = true := by
    intro y hy
    obtain ⟨i, e1, e2, rfl⟩ := mem_take_ns hy
    exact k2 i e1
  refine ⟨?_, ?_, ?_⟩
  · unfold putL
    rcases hr with e | e
    · have := (hle e).1
      rw [e]; simp; omega
    · cases hasN l x.nm k <;> simp <;> omega
  · unfold putL
    show List.Pairwise _ _
    rw [List.append_assoc, List.pairwise_append]
    refine ⟨b.sublist (List.take_sublist _ _), ?_, fun y hy z hz => ?_⟩
    · rw [List.singleton_append, List.pairwise_cons]
      exact ⟨hD, b.sublist (List.drop_sublist _ _)⟩
    · rw [List.singleton_append, List.mem_cons] at hz
      rcases hz with rfl | hz
      · exact hA y hy
      · exact les_trans (hA y hy) (hD z hz)
  · intro y hy
    unfold putL at hy
    rw [List.append_assoc, List.mem_append, List.singleton_append, List.mem_cons] at hy
    rcases hy with hy | rfl | hy
    · exact c y (List.mem_of_mem_take hy)
    · exact ⟨h1, h2, h3⟩
    · exact c y (List.mem_of_mem_drop hy)
/-- A directory with other names in one bucket. -/
def pD (d : Dr) (j : Nat) (R : List Nm) : Dr := ⟨d.dp, d.sl, d.bs.set j ⟨(gb d.bs j).dp, R⟩⟩
theorem pD_vb {d : Dr} {j i : Nat} {R : List Nm} (hB : Bd d) (hj : j < d.bs.length) (hi : i < d.sl.length) : vb (pD d j R) i = if gi d.sl i = (j : Int) then ⟨(gb d.bs j).dp, R⟩ else vb d i := by
  obtain ⟨b0, b1⟩ := hB i hi
  unfold vb pD gb
  simp only [List.getD_eq_getElem?_getD]
  by_cases e : gi d.sl i = (j : Int)
  · rw [if_pos e, e]
    simp [hj]
  · rw [if_neg e, List.getElem?_set_ne (by omega)]
theorem pD_dp {d : Dr} {j i : Nat} {R : List Nm} (hB : Bd d) (hj : j < d.bs.length) (hi : i < d.sl.length) : (vb (pD d j R) i).dp = (vb d i).dp := by
  rw [pD_vb hB hj hi]
  split
  · next e => unfold vb; rw [e]; rfl
  · rfl
theorem GU.put {d : Dr} (h : GU d) {i0 k q : Nat} {R : List Nm} (hi0 : i0 < d.sl.length) (hk : gi d.sl i0 = (k : Int)) (hq : (vb d i0).dp = (q : Int)) (hR : okL q (low i0 q) R) : GU (pD d k R) := by
  have hb := h.b i0 hi0
  rw [hk] at hb
  have hj : k < d.bs.length := by omega
  have hv : vb d i0 = gb d.bs k := by unfold vb; rw [hk]; rfl
  have hq' : (gb d.bs k).dp = (q : Int) := by rw [← hv]; exact hq
  refine ⟨?_, fun i j hi hj' => ?_, fun i hi => ?_⟩
  · show GV d.dp d.sl.length _
    rw [gv_is]
    obtain ⟨g1, g2, g3, g4⟩ := gv_is.1 h.g
    refine ⟨g1, g2, g3, fun i hi => ?_⟩
    obtain ⟨a, b, c, f⟩ := g4 i hi
    rw [pD_dp h.b hj hi]
    refine ⟨a, b, ?_, fun j hj' e => ?_⟩
    · rw [pD_vb h.b hj hi]
      split
      · next e =>
        have e2 : vb d i = gb d.bs k := by unfold vb; rw [e]; rfl
        have e3 : (vb d i).dp.toNat = q := by rw [e2, hq']; rfl
        have e4 := (h.r i0 i hi0 hi).1 (by rw [hk, e])
        have e5 : (vb d i0).dp.toNat = q := by rw [hq]; rfl
        rw [e5] at e4
        rw [e3, ← e4]
        exact hR
      · exact c
    · have e1 := f j hj' e
      have e2 := (h.r i j hi hj').2 e
      rw [pD_vb h.b hj hi, pD_vb h.b hj hj', e2, e1]
  · rw [pD_dp h.b hj hi]
    exact h.r i j hi hj'
  · have := h.b i hi
    simpa [pD] using this
theorem GS.put {d : Dr} (h : GS d) {i0 k q : Nat} {R : List Nm} (hi0 : i0 < d.sl.length) (hk : gi d.sl i0 = (k : Int)) (hq : (vb d i0).dp = (q : Int)) (hR : okL q (low i0 q) R) : GS (pD d k R) := by
  have u := h.gu.put hi0 hk hq hR
  refine gs_view.2 ⟨u.g, u.r, h.cn.1, ?_⟩
  have := h.cn.2
  simpa [pD] using this
theorem Way.put {d e : Dr} (h : Way d e) {i0 k k' q : Nat} {R : List Nm} (hi0 : i0 < d.sl.length) (hk : gi d.sl i0 = (k : Int)) (hk' : gi e.sl i0 = (k' : Int)) (hq : (vb d i0).dp = (q : Int)) (hR : okL q (low i0 q) R) : Way (pD d k R) (pD e k' R) := by
  have hl := h.ln
  have hi1 : i0 < e.sl.length := by omega
  have hb := h.u.b i0 hi0
  rw [hk] at hb
  have hb' := h.s.gu.b i0 hi1
  rw [hk'] at hb'
  refine ⟨h.u.put hi0 hk hq hR, h.s.put hi1 hk' (by rw [← h.vw i0 hi0]; exact hq) hR, h.dp, h.ln, fun i hi => ?_⟩
  have hi' : i < d.sl.length := hi
  rw [pD_vb h.u.b (by omega) hi', pD_vb h.s.gu.b (by omega) (by omega)]
  have e1 : gi d.sl i = (k : Int) ↔ gi e.sl i = (k' : Int) := by
    have r1 := h.u.r i0 i hi0 hi'
    have r2 := h.s.rl i0 i hi1 (by omega)
    rw [hk] at r1
    rw [hk', ← h.vw i0 hi0] at r2
    exact ⟨fun x => (r2.2 (r1.1 x.symm)).symm, fun x => (r1.2 (r2.1 x.symm)).symm⟩
  have e2 : (gb d.bs k).dp = (gb e.bs k').dp := by
    have := h.vw i0 hi0
    unfold vb at this
    rw [hk, hk'] at this
    exact congrArg Bk.dp this
  by_cases z : gi d.sl i = (k : Int)
  · rw [if_pos z, if_pos (e1.1 z), e2]
  · rw [if_neg z, if_neg (fun y => z (e1.2 y))]
    exact h.vw i hi'
end Go.Proofs.Ytfmgaenedkjmkaa.Hd
