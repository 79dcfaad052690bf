import Derived.Test.YtfmgaenedkjmkaaU3
/- A directory's slots doubled, its buckets cut by the program, of no program. -/
namespace Go.Proofs.Ytfmgaenedkjmkaa.Hd
set_option linter.unusedVariables false

/-- Each slot means a bucket that is there. -/
def Bd (d : Dr) : Prop := ∀ i, i < d.sl.length → 0 ≤ gi d.sl i ∧ gi d.sl i < (d.bs.length : Int)
theorem Cn.bd {d : Dr} (h : Cn d) : Bd d := fun i hi => ⟨(h.1 i hi).1, h.lt hi⟩
def dbl (d : Dr) : Dr := ⟨d.dp + 1, d.sl ++ d.sl, d.bs⟩
theorem dbl_gi {d : Dr} {p : Nat} (hn : d.sl.length = 2 ^ p) {i : Nat} (hi : i < d.sl.length + d.sl.length) : gi (d.sl ++ d.sl) i = gi d.sl (low i p) := by
  unfold gi low
  rw [← hn]
  by_cases h : i < d.sl.length
  · rw [Nat.mod_eq_of_lt h]; simp [List.getD_eq_getElem?_getD, List.getElem?_append_left h]
  · have e : i % d.sl.length = i - d.sl.length := by rw [Nat.mod_eq_sub_mod (by omega), Nat.mod_eq_of_lt (by omega)]
    rw [e]; simp [List.getD_eq_getElem?_getD, List.getElem?_append_right (show d.sl.length ≤ i by omega)]
theorem dbl_vb {d : Dr} (hn : d.sl.length = 2 ^ d.dp.toNat) {i : Nat} (hi : i < d.sl.length + d.sl.length) : vb (dbl d) i = vb d (low i d.dp.toNat) := by unfold vb dbl; simp only; rw [dbl_gi hn hi]
theorem dbl_rl {d : Dr} (hn : d.sl.length = 2 ^ d.dp.toNat) (hb : ∀ i, i < d.sl.length → (vb d i).dp ≤ d.dp) (h : Rl d) : Rl (dbl d) := by
  intro i j hi hj
  have hi' : i < d.sl.length + d.sl.length := by simpa [dbl] using hi
  have hj' : j < d.sl.length + d.sl.length := by simpa [dbl] using hj
  have li : low i d.dp.toNat < d.sl.length := by rw [hn]; exact low_lt _ _
  have lj : low j d.dp.toNat < d.sl.length := by rw [hn]; exact low_lt _ _
  rw [dbl_vb hn hi']
  show gi (d.sl ++ d.sl) i = gi (d.sl ++ d.sl) j ↔ _
  have hq := hb _ li
  rw [dbl_gi hn hi', dbl_gi hn hj', h _ _ li lj, low_low (by omega), low_low (by omega)]
theorem dbl_bd {d : Dr} {p : Nat} (hn : d.sl.length = 2 ^ p) (h : Bd d) : Bd (dbl d) := by
  intro i hi
  have hi' : i < d.sl.length + d.sl.length := by simpa [dbl] using hi
  show 0 ≤ gi (d.sl ++ d.sl) i ∧ gi (d.sl ++ d.sl) i < _
  rw [dbl_gi hn hi']
  exact h _ (by rw [hn]; exact low_lt _ _)
theorem dbl_cn {d : Dr} {p : Nat} (hn : d.sl.length = 2 ^ p) (h : Cn d) : Cn (dbl d) := by
  have key : ∀ i, i ≤ d.sl.length + d.sl.length → sn (d.sl ++ d.sl) i = if i ≤ d.sl.length then sn d.sl i else sn d.sl d.sl.length := by
    intro i
    induction i with
    | zero => intro _; simp [sn]
    | succ i ih =>
      intro hi
      rw [sn, ih (by omega), dbl_gi hn (by omega)]
      by_cases q : i < d.sl.length
      · have e : low i p = i := Nat.mod_eq_of_lt (by rw [← hn]; exact q)
        rw [if_pos (by omega : i ≤ d.sl.length), if_pos (by omega : i + 1 ≤ d.sl.length), e, sn]
      · have hl : low i p < d.sl.length := by rw [hn]; exact low_lt _ _
        have hlt := h.ahead (Nat.le_refl _) hl
        have e : (if i ≤ d.sl.length then sn d.sl i else sn d.sl d.sl.length) = sn d.sl d.sl.length := by
          split
          · rw [show i = d.sl.length by omega]
          · rfl
        rw [e, if_neg (by omega), if_neg (by omega)]
  refine ⟨fun i hi => ?_, ?_⟩
  · have hi' : i < d.sl.length + d.sl.length := by simpa [dbl] using hi
    show 0 ≤ gi (d.sl ++ d.sl) i ∧ gi (d.sl ++ d.sl) i ≤ (sn (d.sl ++ d.sl) i : Nat)
    have hl : low i p < d.sl.length := by rw [hn]; exact low_lt _ _
    rw [key i (by omega), dbl_gi hn hi']
    refine ⟨(h.1 _ hl).1, ?_⟩
    split
    · by_cases q : i = d.sl.length
      · have h5 := h.ahead (Nat.le_refl _) hl
        have h6 : sn d.sl i = sn d.sl d.sl.length := by rw [q]
        omega
      · rw [show low i p = i from Nat.mod_eq_of_lt (by rw [← hn]; omega)]
        exact (h.1 i (by omega)).2
    · have := h.ahead (Nat.le_refl _) hl; omega
  · show sn (d.sl ++ d.sl) (d.sl ++ d.sl).length = d.bs.length
    have h0 := Nat.two_pow_pos p
    rw [List.length_append, key _ (Nat.le_refl _), if_neg (by omega)]
    exact h.2
theorem dbl_gs {d : Dr} (h : GS d) (hlt : d.dp < 8) : GS (dbl d) := by
  obtain ⟨g, r, c⟩ := gs_view.1 h
  have hn : d.sl.length = 2 ^ d.dp.toNat := g.2.2.1
  refine gs_view.2 ⟨?_, dbl_rl hn (fun i hi => (g.2.2.2 i hi).2.1) r, dbl_cn hn c⟩
  have := gv_dbl g hlt
  have e : (dbl d).sl.length = d.sl.length + d.sl.length := by simp [dbl]
  show GV (d.dp + 1) (dbl d).sl.length (vb (dbl d))
  rw [e]
  obtain ⟨q1, q2, q3, q4⟩ := this
  refine ⟨q1, q2, q3, fun i hi => ?_⟩
  obtain ⟨a, b, c, f, z⟩ := q4 i hi
  rw [dbl_vb hn hi]
  refine ⟨a, b, c, f, fun j hj ej => ?_⟩
  rw [dbl_vb hn hj]
  exact z j hj ej
end Go.Proofs.Ytfmgaenedkjmkaa.Hd
