import Derived.Test.YtodidnbghiinkaaP2
/- Tokens read one by one from what is left of a text. -/
namespace Go.Proofs.Ytodidnbghiinkaa.Tz
set_option linter.unusedVariables false

/-- What is left of a text. -/
def rst (s : ByteArray) (p : Nat) : ByteArray := s.extract p s.size
theorem rst_size {s : ByteArray} {p : Nat} (h : p ≤ s.size) : (rst s p).size = s.size - p := by rw [rst, ByteArray.size_extract]; omega
theorem bt_rst (s : ByteArray) (p : Nat) : bt (rst s p) = (bt s).drop p := by
  rw [rst, bt_cut, ← bt_len s, List.take_length]
theorem ch_rst (s : ByteArray) (p j : Nat) : ch (rst s p) j = ch s (p + j) := by
  unfold ch; rw [bt_rst, getD_drop]
theorem rst_cut {s : ByteArray} {p a b : Nat} : (rst s p).extract a b = s.extract (p + a) (p + b) := by
  apply bt_ext
  rw [bt_cut, bt_rst, bt_cut, List.take_drop, List.drop_drop]
theorem rst_rst {s : ByteArray} {p a : Nat} (h : p ≤ s.size) : (rst s p).extract a (rst s p).size = rst s (p + a) := by
  rw [rst_cut, rst_size h, rst, show p + (s.size - p) = s.size by omega]
theorem rst_zero (s : ByteArray) : rst s 0 = s := by
  apply bt_ext; rw [bt_rst]; rfl
/-- The first token of a text that has bytes. -/
def fstT (r : ByteArray) : Tk :=
  if (ch r 0).toNat < 64 then (if r.size < (ch r 0).toNat + 2 then tk0 else ⟨r.extract 1 ((ch r 0).toNat + 2), 0, 0⟩)
  else (if r.size < 2 then tk0 else ⟨⟨#[]⟩, ((ch r 1).toNat : Int), (((ch r 0).toNat - 61 : Nat) : Int)⟩)
def fstL (r : ByteArray) : Nat := if (ch r 0).toNat < 64 then (ch r 0).toNat + 2 else 2
theorem fstL_le (r : ByteArray) : 2 ≤ fstL r ∧ fstL r ≤ 65 := by unfold fstL; split <;> omega
theorem ups_fst {s : ByteArray} {l : List Tk} {p : Nat} (h : p < s.size) : ups s (l, p) = if (rst s p).size < fstL (rst s p) then none else some (l ++ [fstT (rst s p)], p + fstL (rst s p)) := by
  have h0 : ch (rst s p) 0 = ch s p := by rw [ch_rst]; rfl
  have h1 : ch (rst s p) 1 = ch s (p + 1) := ch_rst s p 1
  have hz := rst_size (s := s) (p := p) (by omega)
  unfold ups fstL fstT
  simp only
  rw [if_pos h, h0, h1, hz]
  split
  · split
    · rfl
    · rw [rst_cut, show p + ((ch s p).toNat + 2) = p + (ch s p).toNat + 2 by omega]
  · split
    · rfl
    · rfl
theorem fstT_fit (r : ByteArray) : (fstT r).p.size ≤ r.size ∧ 0 ≤ (fstT r).d ∧ (fstT r).d ≤ 255 ∧ 0 ≤ (fstT r).n ∧ (fstT r).n ≤ 194 := by
  have h0 := (ch r 0).toNat_lt
  have h1 := (ch r 1).toNat_lt
  have hz : (⟨#[]⟩ : ByteArray).size = 0 := rfl
  unfold fstT
  split
  · split
    · exact ⟨Nat.zero_le _, by decide, by decide, by decide, by decide⟩
    · refine ⟨?_, by simp, by simp, by simp, by simp⟩
      show (r.extract 1 _).size ≤ _
      rw [ByteArray.size_extract]; omega
  · split
    · exact ⟨Nat.zero_le _, by decide, by decide, by decide, by decide⟩
    · refine ⟨Nat.zero_le _, by simp, by simp; omega, by simp, by simp; omega⟩
/-- What is read fits. -/
def Fit (s : ByteArray) (l : List Tk) : Prop := ∀ i, i < l.length → (gt l i).p.size ≤ s.size ∧ 0 ≤ (gt l i).d ∧ (gt l i).d ≤ 255 ∧ 0 ≤ (gt l i).n ∧ (gt l i).n ≤ 194
theorem Fit.snoc {s : ByteArray} {l : List Tk} {p : Nat} (h : Fit s l) (hp : p ≤ s.size) : Fit s (l ++ [fstT (rst s p)]) := by
  intro i hi
  rw [List.length_append, List.length_singleton] at hi
  by_cases e : i = l.length
  · subst e
    rw [gt_last]
    have := fstT_fit (rst s p)
    rw [rst_size hp] at this
    omega
  · rw [gt_app (by omega)]; exact h i (by omega)
/-- What stands on the way: so many tokens, all that is read. -/
structure Rd (s : ByteArray) (l : List Tk) (p : Nat) : Prop where
  k : ∃ k, upr s k = some (l, p) ∧ k ≤ p
  le : p ≤ s.size
  len : 2 * l.length ≤ p
  fit : Fit s l
theorem Rd.zero (s : ByteArray) : Rd s [] 0 := ⟨⟨0, rfl, Nat.le_refl _⟩, Nat.zero_le _, Nat.le_refl _, fun i hi => absurd hi (by simp)⟩
theorem Rd.step {s : ByteArray} {l : List Tk} {p : Nat} (h : Rd s l p) (hp : p < s.size) (hl : ¬ (rst s p).size < fstL (rst s p)) : Rd s (l ++ [fstT (rst s p)]) (p + fstL (rst s p)) := by
  obtain ⟨k, hk, hkp⟩ := h.k
  have hz := rst_size (s := s) (p := p) h.le
  have h2 := fstL_le (rst s p)
  refine ⟨⟨k + 1, ?_, by omega⟩, by omega, by have := h.len; simp; omega, h.fit.snoc h.le⟩
  rw [upr, hk, Option.bind_some, ups_fst hp, if_neg hl]
theorem Rd.none {s : ByteArray} {l : List Tk} {p : Nat} (h : Rd s l p) (hp : p < s.size) (hl : (rst s p).size < fstL (rst s p)) : unp s = ([], false) := by
  obtain ⟨k, hk, hkp⟩ := h.k
  unfold unp
  rw [upA_none hk hp (by rw [ups_fst hp, if_pos hl])]
theorem Rd.fin {s : ByteArray} {l : List Tk} {p : Nat} (h : Rd s l p) (hp : ¬ p < s.size) : unp s = if good l = true then (l, true) else ([], false) := by
  obtain ⟨k, hk, hkp⟩ := h.k
  have hle := h.le
  unfold unp
  rw [upA_end hk hp (by omega)]
theorem unp_len (s : ByteArray) (h : s.size ≤ 1048576) : (unp s).1.length ≤ 1000000 := by
  by_cases hl : 610 < s.size
  · rw [unp_long hl]; simp
  · unfold unp
    split
    · simp
    · rename_i l hl'
      unfold upA at hl'
      obtain ⟨x, hx, rfl⟩ := Option.map_eq_some_iff.1 hl'
      have := (upr_more s s.size x hx).2.2
      split
      · show x.1.length ≤ _; omega
      · simp
end Go.Proofs.Ytodidnbghiinkaa.Tz
