/- Pieces of a text, of no program: hashes of windows, places where a text is cut. -/
namespace Go.Proofs.Ytfphffbclpmobaa.Hd
set_option linter.unusedVariables false

/-- A kept text with its uses. -/
structure Nm where
  nm : ByteArray
  fl : Int
def nm0 : Nm := ⟨⟨#[]⟩, 0⟩
/-- The int, the kept text, the text, the file at a place of a list. -/
def gi (l : List Int) (i : Nat) : Int := l.getD i 0
def gm (l : List Nm) (i : Nat) : Nm := l.getD i nm0
def gs (l : List ByteArray) (i : Nat) : ByteArray := l.getD i ⟨#[]⟩
def gf (l : List (List Int)) (i : Nat) : List Int := l.getD i []
theorem gi_eq {l : List Int} {i : Nat} (h : i < l.length) : gi l i = l[i] := by simp [gi, h]
theorem gm_eq {l : List Nm} {i : Nat} (h : i < l.length) : gm l i = l[i] := by simp [gm, h]
theorem gs_eq {l : List ByteArray} {i : Nat} (h : i < l.length) : gs l i = l[i] := by simp [gs, h]
theorem gf_eq {l : List (List Int)} {i : Nat} (h : i < l.length) : gf l i = l[i] := by simp [gf, h]
/-- A text's bytes. -/
abbrev bt (s : ByteArray) : List UInt8 := s.data.toList

/-- The hash of a text. -/
def hs (l : List UInt8) : Nat := l.foldl (fun h b => (31 * h + b.toNat) % 4093) 0
theorem hs_lt (l : List UInt8) : hs l < 4093 := by
  have key : ∀ (l : List UInt8) h, h < 4093 → l.foldl (fun h b => (31 * h + b.toNat) % 4093) h < 4093 := by
    intro l
    induction l with
    | nil => intro h hh; exact hh
    | cons b l ih => intro h hh; exact ih _ (Nat.mod_lt _ (by omega))
  exact key l 0 (by omega)
theorem hs_snoc (l : List UInt8) (b : UInt8) : hs (l ++ [b]) = (31 * hs l + b.toNat) % 4093 := by simp [hs, List.foldl_append]
/-- A text's byte, four zeros ahead of it. -/
def pd (s : ByteArray) (k : Nat) : Nat := if k < 4 then 0 else ((bt s).getD (k - 4) 0).toNat
theorem pd_lt (s : ByteArray) (k : Nat) : pd s k < 256 := by
  unfold pd
  split
  · omega
  · exact UInt8.toNat_lt _
/-- Rolled on to the end of so many bytes. -/
def rl (s : ByteArray) : Nat → Nat
  | 0 => 0
  | k + 1 => ((31 * rl s k + pd s (k + 4)) % 4093 + 4093 - pd s k * 923521 % 4093) % 4093
/-- The hash of four bytes at once. -/
def p4 (a b c d : Nat) : Nat := (29791 * a + 961 * b + 31 * c + d) % 4093
theorem p4_roll (a b c d e : Nat) : ((31 * p4 a b c d + e) % 4093 + 4093 - a * 923521 % 4093) % 4093 = p4 b c d e := by
  unfold p4
  omega
theorem rl_is (s : ByteArray) : ∀ k, rl s k = p4 (pd s k) (pd s (k + 1)) (pd s (k + 2)) (pd s (k + 3)) := by
  intro k
  induction k with
  | zero => simp [rl, p4, pd]
  | succ k ih => rw [rl, ih, p4_roll]
theorem rl_lt (s : ByteArray) (k : Nat) : rl s k < 4093 := by rw [rl_is]; exact Nat.mod_lt _ (by omega)
theorem hs_four (a b c d : UInt8) : hs [a, b, c, d] = p4 a.toNat b.toNat c.toNat d.toNat := by
  simp only [hs, List.foldl, p4]
  omega
/-- The hash of the last four bytes. -/
theorem rl_win (s : ByteArray) (k : Nat) (h : k + 4 ≤ s.size) : rl s (k + 4) = hs (bt (s.extract k (k + 4))) := by
  have hb : (bt s).length = s.size := rfl
  have e : bt (s.extract k (k + 4)) = [(bt s)[k]'(by omega), (bt s)[k + 1]'(by omega), (bt s)[k + 2]'(by omega), (bt s)[k + 3]'(by omega)] := by
    apply List.ext_getElem
    · show (s.extract k (k + 4)).size = 4
      rw [ByteArray.size_extract]; omega
    · intro i h1 h2
      have hi : i < 4 := h2
      have : (bt (s.extract k (k + 4)))[i] = (bt s)[k + i]'(by omega) := by
        unfold bt
        simp [ByteArray.data_extract]
      rw [this]
      rcases (show i = 0 ∨ i = 1 ∨ i = 2 ∨ i = 3 by omega) with rfl | rfl | rfl | rfl <;> rfl
  rw [e, hs_four, rl_is]
  have q : ∀ j, (hj : k + j < (bt s).length) → pd s (k + 4 + j) = ((bt s)[k + j]).toNat := by
    intro j hj
    unfold pd
    rw [if_neg (by omega), show k + 4 + j - 4 = k + j by omega]
    rw [List.getD_eq_getElem?_getD, List.getElem?_eq_getElem hj]
    rfl
  rw [show pd s (k + 4) = _ from q 0 (by omega), show pd s (k + 4 + 1) = _ from q 1 (by omega), show pd s (k + 4 + 2) = _ from q 2 (by omega), show pd s (k + 4 + 3) = _ from q 3 (by omega)]
  rfl
/-- Whether a piece that began at one place ends behind k + 1 bytes. -/
def cutB (s : ByteArray) (from_ k : Nat) : Bool :=
  decide (k + 1 = s.size) || decide (k + 1 - from_ = 24) || (decide (4 ≤ k + 1) && (decide (3 ≤ k + 1 - from_) && decide (rl s (k + 1) % 7 = 0)))
/-- The places of the first k bytes, and where the last piece begins. -/
def cu (s : ByteArray) : Nat → List Int × Nat
  | 0 => ([], 0)
  | k + 1 => if cutB s (cu s k).2 k then ((cu s k).1 ++ [((k + 1 : Nat) : Int)], k + 1) else cu s k
theorem cu_from (s : ByteArray) (k : Nat) : (cu s k).2 ≤ k := by
  induction k with
  | zero => exact Nat.le_refl _
  | succ k ih => rw [cu]; split
                 · exact Nat.le_refl _
                 · omega
theorem cu_len (s : ByteArray) (k : Nat) : (cu s k).1.length ≤ k := by
  induction k with
  | zero => exact Nat.le_refl _
  | succ k ih => rw [cu]; split
                 · simp; omega
                 · omega
/-- The places where a text is cut. -/
def cuts (s : ByteArray) : List Int := (cu s s.size).1
/-- The places rise, and none is beyond what was looked at. -/
theorem cu_rise (s : ByteArray) : ∀ k, (∀ i, i < (cu s k).1.length → ∃ n : Nat, gi (cu s k).1 i = (n : Int) ∧ n ≤ (cu s k).2 ∧ 0 < n) ∧ ∀ i j, i < j → j < (cu s k).1.length → gi (cu s k).1 i < gi (cu s k).1 j := by
  intro k
  induction k with
  | zero => exact ⟨fun i h => absurd h (by simp [cu]), fun i j _ h => absurd h (by simp [cu])⟩
  | succ k ih =>
    have hf := cu_from s k
    rw [cu]
    split
    · refine ⟨fun i hi => ?_, fun i j hij hj => ?_⟩
      · simp only [List.length_append, List.length_singleton] at hi
        by_cases e : i = (cu s k).1.length
        · refine ⟨k + 1, ?_, Nat.le_refl _, by omega⟩
          subst e
          simp [gi]
        · obtain ⟨n, h1, h2, h3⟩ := ih.1 i (by omega)
          refine ⟨n, ?_, by simp; omega, h3⟩
          rw [← h1]
          simp [gi, List.getElem?_append_left (show i < (cu s k).1.length by omega)]
      · simp only [List.length_append, List.length_singleton] at hj
        have e1 : gi ((cu s k).1 ++ [((k + 1 : Nat) : Int)]) i = gi (cu s k).1 i := by simp [gi, List.getElem?_append_left (show i < (cu s k).1.length by omega)]
        simp only [e1]
        by_cases e : j = (cu s k).1.length
        · obtain ⟨n, h1, h2, h3⟩ := ih.1 i (by omega)
          have e2 : gi ((cu s k).1 ++ [((k + 1 : Nat) : Int)]) j = ((k + 1 : Nat) : Int) := by subst e; simp [gi]
          rw [e2, h1]; omega
        · have e2 : gi ((cu s k).1 ++ [((k + 1 : Nat) : Int)]) j = gi (cu s k).1 j := by simp [gi, List.getElem?_append_left (show j < (cu s k).1.length by omega)]
          rw [e2]; exact ih.2 i j hij (by omega)
    · exact ih
/-- Where a piece begins. -/
def bg (l : List Int) : Nat → Nat
  | 0 => 0
  | i + 1 => (gi l i).toNat
/-- The first pieces. -/
def pcs (s : ByteArray) (l : List Int) : Nat → List ByteArray
  | 0 => []
  | i + 1 => pcs s l i ++ [s.extract (bg l i) (gi l i).toNat]
theorem pcs_len (s : ByteArray) (l : List Int) : ∀ i, (pcs s l i).length = i := by
  intro i
  induction i with
  | zero => rfl
  | succ i ih => rw [pcs, List.length_append, ih]; rfl
/-- The pieces of a text. -/
def pcsOf (s : ByteArray) : List ByteArray := pcs s (cuts s) (cuts s).length
theorem cut_mid (s : ByteArray) (i : Nat) (h : i < (cuts s).length) : ∃ n : Nat, gi (cuts s) i = (n : Int) ∧ bg (cuts s) i ≤ n ∧ n ≤ s.size := by
  have hr := cu_rise s s.size
  obtain ⟨n, h1, h2, h3⟩ := hr.1 i h
  refine ⟨n, h1, ?_, Nat.le_trans h2 (cu_from s s.size)⟩
  cases i with
  | zero => exact Nat.zero_le _
  | succ i =>
    have := hr.2 i (i + 1) (by omega) h
    obtain ⟨m, g1, g2, g3⟩ := hr.1 i (by have : i + 1 < (cu s s.size).1.length := h; omega)
    show (gi (cu s s.size).1 i).toNat ≤ n
    have h1' : gi (cu s s.size).1 (i + 1) = (n : Int) := h1
    rw [g1, h1'] at this
    rw [g1]
    omega
theorem cuts_len (s : ByteArray) : (cuts s).length ≤ s.size := cu_len s s.size
end Go.Proofs.Ytfphffbclpmobaa.Hd
