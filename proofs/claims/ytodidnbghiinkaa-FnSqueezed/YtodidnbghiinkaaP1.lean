/- Tokens of a text, of no program: what they tell, which are good, the longest stretch that comes again. -/
namespace Go.Proofs.Ytodidnbghiinkaa.Tz
set_option linter.unusedVariables false

/-- A token. -/
structure Tk where
  p : ByteArray
  d : Int
  n : Int
def tk0 : Tk := ⟨⟨#[]⟩, 0, 0⟩
/-- The token at a place of a list. -/
def gt (l : List Tk) (i : Nat) : Tk := l.getD i tk0
theorem gt_eq {l : List Tk} {i : Nat} (h : i < l.length) : gt l i = l[i] := by simp [gt, h]
theorem gt_app {l m : List Tk} {i : Nat} (h : i < l.length) : gt (l ++ m) i = gt l i := by simp [gt, List.getElem?_append_left h]
theorem gt_last (l : List Tk) (x : Tk) : gt (l ++ [x]) l.length = x := by simp [gt]
/-- A text's bytes, and the byte at a place. -/
abbrev bt (s : ByteArray) : List UInt8 := s.data.toList
def ch (s : ByteArray) (i : Nat) : UInt8 := (bt s).getD i 0
theorem ch_eq {s : ByteArray} {i : Nat} (h : i < s.size) : ch s i = s[i] := by
  have h' : i < (bt s).length := h
  simp only [ch, List.getD_eq_getElem?_getD, List.getElem?_eq_getElem h', Option.getD_some]
  rfl
/-- The text that has these bytes. -/
def txt (l : List UInt8) : ByteArray := ⟨l.toArray⟩
theorem txt_size (l : List UInt8) : (txt l).size = l.length := by show l.toArray.size = _; simp
theorem bt_txt (l : List UInt8) : bt (txt l) = l := by simp [txt]
theorem txt_bt (s : ByteArray) : txt (bt s) = s := by simp [txt]
theorem bt_len (s : ByteArray) : (bt s).length = s.size := rfl
theorem bt_ext {s t : ByteArray} (h : bt s = bt t) : s = t := by rw [← txt_bt s, h, txt_bt]
theorem bt_app (s t : ByteArray) : bt (s ++ t) = bt s ++ bt t := by simp [bt]
theorem bt_cut (s : ByteArray) (i j : Nat) : bt (s.extract i j) = ((bt s).take j).drop i := by
  simp [bt, ByteArray.data_extract, List.extract_eq_take_drop, List.drop_take]

/-- Whether a token is one. -/
def okT (x : Tk) : Bool :=
  if x.p.size = 0 then decide (1 ≤ x.d) && decide (x.d ≤ 255) && (decide (3 ≤ x.n) && decide (x.n ≤ 66))
  else decide (x.p.size ≤ 64) && decide (x.d = 0) && decide (x.n = 0)
/-- Whether it is a Plain that has room. -/
def mor (x : Tk) : Bool := decide (1 ≤ x.p.size) && decide (x.p.size ≤ 63)
/-- How many bytes the first tokens tell. -/
def tl (l : List Tk) : Nat → Nat
  | 0 => 0
  | k + 1 => tl l k + (gt l k).p.size + (gt l k).n.toNat
/-- Whether a token may stand at its place. -/
def okA (l : List Tk) (k : Nat) : Bool :=
  okT (gt l k) && decide ((gt l k).d ≤ tl l k) && !(decide (0 < k) && decide ((gt l k).p.size ≠ 0) && mor (gt l (k - 1)))
def gB (l : List Tk) : Nat → Bool
  | 0 => true
  | k + 1 => gB l k && okA l k
/-- Whether tokens are good. -/
def good (l : List Tk) : Bool := gB l l.length && decide (tl l l.length ≤ 600)
theorem gB_le {l : List Tk} {j k : Nat} (h : j ≤ k) (hk : gB l k = true) : gB l j = true := by
  induction k with
  | zero => obtain rfl : j = 0 := by omega
            exact hk
  | succ k ih =>
    rw [gB, Bool.and_eq_true] at hk
    by_cases e : j = k + 1
    · subst e; rw [gB, hk.1, hk.2]; rfl
    · exact ih (by omega) hk.1
theorem gB_at {l : List Tk} {j k : Nat} (h : j < k) (hk : gB l k = true) : okA l j = true := by
  have := gB_le (j := j + 1) h hk
  rw [gB, Bool.and_eq_true] at this
  exact this.2
theorem tl_le {l : List Tk} {j k : Nat} (h : j ≤ k) : tl l j ≤ tl l k := by
  induction k with
  | zero => obtain rfl : j = 0 := by omega
            exact Nat.le_refl _
  | succ k ih =>
    by_cases e : j = k + 1
    · subst e; exact Nat.le_refl _
    · have := ih (by omega); rw [tl]; omega
theorem good_no {l : List Tk} {k : Nat} (hk : k < l.length) (h : okA l k = false) : good l = false := by
  unfold good
  by_cases e : gB l l.length = true
  · rw [gB_at hk e] at h; cases h
  · simp only [Bool.not_eq_true] at e; rw [e]; rfl
theorem good_long {l : List Tk} {k : Nat} (hk : k ≤ l.length) (h : 600 < tl l k) : good l = false := by
  have := tl_le (l := l) hk
  unfold good
  rw [decide_eq_false (by omega), Bool.and_false]
theorem okT_n {x : Tk} (h : okT x = true) : 0 ≤ x.n ∧ x.n ≤ 66 ∧ x.p.size ≤ 64 ∧ 0 ≤ x.d ∧ x.d ≤ 255 := by
  unfold okT at h
  split at h
  · simp at h; omega
  · simp at h; omega
theorem okA_T {l : List Tk} {k : Nat} (h : okA l k = true) : okT (gt l k) = true ∧ (gt l k).d ≤ tl l k := by
  unfold okA at h
  simp only [Bool.and_eq_true, decide_eq_true_eq] at h
  exact ⟨h.1.1, h.1.2⟩
theorem tl_app {l m : List Tk} : ∀ {k : Nat}, k ≤ l.length → tl (l ++ m) k = tl l k
  | 0, _ => rfl
  | k + 1, h => by rw [tl, tl, gt_app (by omega), tl_app (by omega)]
theorem okA_app {l m : List Tk} {k : Nat} (h : k < l.length) : okA (l ++ m) k = okA l k := by
  unfold okA
  rw [gt_app h, tl_app (by omega), gt_app (by omega)]
theorem gB_app {l m : List Tk} : ∀ {k : Nat}, k ≤ l.length → gB (l ++ m) k = gB l k
  | 0, _ => rfl
  | k + 1, h => by rw [gB, gB, okA_app (by omega), gB_app (by omega)]

/-- Bytes told on from so far back. -/
def rep (b : List UInt8) (d : Nat) : Nat → List UInt8
  | 0 => b
  | n + 1 => rep b d n ++ [(rep b d n).getD ((rep b d n).length - d) 0]
theorem rep_len (b : List UInt8) (d : Nat) : ∀ n, (rep b d n).length = b.length + n
  | 0 => rfl
  | n + 1 => by rw [rep, List.length_append, rep_len b d n]; simp; omega
/-- What a token tells behind what is told. -/
def tell (b : List UInt8) (x : Tk) : List UInt8 := rep (b ++ bt x.p) x.d.toNat x.n.toNat
/-- What the first tokens tell. -/
def ex (l : List Tk) : Nat → List UInt8
  | 0 => []
  | k + 1 => tell (ex l k) (gt l k)
theorem ex_len (l : List Tk) : ∀ k, (ex l k).length = tl l k
  | 0 => rfl
  | k + 1 => by rw [ex, tell, rep_len, tl, List.length_append, ex_len l k, bt_len]
theorem ex_app {l m : List Tk} : ∀ {k : Nat}, k ≤ l.length → ex (l ++ m) k = ex l k
  | 0, _ => rfl
  | k + 1, h => by rw [ex, ex, gt_app (by omega), ex_app (by omega)]

/-- How many bytes two lists have alike at their heads. -/
def lcp : List UInt8 → List UInt8 → Nat
  | x :: xs, y :: ys => if x = y then lcp xs ys + 1 else 0
  | _, _ => 0
theorem lcp_spec : ∀ (xs ys : List UInt8), lcp xs ys ≤ xs.length ∧ lcp xs ys ≤ ys.length ∧ (∀ j, j < lcp xs ys → xs.getD j 0 = ys.getD j 0) ∧ (lcp xs ys = xs.length ∨ lcp xs ys = ys.length ∨ xs.getD (lcp xs ys) 0 ≠ ys.getD (lcp xs ys) 0)
  | [], ys => by simp [lcp]
  | x :: xs, [] => by simp [lcp]
  | x :: xs, y :: ys => by
    obtain ⟨h1, h2, h3, h4⟩ := lcp_spec xs ys
    rw [lcp]
    split
    · rename_i e
      subst e
      refine ⟨by simp; omega, by simp; omega, fun j hj => ?_, ?_⟩
      · cases j with
        | zero => rfl
        | succ j => simpa using h3 j (by omega)
      · rcases h4 with h | h | h
        · exact .inl (by simp [h])
        · exact .inr (.inl (by simp [h]))
        · exact .inr (.inr (by simpa using h))
    · rename_i e
      exact ⟨by simp, by simp, fun j hj => by omega, .inr (.inr (by simpa using e))⟩
theorem lcp_uniq {xs ys : List UInt8} {n : Nat} (h1 : n ≤ xs.length) (h2 : n ≤ ys.length) (h3 : ∀ j, j < n → xs.getD j 0 = ys.getD j 0) (h4 : n = xs.length ∨ n = ys.length ∨ xs.getD n 0 ≠ ys.getD n 0) : lcp xs ys = n := by
  obtain ⟨g1, g2, g3, g4⟩ := lcp_spec xs ys
  rcases Nat.lt_trichotomy (lcp xs ys) n with h | h | h
  · rcases g4 with g | g | g
    · omega
    · omega
    · exact absurd (h3 _ h) g
  · exact h
  · rcases h4 with g | g | g
    · omega
    · omega
    · exact absurd (g3 _ h) g
/-- How many bytes are alike from two places on, 66 at most. -/
def alk (s : ByteArray) (a b : Nat) : Nat := lcp ((bt s).drop a) (((bt s).drop b).take 66)
theorem getD_drop (l : List UInt8) (a j : Nat) : (l.drop a).getD j 0 = l.getD (a + j) 0 := by simp [List.getD_eq_getElem?_getD]
theorem getD_take (l : List UInt8) (n j : Nat) (h : j < n) : (l.take n).getD j 0 = l.getD j 0 := by simp [List.getD_eq_getElem?_getD, h]
theorem alk_of {s : ByteArray} {a b n : Nat} (hab : a ≤ b) (h1 : n ≤ 66) (h2 : b + n ≤ s.size) (h3 : ∀ j, j < n → ch s (a + j) = ch s (b + j)) (h4 : n = 66 ∨ b + n = s.size ∨ ch s (a + n) ≠ ch s (b + n)) : alk s a b = n := by
  have hl := bt_len s
  by_cases e : n < 66 ∧ b + n < s.size
  · refine lcp_uniq (by simp; omega) (by simp; omega) (fun j hj => ?_) (.inr (.inr ?_))
    · rw [getD_take _ _ _ (by omega), getD_drop, getD_drop]; exact h3 j hj
    · rw [getD_take _ _ _ (by omega), getD_drop, getD_drop]
      rcases h4 with h | h | h
      · omega
      · omega
      · exact h
  · refine lcp_uniq (by simp; omega) (by simp; omega) (fun j hj => ?_) (.inr (.inl (by simp; omega)))
    rw [getD_take _ _ _ (by omega), getD_drop, getD_drop]; exact h3 j hj
theorem alk_spec {s : ByteArray} {a b : Nat} (hab : a ≤ b) (hb : b ≤ s.size) : alk s a b ≤ 66 ∧ b + alk s a b ≤ s.size ∧ (∀ j, j < alk s a b → ch s (a + j) = ch s (b + j)) ∧ (alk s a b = 66 ∨ b + alk s a b = s.size ∨ ch s (a + alk s a b) ≠ ch s (b + alk s a b)) := by
  have hl := bt_len s
  obtain ⟨g1, g2, g3, g4⟩ := lcp_spec ((bt s).drop a) (((bt s).drop b).take 66)
  have e : alk s a b = lcp ((bt s).drop a) (((bt s).drop b).take 66) := rfl
  rw [← e] at g1 g2 g3 g4
  simp at g1 g2
  refine ⟨by omega, by omega, fun j hj => ?_, ?_⟩
  · have := g3 j hj
    rw [getD_take _ _ _ (by omega), getD_drop, getD_drop] at this
    exact this
  · by_cases h66 : alk s a b = 66
    · exact .inl h66
    · rcases g4 with h | h | h
      · simp at h; right; left; omega
      · simp at h; right; left; omega
      · rw [getD_take _ _ _ (by omega), getD_drop, getD_drop] at h
        exact .inr (.inr h)
/-- The best of the first distances: how far, how long. -/
def lg (s : ByteArray) (a b : Nat) : Nat → Nat × Nat
  | 0 => (0, b)
  | k + 1 => if (lg s a b k).2 < alk s (a - (k + 1)) a then (k + 1, alk s (a - (k + 1)) a) else lg s a b k
/-- The longest stretch at a place. -/
def lgA (s : ByteArray) (a : Nat) : Nat × Nat := if (lg s a 2 (min a 255)).1 = 0 then (0, 0) else lg s a 2 (min a 255)
theorem lg_both (s : ByteArray) (a : Nat) : ∀ k, ((lg s a 0 k).2 < 3 ∧ lg s a 2 k = (0, 2)) ∨ (3 ≤ (lg s a 0 k).2 ∧ lg s a 2 k = lg s a 0 k ∧ 0 < (lg s a 0 k).1) := by
  intro k
  induction k with
  | zero => exact .inl ⟨by simp [lg], rfl⟩
  | succ k ih =>
    rw [lg, lg]
    rcases ih with ⟨h1, h2⟩ | ⟨h1, h2, h3⟩
    · rw [h2]
      by_cases e : (0, 2).2 < alk s (a - (k + 1)) a
      · have e' : 2 < alk s (a - (k + 1)) a := e
        rw [if_pos e, if_pos (by omega)]
        exact .inr ⟨e', rfl, Nat.succ_pos _⟩
      · have e' : ¬ 2 < alk s (a - (k + 1)) a := e
        rw [if_neg e]
        split
        · exact .inl ⟨by show alk s (a - (k + 1)) a < 3; omega, rfl⟩
        · exact .inl ⟨h1, rfl⟩
    · rw [h2]
      split
      · rename_i e; exact .inr ⟨by show 3 ≤ alk s (a - (k + 1)) a; omega, rfl, Nat.succ_pos _⟩
      · exact .inr ⟨h1, rfl, h3⟩
theorem lgA_impl (s : ByteArray) (a : Nat) : lgA s a = if (lg s a 0 (min a 255)).2 < 3 then (0, 0) else lg s a 0 (min a 255) := by
  unfold lgA
  rcases lg_both s a (min a 255) with ⟨h1, h2⟩ | ⟨h1, h2, h3⟩
  · rw [if_pos (by rw [h2]), if_pos h1]
  · rw [if_neg (by rw [h2]; omega), if_neg (by omega), h2]
theorem lg_spec (s : ByteArray) (a : Nat) : ∀ k, ((lg s a 2 k).1 = 0 ∧ (lg s a 2 k).2 = 2 ∨ 1 ≤ (lg s a 2 k).1 ∧ (lg s a 2 k).1 ≤ k ∧ 3 ≤ (lg s a 2 k).2 ∧ (lg s a 2 k).2 = alk s (a - (lg s a 2 k).1) a) ∧
    (∀ o, 1 ≤ o → o ≤ k → alk s (a - o) a ≤ (lg s a 2 k).2) ∧ (∀ o, 1 ≤ o → o < (lg s a 2 k).1 → alk s (a - o) a < (lg s a 2 k).2) := by
  intro k
  induction k with
  | zero => exact ⟨.inl ⟨rfl, rfl⟩, fun o h1 h2 => by omega, fun o h1 h2 => absurd h2 (by simp [lg])⟩
  | succ k ih =>
    obtain ⟨h1, h2, h3⟩ := ih
    rw [lg]
    split
    · rename_i e
      refine ⟨.inr ⟨by simp, by simp, ?_, rfl⟩, fun o g1 g2 => ?_, fun o g1 g2 => ?_⟩
      · show 3 ≤ alk s (a - (k + 1)) a
        rcases h1 with ⟨_, h⟩ | ⟨_, _, h, _⟩ <;> omega
      · show alk s (a - o) a ≤ alk s (a - (k + 1)) a
        by_cases eo : o = k + 1
        · subst eo; exact Nat.le_refl _
        · have := h2 o g1 (by omega); omega
      · show alk s (a - o) a < alk s (a - (k + 1)) a
        have g2' : o < k + 1 := g2
        have := h2 o g1 (by omega); omega
    · rename_i e
      refine ⟨?_, fun o g1 g2 => ?_, h3⟩
      · rcases h1 with h | ⟨q1, q2, q3, q4⟩
        · exact .inl h
        · exact .inr ⟨q1, by omega, q3, q4⟩
      · by_cases eo : o = k + 1
        · subst eo; omega
        · exact h2 o g1 (by omega)
/-- What the longest stretch is: none, or one of 3 to 66 bytes. -/
theorem lgA_spec (s : ByteArray) (a : Nat) (ha : a ≤ s.size) : lgA s a = (0, 0) ∨ (1 ≤ (lgA s a).1 ∧ (lgA s a).1 ≤ a ∧ (lgA s a).1 ≤ 255 ∧ 3 ≤ (lgA s a).2 ∧ (lgA s a).2 ≤ 66 ∧ a + (lgA s a).2 ≤ s.size ∧ ∀ j, j < (lgA s a).2 → ch s (a + j) = ch s (a + j - (lgA s a).1)) := by
  unfold lgA
  split
  · exact .inl rfl
  · rename_i e
    obtain ⟨h1, -, -⟩ := lg_spec s a (min a 255)
    rcases h1 with ⟨h, _⟩ | ⟨q1, q2, q3, q4⟩
    · exact absurd h e
    · generalize lg s a 2 (min a 255) = r at *
      obtain ⟨d, n⟩ := r
      simp only at *
      obtain ⟨k1, k2, k3, _⟩ := alk_spec (s := s) (a := a - d) (b := a) (by omega) ha
      rw [← q4] at k1 k2 k3
      refine .inr ⟨q1, by omega, by omega, q3, k1, k2, fun j hj => ?_⟩
      rw [← k3 j hj, show a - d + j = a + j - d by omega]
end Go.Proofs.Ytodidnbghiinkaa.Tz
