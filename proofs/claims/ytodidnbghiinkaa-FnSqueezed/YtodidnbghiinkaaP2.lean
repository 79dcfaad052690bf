import Derived.Test.YtodidnbghiinkaaP1
/- Tokens that a text is made to; tokens as bytes and back. -/
namespace Go.Proofs.Ytodidnbghiinkaa.Tz
set_option linter.unusedVariables false

/-- The last token of a list, with a byte more. -/
def lst (l : List Tk) : Tk := gt l (l.length - 1)
def more (l : List Tk) (b : ByteArray) : List Tk := l.set (l.length - 1) ⟨(lst l).p ++ b, (lst l).d, (lst l).n⟩
/-- One step through a text. -/
def stp (s : ByteArray) (x : List Tk × Nat) : List Tk × Nat :=
  if x.2 < s.size then
    if 0 < (lgA s x.2).1 then (x.1 ++ [⟨⟨#[]⟩, ((lgA s x.2).1 : Int), ((lgA s x.2).2 : Int)⟩], x.2 + (lgA s x.2).2)
    else if mor (lst x.1) then (more x.1 (s.extract x.2 (x.2 + 1)), x.2 + 1)
    else (x.1 ++ [⟨s.extract x.2 (x.2 + 1), 0, 0⟩], x.2 + 1)
  else x
def run (s : ByteArray) : Nat → List Tk × Nat
  | 0 => ([], 0)
  | k + 1 => stp s (run s k)
/-- The tokens of a text. -/
def toks (s : ByteArray) : List Tk := (run s s.size).1
theorem mor_nil : mor (lst []) = false := rfl
theorem mor_ne {l : List Tk} (h : mor (lst l) = true) : 0 < l.length := by
  cases l with
  | nil => rw [mor_nil] at h; cases h
  | cons x l => simp
theorem more_len (l : List Tk) (b : ByteArray) : (more l b).length = l.length := by simp [more]
theorem gt_more_last {l : List Tk} (b : ByteArray) (h : 0 < l.length) : gt (more l b) (l.length - 1) = ⟨(lst l).p ++ b, (lst l).d, (lst l).n⟩ := by
  simp [gt, more, show l.length - 1 < l.length by omega]
theorem gt_more {l : List Tk} (b : ByteArray) {i : Nat} (h : i ≠ l.length - 1) : gt (more l b) i = gt l i := by
  simp [gt, more, List.getElem?_set_ne (Ne.symm h)]
theorem cut_one {s : ByteArray} {a : Nat} (h : a < s.size) : (s.extract a (a + 1)).size = 1 := by rw [ByteArray.size_extract]; omega
theorem bt_one {s : ByteArray} {a : Nat} (h : a < s.size) : bt (s.extract a (a + 1)) = [ch s a] := by
  have hl := bt_len s
  rw [bt_cut]
  apply List.ext_getElem
  · simp; omega
  · intro i h1 h2
    obtain rfl : i = 0 := by simp at h2; omega
    simp [ch, List.getD_eq_getElem?_getD, h]
/-- What stands so far: good tokens that tell the text ahead of a place. -/
structure Tol (s : ByteArray) (l : List Tk) (a : Nat) : Prop where
  le : a ≤ s.size
  good : gB l l.length = true
  tells : ex l l.length = (bt s).take a
theorem Tol.told {s : ByteArray} {l : List Tk} {a : Nat} (h : Tol s l a) : tl l l.length = a := by
  have hl := bt_len s
  have h1 := h.le
  rw [← ex_len, h.tells, List.length_take]; omega
theorem take_succ' (s : ByteArray) (a : Nat) (h : a < s.size) : (bt s).take (a + 1) = (bt s).take a ++ [ch s a] := by
  have h' : a < (bt s).length := h
  rw [List.take_succ_eq_append_getElem h']
  simp [ch, List.getD_eq_getElem?_getD, h]
theorem rep_take {s : ByteArray} {a d n : Nat} (hd : 1 ≤ d) (hda : d ≤ a) (hn : a + n ≤ s.size) (h : ∀ j, j < n → ch s (a + j) = ch s (a + j - d)) : rep ((bt s).take a) d n = (bt s).take (a + n) := by
  have hl := bt_len s
  induction n with
  | zero => rfl
  | succ n ih =>
    rw [rep, ih (by omega) (fun j hj => h j (by omega)), show a + (n + 1) = a + n + 1 by omega, take_succ' s (a + n) (by omega), h n (by omega)]
    congr 1
    have e : ((bt s).take (a + n)).length = a + n := by simp; omega
    rw [e]
    congr 1
    rw [getD_take _ _ _ (by omega)]
    rfl
theorem Tol.zero (s : ByteArray) : Tol s [] 0 := ⟨Nat.zero_le _, rfl, by simp [ex]⟩
theorem Tol.step {s : ByteArray} {x : List Tk × Nat} (h : Tol s x.1 x.2) : Tol s (stp s x).1 (stp s x).2 := by
  obtain ⟨l, a⟩ := x
  simp only at h
  have ht := h.told
  have hle := h.le
  have hl := bt_len s
  unfold stp
  split
  · rename_i ha
    simp only at ha
    split
    · rename_i hd
      simp only at hd ⊢
      rcases lgA_spec s a hle with e | ⟨q1, q2, q3, q4, q5, q6, q7⟩
      · rw [e] at hd; simp at hd
      · generalize lgA s a = r at *
        obtain ⟨d, n⟩ := r
        simp only at *
        have e1 : gt (l ++ [⟨⟨#[]⟩, (d : Int), (n : Int)⟩]) l.length = ⟨⟨#[]⟩, (d : Int), (n : Int)⟩ := gt_last _ _
        refine ⟨q6, ?_, ?_⟩
        · rw [List.length_append, List.length_singleton, gB, gB_app (Nat.le_refl _), h.good]
          unfold okA
          rw [e1, tl_app (Nat.le_refl _), ht]
          unfold okT
          simp only
          rw [if_pos (show (⟨#[]⟩ : ByteArray).size = 0 from rfl), decide_eq_false (show ¬ (⟨#[]⟩ : ByteArray).size ≠ 0 from fun h => h rfl), Bool.and_false, Bool.false_and]
          simp; omega
        · rw [List.length_append, List.length_singleton, ex, ex_app (Nat.le_refl _), h.tells, e1, tell]
          simp only [Int.toNat_natCast]
          rw [show (bt s).take a ++ bt ⟨#[]⟩ = (bt s).take a by simp]
          exact rep_take q1 q2 q6 q7
    · split
      · rename_i hd hm
        simp only at hm ⊢
        have hn := mor_ne hm
        have hg := h.good
        obtain ⟨m, hm'⟩ : ∃ m, l.length = m + 1 := ⟨l.length - 1, by omega⟩
        have hml : l.length - 1 = m := by omega
        have low : ∀ i, i < m → gt (more l (s.extract a (a + 1))) i = gt l i := fun i hi => gt_more _ (by omega)
        have hlast : gt (more l (s.extract a (a + 1))) m = ⟨(lst l).p ++ s.extract a (a + 1), (lst l).d, (lst l).n⟩ := by rw [← hml]; exact gt_more_last _ hn
        have hlst : lst l = gt l m := by rw [lst, hml]
        have tlow : ∀ i, i ≤ m → tl (more l (s.extract a (a + 1))) i = tl l i := by
          intro i hi
          induction i with
          | zero => rfl
          | succ i ih => rw [tl, tl, low i (by omega), ih (by omega)]
        have elow : ∀ i, i ≤ m → ex (more l (s.extract a (a + 1))) i = ex l i := by
          intro i hi
          induction i with
          | zero => rfl
          | succ i ih => rw [ex, ex, low i (by omega), ih (by omega)]
        have glow : ∀ i, i ≤ m → gB (more l (s.extract a (a + 1))) i = gB l i := by
          intro i hi
          induction i with
          | zero => rfl
          | succ i ih =>
            rw [gB, gB, ih (by omega)]
            unfold okA
            rw [low i (by omega), tlow i (by omega), low (i - 1) (by omega)]
        rw [hm', gB] at hg
        have hT := h.tells
        rw [hm', ex] at hT
        simp only [Bool.and_eq_true] at hg
        have hA := hg.2
        have hsz : (s.extract a (a + 1)).size = 1 := cut_one ha
        have hmr : 1 ≤ (gt l m).p.size ∧ (gt l m).p.size ≤ 63 := by rw [hlst] at hm; simpa [mor] using hm
        have hTk := (okA_T hA).1
        have hz : (gt l m).d = 0 ∧ (gt l m).n = 0 := by
          unfold okT at hTk
          rw [if_neg (by omega)] at hTk
          simp at hTk
          exact ⟨hTk.1.2, hTk.2⟩
        have hszs : ((gt l m).p ++ s.extract a (a + 1)).size = (gt l m).p.size + 1 := by rw [ByteArray.size_append, hsz]
        refine ⟨ha, ?_, ?_⟩
        · rw [more_len, hm', gB, glow m (Nat.le_refl _), hg.1, Bool.true_and]
          unfold okA at hA ⊢
          rw [hlast, tlow m (Nat.le_refl _), hlst]
          simp only [Bool.and_eq_true] at hA
          have e3 : (decide (0 < m) && decide ((gt l m).p.size ≠ 0) && mor (gt l (m - 1))) = false := by have := hA.2; rwa [Bool.not_eq_true'] at this
          rw [decide_eq_true (show (gt l m).p.size ≠ 0 by omega)] at e3
          have e4 : (decide (0 < m) && decide (((gt l m).p ++ s.extract a (a + 1)).size ≠ 0) && mor (gt (more l (s.extract a (a + 1))) (m - 1))) = false := by
            rw [decide_eq_true (show ((gt l m).p ++ s.extract a (a + 1)).size ≠ 0 by omega)]
            by_cases h0 : 0 < m
            · rw [low (m - 1) (by omega)]; exact e3
            · rw [decide_eq_false h0]; rfl
          rw [e4]
          unfold okT
          simp only
          rw [if_neg (by omega), hz.1, hz.2, hszs]
          simp; omega
        · rw [more_len, hm', ex, elow m (Nat.le_refl _), hlast, tell, hlst]
          simp only [hz.1, hz.2]
          rw [tell, hz.1, hz.2] at hT
          have hT' : ex l m ++ bt (gt l m).p = (bt s).take a := hT
          show ex l m ++ bt ((gt l m).p ++ s.extract a (a + 1)) = _
          rw [bt_app, ← List.append_assoc, hT', bt_one ha, take_succ' s a ha]
      · rename_i hd hm
        simp only at hm ⊢
        have e1 : gt (l ++ [⟨s.extract a (a + 1), 0, 0⟩]) l.length = ⟨s.extract a (a + 1), 0, 0⟩ := gt_last _ _
        have hsz : (s.extract a (a + 1)).size = 1 := cut_one ha
        refine ⟨ha, ?_, ?_⟩
        · rw [List.length_append, List.length_singleton, gB, gB_app (Nat.le_refl _), h.good]
          unfold okA
          rw [e1]
          have e3 : (decide (0 < l.length) && decide ((s.extract a (a + 1)).size ≠ 0) && mor (gt (l ++ [⟨s.extract a (a + 1), 0, 0⟩]) (l.length - 1))) = false := by
            by_cases h0 : 0 < l.length
            · rw [gt_app (by omega)]
              have : mor (gt l (l.length - 1)) = false := by simpa [lst] using hm
              rw [this, Bool.and_false]
            · rw [decide_eq_false h0]; rfl
          rw [e3]
          simp [okT, hsz]
        · rw [List.length_append, List.length_singleton, ex, ex_app (Nat.le_refl _), h.tells, e1, tell]
          show (bt s).take a ++ bt (s.extract a (a + 1)) = _
          rw [bt_one ha, take_succ' s a ha]
  · exact h
theorem run_tol (s : ByteArray) : ∀ k, Tol s (run s k).1 (run s k).2
  | 0 => Tol.zero s
  | k + 1 => (run_tol s k).step
theorem run_more (s : ByteArray) : ∀ k, k ≤ (run s k).2 ∨ (run s k).2 = s.size
  | 0 => .inl (Nat.le_refl _)
  | k + 1 => by
    have ht := run_tol s k
    have hle := ht.le
    rcases run_more s k with h | h
    · by_cases e : (run s k).2 < s.size
      · left
        rw [run, stp, if_pos e]
        split
        · rename_i hd
          rcases lgA_spec s _ hle with q | ⟨q1, q2, q3, q4, q5, q6, q7⟩
          · rw [q] at hd; simp at hd
          · simp only; omega
        · split <;> (simp only; omega)
      · right; rw [run, stp, if_neg e]; omega
    · right; rw [run, stp, if_neg (by omega)]; exact h
theorem run_stay {s : ByteArray} {k : Nat} (h : ¬ (run s k).2 < s.size) : ∀ j, k ≤ j → run s j = run s k := by
  intro j hj
  induction j with
  | zero => obtain rfl : k = 0 := by omega
            rfl
  | succ j ih =>
    by_cases e : k = j + 1
    · rw [e]
    · rw [run, ih (by omega), stp, if_neg h]
/-- At the end the tokens of the text stand there. -/
theorem run_end {s : ByteArray} {k : Nat} (hk : k ≤ s.size) (h : ¬ (run s k).2 < s.size) : (run s k).1 = toks s := by
  rw [toks, run_stay h s.size hk]
theorem run_lt {s : ByteArray} {k : Nat} (h : (run s k).2 < s.size) : k < s.size := by
  rcases run_more s k with e | e <;> omega
theorem toks_tol (s : ByteArray) : Tol s (toks s) s.size := by
  have h := run_tol s s.size
  have hle := h.le
  have e : (run s s.size).2 = s.size := by
    rcases run_more s s.size with q | q <;> omega
  rw [e] at h
  exact h
theorem toks_good {s : ByteArray} (h : s.size ≤ 600) : good (toks s) = true := by
  have ht := toks_tol s
  unfold good
  rw [ht.good, ht.told, decide_eq_true h]; rfl
theorem toks_ex (s : ByteArray) : ex (toks s) (toks s).length = bt s := by
  have ht := (toks_tol s).tells
  rw [ht, ← bt_len s, List.take_length]
theorem run_len (s : ByteArray) : ∀ k, (run s k).1.length ≤ k
  | 0 => Nat.le_refl _
  | k + 1 => by
    have := run_len s k
    rw [run, stp]
    split
    · split
      · simp; omega
      · split
        · simp only [more_len]; omega
        · simp; omega
    · omega
theorem toks_len (s : ByteArray) : (toks s).length ≤ s.size := run_len s s.size

/-- The bytes of a token, and of the first tokens. -/
def pk1 (x : Tk) : List UInt8 := if x.p.size = 0 then [UInt8.ofNat (61 + x.n.toNat), UInt8.ofNat x.d.toNat] else UInt8.ofNat (x.p.size - 1) :: bt x.p
def pk (l : List Tk) : Nat → List UInt8
  | 0 => []
  | k + 1 => pk l k ++ pk1 (gt l k)
theorem pk_app {l m : List Tk} : ∀ {k : Nat}, k ≤ l.length → pk (l ++ m) k = pk l k
  | 0, _ => rfl
  | k + 1, h => by rw [pk, pk, gt_app (by omega), pk_app (by omega)]
/-- Good tokens have few bytes: one more than they tell for each 64, and one. -/
theorem pk_few (l : List Tk) : ∀ k, gB l k = true → 64 * ((pk l k).length : Int) ≤ 65 * (tl l k : Int) + (if 0 < k ∧ mor (gt l (k - 1)) = true then 63 else 0)
  | 0, _ => by simp [pk, tl]
  | k + 1, h => by
    rw [gB, Bool.and_eq_true] at h
    have ih := pk_few l k h.1
    have hA := h.2
    obtain ⟨hT, -⟩ := okA_T hA
    rw [pk, tl, List.length_append, pk1, Nat.add_sub_cancel]
    unfold okT at hT
    split at hT
    · rename_i e
      rw [if_pos e, e]
      simp at hT
      have : mor (gt l k) = false := by simp [mor, e]
      rw [this]
      simp only [List.length_cons, List.length_nil]
      split at ih <;> simp <;> omega
    · rename_i e
      rw [if_neg e]
      simp at hT
      unfold okA at hA
      simp only [Bool.and_eq_true] at hA
      have e3 : (decide (0 < k) && decide ((gt l k).p.size ≠ 0) && mor (gt l (k - 1))) = false := by have := hA.2; rwa [Bool.not_eq_true'] at this
      rw [decide_eq_true e] at e3
      have hno : ¬ (0 < k ∧ mor (gt l (k - 1)) = true) := by
        rintro ⟨h1, h2⟩
        rw [decide_eq_true h1, h2] at e3
        cases e3
      rw [if_neg hno] at ih
      rw [List.length_cons, bt_len, hT.2]
      by_cases hm : mor (gt l k) = true
      · rw [if_pos ⟨Nat.succ_pos _, hm⟩]
        simp [mor] at hm
        simp; omega
      · rw [if_neg (fun q => hm q.2)]
        have : 64 ≤ (gt l k).p.size := by simp [mor] at hm; omega
        simp; omega
theorem pk_few' {l : List Tk} (h : good l = true) : (pk l l.length).length ≤ tl l l.length + tl l l.length / 64 + 1 := by
  unfold good at h
  simp only [Bool.and_eq_true] at h
  have := pk_few l l.length h.1
  split at this <;> omega
theorem pk_610 {l : List Tk} (h : good l = true) : (pk l l.length).length ≤ 610 := by
  have h1 := h
  unfold good at h1
  simp only [Bool.and_eq_true, decide_eq_true_eq] at h1
  have := pk_few l l.length h1.1
  split at this <;> omega
/-- One step of reading tokens. -/
def ups (s : ByteArray) (x : List Tk × Nat) : Option (List Tk × Nat) :=
  if x.2 < s.size then
    if (ch s x.2).toNat < 64 then
      if s.size - x.2 < (ch s x.2).toNat + 2 then none else some (x.1 ++ [⟨s.extract (x.2 + 1) (x.2 + (ch s x.2).toNat + 2), 0, 0⟩], x.2 + (ch s x.2).toNat + 2)
    else if s.size - x.2 < 2 then none else some (x.1 ++ [⟨⟨#[]⟩, ((ch s (x.2 + 1)).toNat : Int), (((ch s x.2).toNat - 61 : Nat) : Int)⟩], x.2 + 2)
  else some x
def upr (s : ByteArray) : Nat → Option (List Tk × Nat)
  | 0 => some ([], 0)
  | k + 1 => (upr s k).bind (ups s)
/-- What is read of a text: tokens, good or not; and what UnpackTokens tells. -/
def upA (s : ByteArray) : Option (List Tk) := (upr s s.size).map (·.1)
def unp (s : ByteArray) : List Tk × Bool := match upA s with
  | none => ([], false)
  | some l => if good l then (l, true) else ([], false)
theorem ups_more {s : ByteArray} {x y : List Tk × Nat} (h : ups s x = some y) (hx : x.2 < s.size) : x.2 + 2 ≤ y.2 ∧ y.2 ≤ s.size ∧ y.1.length = x.1.length + 1 := by
  unfold ups at h
  rw [if_pos hx] at h
  split at h
  · split at h
    · cases h
    · simp only [Option.some.injEq] at h; subst h; simp; omega
  · split at h
    · cases h
    · simp only [Option.some.injEq] at h; subst h; simp; omega
theorem upr_more (s : ByteArray) : ∀ k x, upr s k = some x → (k ≤ x.2 ∨ x.2 = s.size) ∧ x.2 ≤ s.size ∧ x.1.length ≤ k
  | 0, x, h => by simp [upr] at h; subst h; simp
  | k + 1, x, h => by
    rw [upr] at h
    obtain ⟨y, hy, hx⟩ := Option.bind_eq_some_iff.1 h
    obtain ⟨i1, i2, i3⟩ := upr_more s k y hy
    by_cases e : y.2 < s.size
    · have := ups_more hx e
      omega
    · unfold ups at hx
      rw [if_neg e] at hx
      simp only [Option.some.injEq] at hx
      subst hx
      omega
theorem upr_stay {s : ByteArray} {k : Nat} {x : List Tk × Nat} (hk : upr s k = some x) (h : ¬ x.2 < s.size) : ∀ j, k ≤ j → upr s j = some x := by
  intro j hj
  induction j with
  | zero => obtain rfl : k = 0 := by omega
            exact hk
  | succ j ih =>
    by_cases e : k = j + 1
    · rw [← e]; exact hk
    · rw [upr, ih (by omega), Option.bind_some, ups, if_neg h]
theorem upr_none {s : ByteArray} {k : Nat} (hk : upr s k = none) : ∀ j, k ≤ j → upr s j = none := by
  intro j hj
  induction j with
  | zero => obtain rfl : k = 0 := by omega
            exact hk
  | succ j ih =>
    by_cases e : k = j + 1
    · rw [← e]; exact hk
    · rw [upr, ih (by omega)]; rfl
/-- At the end, or where a step fails. -/
theorem upA_end {s : ByteArray} {k : Nat} {x : List Tk × Nat} (hk : upr s k = some x) (h : ¬ x.2 < s.size) (hks : k ≤ s.size) : upA s = some x.1 := by
  rw [upA, upr_stay hk h s.size hks]; rfl
theorem upA_none {s : ByteArray} {k : Nat} {x : List Tk × Nat} (hk : upr s k = some x) (hx : x.2 < s.size) (h : ups s x = none) : upA s = none := by
  have hm := (upr_more s k x hk).1
  have : upr s (k + 1) = none := by rw [upr, hk]; exact h
  rw [upA, upr_none this s.size (by omega)]; rfl
/-- What is read is packed as it stood there. -/
theorem ups_pk {s : ByteArray} {x y : List Tk × Nat} (h : ups s x = some y) (hp : pk x.1 x.1.length = (bt s).take x.2) (hx : x.2 ≤ s.size) : pk y.1 y.1.length = (bt s).take y.2 := by
  have hl := bt_len s
  unfold ups at h
  split at h
  · rename_i hlt
    have hb := (ch s x.2).toNat_lt
    split at h
    · rename_i h64
      split at h
      · cases h
      · rename_i hs
        simp only [Option.some.injEq] at h
        subst h
        simp only [List.length_append, List.length_singleton]
        rw [pk, pk_app (Nat.le_refl _), gt_last, hp, pk1]
        simp only
        have hsz : (s.extract (x.2 + 1) (x.2 + (ch s x.2).toNat + 2)).size = (ch s x.2).toNat + 1 := by rw [ByteArray.size_extract]; omega
        rw [if_neg (by omega), hsz, bt_cut, Nat.add_sub_cancel, UInt8.ofNat_toNat]
        apply List.ext_getElem?
        intro i
        by_cases c1 : i < x.2
        · rw [List.getElem?_append_left (by simp; omega), List.getElem?_take, if_pos c1, List.getElem?_take, if_pos (by omega)]
        · rw [List.getElem?_append_right (by simp; omega)]
          simp only [List.length_take, hl]
          rw [show min x.2 s.size = x.2 by omega]
          by_cases c2 : i = x.2
          · subst c2
            rw [Nat.sub_self, List.getElem?_cons_zero, List.getElem?_take, if_pos (by omega), List.getElem?_eq_getElem (by omega)]
            simp [ch, List.getD_eq_getElem?_getD, hlt]
          · rw [show i - x.2 = (i - x.2 - 1) + 1 by omega]
            simp only [List.getElem?_cons_succ, List.getElem?_drop]
            rw [show x.2 + 1 + (i - x.2 - 1) = i by omega]
    · rename_i h64
      split at h
      · cases h
      · rename_i hs
        simp only [Option.some.injEq] at h
        subst h
        simp only [List.length_append, List.length_singleton]
        rw [pk, pk_app (Nat.le_refl _), gt_last, hp, pk1]
        simp only
        rw [if_pos (show (⟨#[]⟩ : ByteArray).size = 0 from rfl)]
        simp only [Int.toNat_natCast]
        rw [show 61 + ((ch s x.2).toNat - 61) = (ch s x.2).toNat by omega, UInt8.ofNat_toNat, UInt8.ofNat_toNat, take_succ' s (x.2 + 1) (by omega), take_succ' s x.2 hlt]
        simp
  · simp only [Option.some.injEq] at h
    subst h
    exact hp
theorem upr_pk {s : ByteArray} : ∀ k x, upr s k = some x → pk x.1 x.1.length = (bt s).take x.2
  | 0, x, h => by simp [upr] at h; subst h; simp [pk]
  | k + 1, x, h => by
    rw [upr] at h
    obtain ⟨y, hy, hx⟩ := Option.bind_eq_some_iff.1 h
    exact ups_pk hx (upr_pk k y hy) (upr_more s k y hy).2.1
theorem upA_pk {s : ByteArray} {l : List Tk} (h : upA s = some l) : pk l l.length = bt s := by
  unfold upA at h
  obtain ⟨x, hx, rfl⟩ := Option.map_eq_some_iff.1 h
  have hm := upr_more s s.size x hx
  rw [upr_pk _ _ hx, show x.2 = s.size by omega, ← bt_len s, List.take_length]
/-- A text of more than 610 bytes is of no good tokens. -/
theorem unp_long {s : ByteArray} (h : 610 < s.size) : unp s = ([], false) := by
  unfold unp
  split
  · rfl
  · rename_i l hl
    split
    · rename_i hg
      have h1 := pk_610 hg
      rw [upA_pk hl, bt_len] at h1
      omega
    · rfl
end Go.Proofs.Ytodidnbghiinkaa.Tz
