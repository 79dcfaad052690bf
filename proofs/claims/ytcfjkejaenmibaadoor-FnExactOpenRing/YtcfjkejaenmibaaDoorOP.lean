import Derived.Test.YtcfjkejaenmibaaDoorI5
import Derived.Test.YtcfjkejaenmibaaDoorV2
/- A ring opened again, pure. -/
namespace Go.Proofs.YtcfjkejaenmibaaDoor
set_option linter.unusedVariables false
open Lg
/-- The greatest number behind one slot more. -/
def tpS (l : List Sl) (i : Nat) (p : Int) : Int :=
  if whB (gs l i) = true ∧ 0 < (gs l i).c ∧ p < ((gs l i).c - 1) * l.length + i then ((gs l i).c - 1) * l.length + i else p
def tpN (l : List Sl) : Nat → Int
  | 0 => -1
  | i + 1 => tpS l i (tpN l i)
def tp (l : List Sl) : Int := tpN l l.length
theorem wh_c {x : Sl} (h : whB x = true) : 0 ≤ x.c ∧ x.c ≤ 1000000 ∧ 0 ≤ x.t ∧ x.t ≤ 10000000 := by
  unfold whB okB at h
  simp at h
  omega
theorem mul_le24 {c : Int} {n : Nat} (h0 : 0 ≤ c) (h1 : c ≤ 1000000) (hn : n ≤ 24) : 0 ≤ c * (n : Int) ∧ c * (n : Int) ≤ 24000000 := by
  have h2 : c * (n : Int) ≤ 1000000 * 24 := Int.mul_le_mul h1 (by omega) (by omega) (by omega)
  exact ⟨Int.mul_nonneg h0 (by omega), by omega⟩
theorem tpN_in {l : List Sl} (hn : l.length ≤ 24) : ∀ i, i ≤ l.length → -1 ≤ tpN l i ∧ tpN l i ≤ 24000024 := by
  intro i hi
  induction i with
  | zero => exact ⟨by show (-1 : Int) ≤ -1; omega, by show (-1 : Int) ≤ _; omega⟩
  | succ i ih =>
    have ih := ih (by omega)
    show -1 ≤ tpS l i (tpN l i) ∧ tpS l i (tpN l i) ≤ 24000024
    unfold tpS
    split
    · rename_i h
      have h1 := wh_c h.1
      have h2 := mul_le24 (c := (gs l i).c - 1) (n := l.length) (by omega) (by omega) hn
      omega
    · exact ih
theorem blank_no {x : Sl} (h : x.c ≠ 0) : ¬ sameB x blank = true := fun q => h (by rw [sameB_iff.1 q, blank_c])
/-- A record lies in its slot. -/
theorem fr_zero {l : List Sl} {k : Int} (hn : 0 < l.length) (hk : 0 ≤ k) : frN l k = 0 ↔ whB (gs l (idx l.length k)) = true ∧ (gs l (idx l.length k)).c = k / l.length + 1 := by
  have hd := Int.ediv_nonneg (a := k) (b := (l.length : Int)) hk (by omega)
  unfold frN
  constructor
  · intro h
    by_cases h1 : sameB (gs l (idx l.length k)) blank = true
    · rw [if_pos h1] at h; omega
    · rw [if_neg h1] at h
      by_cases h2 : 0 ≤ k ∧ whB (gs l (idx l.length k)) = true ∧ (gs l (idx l.length k)).c = k / l.length + 1
      · exact h2.2
      · rw [if_neg h2] at h; omega
  · intro h
    rw [if_neg (blank_no (by omega)), if_pos ⟨hk, h⟩]
theorem fr_neg {l : List Sl} {k : Int} (hk : k < 0) : frN l k ≠ 0 := by
  unfold frN
  split
  · omega
  · rw [if_neg (by omega)]; omega
theorem tpN_ok {l : List Sl} : ∀ i, i ≤ l.length → 0 ≤ tpN l i → frN l (tpN l i) = 0 := by
  intro i hi
  induction i with
  | zero => intro h; exact absurd h (by show ¬ (0 : Int) ≤ -1; omega)
  | succ i ih =>
    show 0 ≤ tpS l i (tpN l i) → frN l (tpS l i (tpN l i)) = 0
    have hs : (tpS l i (tpN l i) = tpN l i) ∨ (whB (gs l i) = true ∧ 0 < (gs l i).c ∧ tpS l i (tpN l i) = ((gs l i).c - 1) * l.length + i) := by
      unfold tpS
      split
      · rename_i h; exact .inr ⟨h.1, h.2.1, rfl⟩
      · exact .inl rfl
    rcases hs with hs | ⟨h1, h2, hs⟩
    · rw [hs]; exact ih (by omega)
    · intro h0
      rw [fr_zero (by omega) h0]
      have e1 : idx l.length (tpS l i (tpN l i)) = i := by
        unfold idx
        rw [if_neg (by omega), hs, Int.add_comm, Int.add_mul_emod_self_right]
        rw [Int.emod_eq_of_lt (by omega) (by omega)]
        omega
      rw [e1]
      refine ⟨h1, ?_⟩
      have e2 : (((gs l i).c - 1) * (l.length : Int) + (i : Int)) / (l.length : Int) = (gs l i).c - 1 := by
        rw [Int.add_comm, Int.add_mul_ediv_right _ _ (by omega), Int.ediv_eq_zero_of_lt (by omega) (by omega)]
        omega
      rw [hs, e2]
      omega
/-- How many records lie in their slots from one on down. -/
def rn (l : List Sl) (k : Int) : Nat → Nat
  | 0 => 0
  | f + 1 => if frN l k = 0 then rn l (k - 1) f + 1 else 0
theorem rn_le (l : List Sl) : ∀ f k, rn l k f ≤ f := by
  intro f
  induction f with
  | zero => intro k; exact Nat.le_refl _
  | succ f ih =>
    intro k
    show (if frN l k = 0 then rn l (k - 1) f + 1 else 0) ≤ f + 1
    split
    · have := ih (k - 1); omega
    · omega
theorem rn_all (l : List Sl) : ∀ f k j, j < rn l k f → frN l (k - j) = 0 := by
  intro f
  induction f with
  | zero => intro k j hj; exact absurd hj (Nat.not_lt_zero _)
  | succ f ih =>
    intro k j hj
    have hj' : j < (if frN l k = 0 then rn l (k - 1) f + 1 else 0) := hj
    by_cases h : frN l k = 0
    · rw [if_pos h] at hj'
      cases j with
      | zero => simpa using h
      | succ j =>
        have := ih (k - 1) j (by omega)
        rwa [show k - 1 - (j : Int) = k - ((j + 1 : Nat) : Int) by omega] at this
    · rw [if_neg h] at hj'; omega
theorem rn_stop (l : List Sl) : ∀ f k, rn l k f < f → frN l (k - rn l k f) ≠ 0 := by
  intro f
  induction f with
  | zero => intro k h; exact absurd h (Nat.not_lt_zero _)
  | succ f ih =>
    intro k hk
    have hk' : (if frN l k = 0 then rn l (k - 1) f + 1 else 0) < f + 1 := hk
    show frN l (k - ((if frN l k = 0 then rn l (k - 1) f + 1 else 0 : Nat) : Int)) ≠ 0
    by_cases h : frN l k = 0
    · rw [if_pos h] at hk' ⊢
      have := ih (k - 1) (by omega)
      rwa [show k - 1 - (rn l (k - 1) f : Int) = k - ((rn l (k - 1) f + 1 : Nat) : Int) by omega] at this
    · rw [if_neg h]
      simpa using h
theorem idx_down {n : Nat} {k : Int} (hn : 0 < n) (hk : 0 ≤ k - n) : idx n (k - n) = idx n k := by
  unfold idx
  rw [if_neg (by omega), if_neg (by omega), Int.sub_emod_right]
/-- A slot is not that of two numbers of one turn. -/
theorem fr_turn {l : List Sl} {k : Int} (hn : 0 < l.length) (h : frN l k = 0) : frN l (k - l.length) ≠ 0 := by
  by_cases h0 : k - l.length < 0
  · exact fr_neg h0
  · have hk : 0 ≤ k := by omega
    intro q
    have h1 := ((fr_zero hn hk).1 h).2
    have h2 := ((fr_zero hn (by omega : 0 ≤ k - (l.length : Int))).1 q).2
    rw [idx_down hn (by omega)] at h2
    have h3 : (k - (l.length : Int)) / (l.length : Int) = k / l.length - 1 := by
      rw [show k - (l.length : Int) = k + (-1) * (l.length : Int) by omega, Int.add_mul_ediv_right _ _ (by omega)]
      omega
    omega
theorem rn_end {l : List Sl} {k : Int} (hn : 0 < l.length) (h : frN l k = 0) : frN l (k - rn l k l.length) ≠ 0 := by
  have hle := rn_le l l.length k
  by_cases e : rn l k l.length < l.length
  · exact rn_stop l _ _ e
  · rw [show rn l k l.length = l.length by omega]
    exact fr_turn hn h
theorem rn_pos {l : List Sl} {k : Int} (hn : 0 < l.length) (h : frN l k = 0) : 1 ≤ rn l k l.length := by
  obtain ⟨f, hf⟩ : ∃ f, l.length = f + 1 := ⟨l.length - 1, by omega⟩
  rw [hf]
  show 1 ≤ (if frN l k = 0 then rn l (k - 1) f + 1 else 0)
  rw [if_pos h]; omega
open Classical in
/-- The slots of the records from one number to another, all others blank. -/
noncomputable def fl (l : List Sl) (lo hi : Int) (i : Nat) : Sl := if ∃ k : Int, lo ≤ k ∧ k ≤ hi ∧ idx l.length k = i then gs l i else blank
theorem fl_none {l : List Sl} {lo hi : Int} (h : hi < lo) (i : Nat) : fl l lo hi i = blank := by
  unfold fl
  rw [if_neg]
  rintro ⟨k, h1, h2, -⟩
  omega
theorem fl_low {l : List Sl} {k hi : Int} (h : k ≤ hi) (i : Nat) : fl l k hi i = if i = idx l.length k then gs l (idx l.length k) else fl l (k + 1) hi i := by
  by_cases e : i = idx l.length k
  · rw [if_pos e]
    unfold fl
    rw [if_pos ⟨k, by omega, h, e.symm⟩, e]
  · rw [if_neg e]
    unfold fl
    by_cases q : ∃ j : Int, k + 1 ≤ j ∧ j ≤ hi ∧ idx l.length j = i
    · obtain ⟨j, h1, h2, h3⟩ := q
      rw [if_pos ⟨j, by omega, h2, h3⟩, if_pos ⟨j, h1, h2, h3⟩]
    · rw [if_neg q, if_neg]
      rintro ⟨j, h1, h2, h3⟩
      by_cases ej : j = k
      · exact e (by rw [← h3, ej])
      · exact q ⟨j, by omega, h2, h3⟩
theorem fl_high {l : List Sl} {lo k : Int} (h : lo ≤ k) (i : Nat) : fl l lo k i = if i = idx l.length k then gs l (idx l.length k) else fl l lo (k - 1) i := by
  by_cases e : i = idx l.length k
  · rw [if_pos e]
    unfold fl
    rw [if_pos ⟨k, h, by omega, e.symm⟩, e]
  · rw [if_neg e]
    unfold fl
    by_cases q : ∃ j : Int, lo ≤ j ∧ j ≤ k - 1 ∧ idx l.length j = i
    · obtain ⟨j, h1, h2, h3⟩ := q
      rw [if_pos ⟨j, h1, by omega, h3⟩, if_pos ⟨j, h1, h2, h3⟩]
    · rw [if_neg q, if_neg]
      rintro ⟨j, h1, h2, h3⟩
      by_cases ej : j = k
      · exact e (by rw [← h3, ej])
      · exact q ⟨j, h1, by omega, h3⟩
theorem fl_few {l : List Sl} {lo hi : Int} (hf : ∀ i, i < l.length → Few (gs l i)) (hb : Few blank) : ∀ i, i < l.length → Few (fl l lo hi i) := by
  intro i hi
  unfold fl
  split
  · exact hf i hi
  · exact hb
/-- The least number of the run, the slots, the tail of what is opened. -/
def lst (l : List Sl) : Int := tp l - rn l (tp l) l.length + 1
noncomputable def opL (l : List Sl) : List Sl := (List.range l.length).map (fl l (lst l) (tp l))
theorem opL_len (l : List Sl) : (opL l).length = l.length := by simp [opL]
theorem opL_gs {l : List Sl} {i : Nat} (h : i < l.length) : gs (opL l) i = fl l (lst l) (tp l) i := by simp [gs, opL, h]
def opT (l : List Sl) : Int := max (lst l) (gs l (idx l.length (tp l))).t
noncomputable def opG (l : List Sl) : Bool := gdB (opL l) (tp l + 1) ((tp l + 1) / l.length + 1) (opT l)
/-- What is answered: whether, slots, head, cycle, tail. -/
noncomputable def opB (l : List Sl) : Bool := nwB l.length && (decide (tp l < 0) || opG l)
noncomputable def oaL (l : List Sl) : List Sl := bif opB l then (bif decide (tp l < 0) then List.replicate l.length blank else opL l) else []
noncomputable def oaH (l : List Sl) : Int := bif opB l then (bif decide (tp l < 0) then 0 else tp l + 1) else 0
noncomputable def oaC (l : List Sl) : Int := bif opB l then (bif decide (tp l < 0) then 1 else (tp l + 1) / l.length + 1) else 0
noncomputable def oaT (l : List Sl) : Int := bif opB l then (bif decide (tp l < 0) then 0 else opT l) else 0
end Go.Proofs.YtcfjkejaenmibaaDoor
