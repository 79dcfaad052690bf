import Derived.Test.YtcfjkejaenmibaaDoorG2
/- Good rings, pure. -/
namespace Go.Proofs.YtcfjkejaenmibaaDoor
set_option linter.unusedVariables false
open Lg
/-- The bounds of a ring of n slots. -/
def bdB (n : Nat) (h cy t : Int) : Bool := decide (2 ≤ n) && (decide (n ≤ 24) && (decide (0 ≤ h) && (decide (h ≤ 10000000) && (decide (0 ≤ t) && (decide (t ≤ h) && (decide (h - t ≤ n) && decide (cy = h / n + 1)))))))
/-- The place of a record's slot: below 0 the slots to which none came yet. -/
def idx (n : Nat) (k : Int) : Nat := if k < 0 then (k + n).toNat else (k % n).toNat
/-- One record's slot, behind the greatest tail so far. -/
def stp (l : List Sl) (t k last : Int) : Option Int :=
  if k < 0 then (if sameB (gs l (idx l.length k)) blank = true then some last else none)
  else if k < t ∧ sameB (gs l (idx l.length k)) blank = true then some last
  else if whB (gs l (idx l.length k)) = true ∧ (gs l (idx l.length k)).c = k / l.length + 1 then
    (if (gs l (idx l.length k)).t < last ∨ k < (gs l (idx l.length k)).t ∨ t < (gs l (idx l.length k)).t then none else some (gs l (idx l.length k)).t)
  else none
/-- The greatest tail behind so many slots, none where one of them is wrong. -/
def rnn (l : List Sl) (h t : Int) : Nat → Option Int
  | 0 => some 0
  | i + 1 => (rnn l h t i).bind (stp l t (h - l.length + i))
def gdB (l : List Sl) (h cy t : Int) : Bool := bdB l.length h cy t && (rnn l h t l.length).isSome
theorem rnn_none {l : List Sl} {h t : Int} {i : Nat} (hi : rnn l h t i = none) : ∀ j, i ≤ j → rnn l h t j = none := by
  intro j hj
  induction j with
  | zero => obtain rfl : i = 0 := by omega
            exact hi
  | succ j ih =>
    by_cases e : i = j + 1
    · rw [← e]; exact hi
    · unfold rnn
      rw [ih (by omega)]
      rfl
theorem rnn_step {l : List Sl} {h t last : Int} {i : Nat} (hi : rnn l h t i = some last) : rnn l h t (i + 1) = stp l t (h - l.length + i) last := by
  show (rnn l h t i).bind _ = _
  rw [hi]
  rfl
theorem gd_no {l : List Sl} {h cy t : Int} (hb : bdB l.length h cy t = false) : gdB l h cy t = false := by unfold gdB; rw [hb]; rfl
theorem gd_none {l : List Sl} {h cy t : Int} {i : Nat} (hi : rnn l h t i = none) (hl : i ≤ l.length) : gdB l h cy t = false := by unfold gdB; rw [rnn_none hi _ hl]; simp
theorem gd_yes {l : List Sl} {h cy t last : Int} (hb : bdB l.length h cy t = true) (hi : rnn l h t l.length = some last) : gdB l h cy t = true := by unfold gdB; rw [hb, hi]; rfl
theorem bd_is {n : Nat} {h cy t : Int} : bdB n h cy t = true ↔ 2 ≤ n ∧ n ≤ 24 ∧ 0 ≤ h ∧ h ≤ 10000000 ∧ 0 ≤ t ∧ t ≤ h ∧ h - t ≤ n ∧ cy = h / n + 1 := by
  unfold bdB
  simp
theorem bd_no {n : Nat} {h cy t : Int} (hn : ¬ (2 ≤ n ∧ n ≤ 24 ∧ 0 ≤ h ∧ h ≤ 10000000 ∧ 0 ≤ t ∧ t ≤ h ∧ h - t ≤ n ∧ cy = h / n + 1)) : bdB n h cy t = false := by
  cases q : bdB n h cy t with
  | false => rfl
  | true => exact absurd (bd_is.1 q) hn
theorem idx_lt {n : Nat} {k : Int} (hn : 0 < n) (hk : -(n : Int) ≤ k) : idx n k < n := by
  unfold idx
  split
  · omega
  · have h1 := Int.emod_nonneg k (b := (n : Int)) (by omega)
    have h2 := Int.emod_lt_of_pos k (b := (n : Int)) (by omega)
    omega
end Go.Proofs.YtcfjkejaenmibaaDoor
