import Derived.Test.YtjalhfpjiakhoaaW4
import Derived.Test.YtjalhfpjiakhoaaK7
import Derived.Deep.RegionHeld3
namespace Go.Proofs.Ytjalhfpjiakhoaa
open Go.ChangeShapes Go.WideShapes Go.ChangeAt Go.RowKit
set_option linter.unusedVariables false

/-- A device as data. -/
structure Pst where
  n : Nat
  m : Nat
  S : Nat → ByteArray
  T : Nat → Int
  U : Nat → ByteArray
def rN : Option Pst → Nat | none => 0 | some p => p.n
def rM : Option Pst → Nat | none => 0 | some p => p.m
def rS : Option Pst → Nat → ByteArray | none => newS | some p => p.S
def rT : Option Pst → Nat → Int | none => noT | some p => p.T
def rU : Option Pst → Nat → ByteArray | none => noU | some p => p.U

def isFl (t : Int) (u : ByteArray) : Bool := decide (t = -1 ∧ u.size = 0)
def flStep (p : Pst) : Option Pst := bif goodB p.n p.m p.S p.T p.U then some ⟨p.n, 0, doneS p.S p.T p.U p.m, p.T, p.U⟩ else none
def wrStep (p : Pst) (t : Int) (u : ByteArray) : Option Pst := bif wrOK p.n p.m p.S p.T p.U t u then some ⟨p.n, p.m + 1, p.S, setT p.T p.m t, setU p.U p.m u⟩ else none
def plStep (p : Pst) (t : Int) (u : ByteArray) : Option Pst := bif isFl t u then flStep p else wrStep p t u
def play (s : Int) (T : Nat → Int) (U : Nat → ByteArray) : Nat → Option Pst
  | 0 => bif newOK s then some ⟨newN s, 0, newS, noT, noU⟩ else none
  | k + 1 => match play s T U k with
    | none => none
    | some p => plStep p (T k) (U k)
def fin (s : Int) (T : Nat → Int) (U : Nat → ByteArray) (l : Nat) : Option Pst := if l ≤ 200 then play s T U l else none

def Pst.good (p : Pst) : Prop := goodB p.n p.m p.S p.T p.U = true
theorem step_good {p q : Pst} {t : Int} {u : ByteArray} (hp : p.good) (h : plStep p t u = some q) : q.good := by
  unfold plStep at h
  cases hf : isFl t u
  · rw [hf] at h
    simp only [cond_false] at h
    unfold wrStep at h
    cases hw : wrOK p.n p.m p.S p.T p.U t u
    · rw [hw] at h; simp at h
    · rw [hw] at h
      simp at h
      subst h
      obtain ⟨h1, h2, h3⟩ := of_decide_eq_true hw
      obtain ⟨q1, q2, q3, q4, q5⟩ := goodB_spec h1
      refine decide_eq_true ⟨q1, q2, by show p.m + 1 ≤ 60; omega, q4, fun i hi => ?_⟩
      show fitB p.n (setT p.T p.m t i) (setU p.U p.m u i) = true
      unfold setT setU
      by_cases e : i = p.m
      · simp [e]; exact h2
      · simp [e]; exact q5 i (by have : i < p.m + 1 := hi; omega)
  · rw [hf] at h
    simp only [cond_true] at h
    unfold flStep at h
    rw [show goodB p.n p.m p.S p.T p.U = true from hp] at h
    simp at h
    subst h
    exact good_done hp _ _
theorem new_good {s : Int} {p : Pst} (h : play s (fun _ => 0) (fun _ => ⟨#[]⟩) 0 = some p) : p.good := by
  unfold play at h
  cases hn : newOK s
  · rw [hn] at h; simp at h
  · rw [hn] at h
    simp at h
    subst h
    have h1 := of_decide_eq_true hn
    have h2 : newN s = s.toNat := by simp [newN, hn]
    refine decide_eq_true ⟨?_, ?_, by show (0 : Nat) ≤ 60; omega, fun _ _ => rfl, fun i hi => absurd hi (Nat.not_lt_zero i)⟩
    · show 1 ≤ newN s; omega
    · show newN s ≤ 32; omega
theorem play_good {s : Int} {T : Nat → Int} {U : Nat → ByteArray} : ∀ {k : Nat} {p : Pst}, play s T U k = some p → p.good
  | 0, p, h => new_good h
  | k + 1, p, h => by
    unfold play at h
    cases hq : play s T U k with
    | none => rw [hq] at h; simp at h
    | some q => rw [hq] at h; exact step_good (play_good hq) h
theorem play_none {s : Int} {T : Nat → Int} {U : Nat → ByteArray} {j : Nat} (h : play s T U j = none) : ∀ k, j ≤ k → play s T U k = none := by
  intro k hk
  induction k with
  | zero => have : j = 0 := by omega
            subst this; exact h
  | succ k ih =>
    by_cases e : j = k + 1
    · subst e; exact h
    · unfold play; rw [ih (by omega)]

theorem good_sizes {p : Pst} (h : p.good) : p.n ≤ 1048576 ∧ p.m ≤ 1048576 ∧ (∀ i, i < p.n → (p.S i).size ≤ 9223372036854775807) ∧ (∀ i, i < p.m → (p.U i).size ≤ 9223372036854775807) := by
  obtain ⟨q1, q2, q3, q4, q5⟩ := goodB_spec h
  exact ⟨by omega, by omega, fun i hi => by rw [q4 i hi]; omega, fun i hi => by rw [(fitB_spec (q5 i hi)).2.2]; omega⟩

theorem flStep_res {p : Pst} : flushN p.n p.m p.S p.T p.U = rN (flStep p) ∧ goodB p.n p.m p.S p.T p.U = (flStep p).isSome ∧ rM (flStep p) = 0 := by
  unfold flushN flStep
  cases goodB p.n p.m p.S p.T p.U <;> simp [rN, rM]
theorem devRes_fl {w w' : World} {e : Ending} {p : Pst} (h : DevRes w w' e (flushN p.n p.m p.S p.T p.U) 0 (goodB p.n p.m p.S p.T p.U) (doneS p.S p.T p.U p.m) p.T p.U) :
    DevRes w w' e (rN (flStep p)) (rM (flStep p)) (flStep p).isSome (rS (flStep p)) (rT (flStep p)) (rU (flStep p)) := by
  unfold flushN flStep at *
  cases hg : goodB p.n p.m p.S p.T p.U
  · rw [hg] at h
    simp only [cond_false] at h ⊢
    obtain ⟨h1, x, cx, y, cy, h2, h3⟩ := h
    exact ⟨h1, x, cx, y, cy, h2, mine_none _ _ _ _ _ _, mine_none _ _ _ _ _ _⟩
  · rw [hg] at h
    simpa [rN, rM, rS, rT, rU] using h
theorem devRes_wr {w w' : World} {e : Ending} {p : Pst} {t : Int} {u : ByteArray} (h : DevRes w w' e (wrN p.n p.m p.S p.T p.U t u) (wrM p.n p.m p.S p.T p.U t u) (wrOK p.n p.m p.S p.T p.U t u) p.S (setT p.T p.m t) (setU p.U p.m u)) :
    DevRes w w' e (rN (wrStep p t u)) (rM (wrStep p t u)) (wrStep p t u).isSome (rS (wrStep p t u)) (rT (wrStep p t u)) (rU (wrStep p t u)) := by
  unfold wrN wrM wrStep at *
  cases hg : wrOK p.n p.m p.S p.T p.U t u
  · rw [hg] at h
    simp only [cond_false] at h ⊢
    obtain ⟨h1, x, cx, y, cy, h2, h3⟩ := h
    exact ⟨h1, x, cx, y, cy, h2, mine_none _ _ _ _ _ _, mine_none _ _ _ _ _ _⟩
  · rw [hg] at h
    simpa [rN, rM, rS, rT, rU] using h
end Go.Proofs.Ytjalhfpjiakhoaa
