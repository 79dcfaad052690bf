import Derived.Test.YtfphffbclpmobaaY1
/- impl.BytesKept. -/
namespace Go.Proofs.Ytfphffbclpmobaa
open Go.ChangeShapes Go.WideShapes Go.ChangeAt Go.RowKit Go.Maps
set_option linter.unusedVariables false
open Hd

attribute [local go_sem] Oper.semAt_some

theorem key_S_inv {v : Value} {l : Lit} (h : keyOf Try.prog 9 v = some l) : ∃ x : ByteArray, v = .string x ∧ l = kS x ∧ x.size ≤ maxLen := Go.WideMaps.string_of_keyOf Try.underlying9 h
theorem sameKey_S (x y : ByteArray) : (kS x).sameKey (kS y) = decide (x = y) := by
  by_cases e : x = y
  · subst e
    simp [kS, Lit.sameKey]
  · rw [sameKey_ne (fun h => e (kS_inj h))]
    simp [e]
/-- What BytesKept tells. -/
def bkN (u : Va) (B : Bool) : Nat := if B = true then kz u else 0
def bkM (u : Va) (B : Bool) : Nat := if B = true then az u else 0
/-- What has been met. -/
def metS (u : Va) (f : Nat → Nat) (left : Lit → Bool) : Nat := sm (fun i => if left (kS (gm u.pc i).nm) then 0 else f i) u.pc.length
theorem metS_step {u : Va} (hd : Dis u.pc) (f : Nat → Nat) {left : Lit → Bool} {i : Nat} (hi : i < u.pc.length) (hl : left (kS (gm u.pc i).nm) = true) :
    metS u f (fun z => left z && !z.sameKey (kS (gm u.pc i).nm)) = metS u f left + f i := by
  unfold metS
  have e := sm_step (f := fun j => if left (kS (gm u.pc j).nm) then 0 else f j) (g := fun j => if (left (kS (gm u.pc j).nm) && !(kS (gm u.pc j).nm).sameKey (kS (gm u.pc i).nm)) then 0 else f j) hi (by simp [hl]) (fun j hj hji => by
    have : (gm u.pc j).nm ≠ (gm u.pc i).nm := by
      rcases Nat.lt_or_gt_of_ne hji with q | q
      · exact hd i j q hi
      · exact (hd j i q hj).symm
    simp [sameKey_S, this])
  simp only [sameKey_S, decide_true, Bool.not_true, Bool.and_false, Bool.false_eq_true, if_false] at e
  simp only [sameKey_S]
  exact e
theorem metS_le {u : Va} {f : Nat → Nat} {M : Nat} (h : ∀ i, i < u.pc.length → f i ≤ M) (left : Lit → Bool) : metS u f left ≤ u.pc.length * M :=
  sm_le _ (fun i hi => by split; omega; exact h i hi)
theorem tf_small {u : Va} (hg : GV u) (i : Nat) : tf u.fs u.fs.length i ≤ 4000 := by
  have key : ∀ j, j ≤ u.fs.length → tf u.fs j i ≤ j * 200 := by
    intro j
    induction j with
    | zero => intro _; simp [tf]
    | succ j ih =>
      intro hj
      have h1 := ih (by omega)
      have h2 := (hg.2.1 j (by omega)).2
      have h3 := tf_count_le (gf u.fs j) i
      rw [tf, Nat.succ_mul]
      omega
  have := key u.fs.length (Nat.le_refl _)
  have := hg.1.2
  omega
end Go.Proofs.Ytfphffbclpmobaa
