import Derived.Test.YtfphffbclpmobaaK1
/- Both sides: the pieces of a text. -/
namespace Go.Proofs.Ytfphffbclpmobaa
open Go.ChangeShapes Go.WideShapes Go.ChangeAt Go.RowKit
set_option linter.unusedVariables false
open Hd

attribute [local go_sem] Oper.semAt_some

theorem cuR_mid (s : ByteArray) (i : Nat) (h : i < (cuR s).length) : ∃ n : Nat, gi (cuR s) i = (n : Int) ∧ bg (cuR s) i ≤ n ∧ n ≤ s.size := by
  unfold cuR at *
  split at h
  · rename_i hs
    simp only [if_pos hs]
    exact cut_mid s i h
  · simp at h
/-- What PiecesOf tells. -/
def paR (s : ByteArray) : List ByteArray := pcs s (cuR s) (cuR s).length
theorem paR_len (s : ByteArray) : (paR s).length ≤ 400 := by
  unfold paR
  rw [pcs_len]
  exact cuR_len s
end Go.Proofs.Ytfphffbclpmobaa
