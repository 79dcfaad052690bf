import Derived.Test.YtpolhigpcllhiaaKQ
/- The law of PromiseFree. -/
namespace Go.Proofs.Ytpolhigpcllhiaa
open Go.ChangeShapes Go.WideShapes Go.ChangeAt Go.RowKit
set_option linter.unusedVariables false
open Room

theorem okP_len {b : Int} {l s : List Ex} {nx : Int} {t : List It} {x : Ex} : (wiL (okP b l s nx t x) l).length ≤ 1000 ∧ (wiL (okP b l s nx t x) s).length ≤ 1000 ∧ (wiL (okP b l s nx t x) (t ++ [⟨1, nx, x, 0⟩])).length ≤ 1000 := by
  cases h : okP b l s nx t x with
  | false => exact ⟨by simp [wiL], by simp [wiL], by simp [wiL]⟩
  | true =>
    unfold okP at h
    have h1 := gw_nx (Bool.and_eq_true_iff.1 h).1
    have e1 : (t ++ [(⟨1, nx, x, 0⟩ : It)]).length = t.length + 1 := by simp
    refine ⟨?_, ?_, ?_⟩
    · show l.length ≤ 1000; omega
    · show s.length ≤ 1000; omega
    · show (t ++ [_]).length ≤ 1000; rw [e1]; omega
theorem lawPromiseFree (b : Int) (a : Option Addr) (ca : Nat) (a' : Option Addr) (ca' : Nat) (l s : List Ex) (nx : Int) (i : Option Addr) (ci : Nat) (t : List It) (x : Ex) (w : World) (hb : -9223372036854775808 ≤ b ∧ b ≤ 9223372036854775807) (hnx : -9223372036854775808 ≤ nx ∧ nx ≤ 9223372036854775807) (hn : l.length ≤ 9223372036854775807) (hn' : s.length ≤ 9223372036854775807) (hm : t.length ≤ 9223372036854775807) (ha : Exs w a l) (ha' : Exs w a' s) (hi : Its w i t) (hx : ∀ x, x ∈ l → Fit x) (hxi : ∀ x, x ∈ t → FitI x) (hX : Fit x) :
    Calls Try.prog 5 #[wv b a l.length ca a' s.length ca' nx i t.length ci, xv x] w fun e w' => e = .returned (.bool true) ∧ Below w.heap.size w w' := by
  obtain ⟨p, q⟩ := x
  exact lawPromise_of b a ca a' ca' l s nx i ci t p q w hn hn' hm ha ha' hi _ _ _ _ _ _ _ _ _ _ okP_len.1 okP_len.2.1 okP_len.2.2
    (fun W v h1 h2 h3 h => by
      obtain ⟨y, c, y', c', z, cz, rfl, k1, k2, k3, k4⟩ := h
      exact specPromise_any b y c y' c' l s nx z cz t (p, q) W hb.1 hb.2 h1 h2 h3 k4 hxi ⟨hX.1.2, hX.2.1⟩ k1 k2 k3)
    (fun W v h1 h2 h3 h => by
      obtain ⟨y, c, y', c', z, cz, rfl, k1, k2, k3, k4⟩ := h
      exact implPromise_any b y c y' c' l s nx z cz t (p, q) W h1 h2 h3 hnx.1 hnx.2 (fun x hx' => (hx x hx').1.2) (fun x hx' => (hxi x hx').1) hX.1.2 k1 k2 k3)
end Go.Proofs.Ytpolhigpcllhiaa
