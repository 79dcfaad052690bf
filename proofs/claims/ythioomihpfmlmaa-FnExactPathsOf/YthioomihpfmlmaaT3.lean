import Derived.Test.YthioomihpfmlmaaT2
/- The program: a path cut into names. -/
namespace Go.Proofs.Ythioomihpfmlmaa
open Go.ChangeShapes Go.WideShapes Go.ChangeAt Go.RowKit
set_option linter.unusedVariables false
open Hd

attribute [local go_sem] Oper.semAt_some

def subS (x : Option Addr) (k c : Nat) : Option Addr := if c = k then x else x.map (·.add (k * 1))
theorem sliceS_from (x : Option Addr) (n c k : Nat) (h : k ≤ n) (w : World) : (Instr.slice 36 (.slice x n c) (some (.int .i64 (k : Int))) none none).run Try.prog w = .ok (.slice (subS x k c) (n - k) (c - k)) w := by
  rw [run_slice_l w 36 x n c (by kernel_rfl) .i64 k (by omega) (by omega), show Try.prog.elem 36 = 9 from by kernel_rfl, Try.sizeOf9]
  simp [Result.andThen, sliced, subS]
theorem gs_drop {l : List ByteArray} {k i : Nat} : gs (l.drop k) i = gs l (k + i) := by simp [gs]
theorem Strs.drop {w : World} {a : Option Addr} {l : List ByteArray} (h : Strs w a l) (c k : Nat) (hc : l.length ≤ c) : Strs w (subS a k c) (l.drop k) := by
  intro hn
  simp at hn
  obtain ⟨b, off, rfl, hcell⟩ := h (by omega)
  refine ⟨b, off + k, ?_, fun i hi => ?_⟩
  · unfold subS
    rw [if_neg (by omega)]
    show some ((⟨b, off, none⟩ : Addr).add (k * 1)) = _
    rw [addN, Nat.mul_one]
  · simp at hi
    show w.cell? _ = some (.string (gs (l.drop k) i))
    rw [gs_drop]
    have := hcell (k + i) (by omega)
    rw [show off + k + i = off + (k + i) by omega]
    exact this
theorem Strs.on {w w' : World} {a : Option Addr} {l : List ByteArray} (h : Strs w a l) (hb : Below w.heap.size w w') : Strs w' a l := At.below h hb
theorem ext_small (p : ByteArray) (i j : Nat) : (p.extract i j).size ≤ p.size := by rw [ByteArray.size_extract]; omega
theorem pcs_small (p : ByteArray) : ∀ (m k : Nat), p.size - k ≤ m → k ≤ p.size → ∀ x, x ∈ pcs p k → x.size ≤ p.size := by
  intro m
  induction m with
  | zero =>
    intro k hk hk' x hx
    rw [pcs_step hk', nx_end (by omega), if_neg (by omega)] at hx
    rcases List.mem_cons.1 hx with e | e
    · rw [e]; exact ext_small _ _ _
    · cases e
  | succ m ih =>
    intro k hk hk' x hx
    rw [pcs_step hk'] at hx
    rcases List.mem_cons.1 hx with e | e
    · rw [e]; exact ext_small _ _ _
    · by_cases h : nx p k < p.size
      · rw [if_pos h] at e
        have hge := nx_ge p k
        exact ih _ (by omega) (by omega) x e
      · rw [if_neg h] at e
        cases e
end Go.Proofs.Ythioomihpfmlmaa
