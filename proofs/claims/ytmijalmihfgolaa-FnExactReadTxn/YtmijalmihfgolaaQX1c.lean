import Derived.Test.YtmijalmihfgolaaQW4c
namespace Go.Proofs.Ytmijalmihfgolaa
open Go.ChangeShapes Go.WideShapes Go.ChangeAt Go.RowKit
set_option linter.unusedVariables false
open Tx

attribute [local go_sem] Oper.semAt_some


def bools (n : Nat) (K : Nat → Bool) (c : Array Value) : Prop := ∀ i, i < n → c[i]? = some (.bool (K i))
theorem info4 : (Try.prog.info? 4).map (fun i => (i.zero, i.size, i.bytes)) = some (some (.bool false), 1, 1) := by kernel_rfl
theorem Mine.bools {w : World} {B C : Nat} {e : TypeId} {n : Nat} {a : Option Addr} {K : Nat → Bool} (h : Mine w B C e n a (bools n K)) : At w a n fun i => .bool (K i) := by
  intro hn
  rcases h with h | ⟨b, c, g1, g2, h3, h4, h5⟩
  · exact absurd h hn
  · exact ⟨b, 0, h3, fun i hi => by simp [World.cell?, h4, h5 i hi]⟩

/-- Of the first k indices those that K keeps. -/
def kidx (K : Nat → Bool) (k : Nat) : List Nat := (List.range k).filter K
theorem kidx_succ (K : Nat → Bool) (k : Nat) : kidx K (k + 1) = kidx K k ++ (bif K k then [k] else []) := by
  unfold kidx
  rw [List.range_succ, List.filter_append]
  cases h : K k <;> simp [h]
theorem kidx_len (K : Nat → Bool) (k : Nat) : (kidx K k).length ≤ k := by
  have := List.length_filter_le K (List.range k)
  rw [List.length_range] at this
  exact this
theorem kidx_lt (K : Nat → Bool) (k : Nat) {i : Nat} (h : i ∈ kidx K k) : i < k := by
  unfold kidx at h
  rw [List.mem_filter, List.mem_range] at h
  exact h.1
def kT (K : Nat → Bool) (m : Nat) (T : Nat → Int) : Nat → Int := fun j => T ((kidx K m).getD j 0)
def kU (K : Nat → Bool) (m : Nat) (U : Nat → ByteArray) : Nat → ByteArray := fun j => U ((kidx K m).getD j 0)
/-- The cells of the writes at a list of indices. -/
def wrtL (l : List Nat) (T : Nat → Int) (U : Nat → ByteArray) : List Value := l.flatMap fun i => [.int .i64 (T i), .string (U i)]
theorem wrtL_cells (T : Nat → Int) (U : Nat → ByteArray) (l : List Nat) : wrtL l T U = wrtCells l.length (fun j => T (l.getD j 0)) (fun j => U (l.getD j 0)) := by
  unfold wrtL wrtCells
  have e : l = (List.range l.length).map fun j => l.getD j 0 := by
    apply List.ext_getElem
    · simp
    · intro i h1 h2
      simp [h1]
  exact (congrArg (List.flatMap fun i => [Value.int .i64 (T i), Value.string (U i)]) e).trans (by rw [List.flatMap_map])
theorem wrtL_succ (K : Nat → Bool) (k : Nat) (T : Nat → Int) (U : Nat → ByteArray) (h : K k = true) : wrtL (kidx K k) T U ++ [.int .i64 (T k), .string (U k)] = wrtL (kidx K (k + 1)) T U := by
  rw [kidx_succ, h]; simp [wrtL]
theorem kidx_same (K : Nat → Bool) (k : Nat) (h : K k = false) : kidx K (k + 1) = kidx K k := by rw [kidx_succ, h]; simp
theorem kidx_more (K : Nat → Bool) (k : Nat) (h : K k = true) : (kidx K (k + 1)).length = (kidx K k).length + 1 := by rw [kidx_succ, h]; simp
theorem kept_fits {n m : Nat} {T : Nat → Int} {U : Nat → ByteArray} {K : Nat → Bool} (h : ∀ i, i < m → fitB n (T i) (U i) = true) : ∀ i, i < (kidx K m).length → fitB n (kT K m T i) (kU K m U i) = true := by
  intro i hi
  have hg : (kidx K m).getD i 0 = (kidx K m)[i] := by simp [hi]
  have := kidx_lt K m (List.getElem_mem hi)
  unfold kT kU
  rw [hg]
  exact h _ this
end Go.Proofs.Ytmijalmihfgolaa
