import Derived.Test.YtcfjkejaenmibaaDoorH2
/- The specification: a record put. -/
namespace Go.Proofs.YtcfjkejaenmibaaDoor
open Go.ChangeShapes Go.WideShapes Go.ChangeAt Go.RowKit
set_option linter.unusedVariables false
open Lg

attribute [local go_sem] Oper.semAt_some

/-- Whether a record may be put, and the record. -/
def ptB (l : List Sl) (h cy t : Int) (d : ByteArray) : Bool := gdB l h cy t && (decide (d.size ≤ 12) && (!(decide (h - t = (l.length : Int))) && !(decide (h = 10000000))))
def rec (cy t : Int) (d : ByteArray) : Sl := ⟨cy, t, d, smS ⟨cy, t, d, 0⟩⟩
def ptL (l : List Sl) (h cy t : Int) (d : ByteArray) : List Sl := l.set (h % l.length).toNat (rec cy t d)
theorem gs_set {l : List Sl} {j i : Nat} {x : Sl} (hj : j < l.length) : gs (l.set j x) i = if i = j then x else gs l i := by
  unfold gs
  by_cases h : i = j
  · subst h; simp [hj]
  · rw [if_neg h]; simp [Ne.symm h]
theorem slsN_set {n j : Nat} {l : List Sl} {c : Array Value} {x : Sl} (hc : slsN n (gs l) c) (hz : n * 4 ≤ c.size) (hj : j < n) (hn : l.length = n) :
    slsN n (gs (l.set j x)) ((((c.setIfInBounds (j * 4) (.int .i64 x.c)).setIfInBounds (j * 4 + 1) (.int .i64 x.t)).setIfInBounds (j * 4 + 2) (.string x.d)).setIfInBounds (j * 4 + 3) (.int .i64 x.s)) := by
  intro i hi
  rw [gs_set (by omega)]
  by_cases e : i = j
  · subst e
    rw [if_pos rfl]
    refine ⟨?_, ?_, ?_, ?_⟩
    · rw [set_ne (by omega), set_ne (by omega), set_ne (by omega), set_at (by omega)]
    · rw [set_ne (by omega), set_ne (by omega), set_at (by simp; omega)]
    · rw [set_ne (by omega), set_at (by simp; omega)]
    · rw [set_at (by simp; omega)]
  · rw [if_neg e]
    obtain ⟨h0, h1, h2, h3⟩ := hc i hi
    refine ⟨?_, ?_, ?_, ?_⟩ <;> rw [set_ne (by omega), set_ne (by omega), set_ne (by omega), set_ne (by omega)] <;> assumption
theorem box4_set1 {w : World} {b : Nat} {v0 v1 v2 v3 v : Value} {e : TypeId} {z : Nat × Nat} (h : w.heap[b]? = some (.cells #[v0, v1, v2, v3] e z)) : (w.setCell ⟨b, 1, none⟩ v).heap[b]? = some (.cells #[v0, v, v2, v3] e z) := by
  rw [block_setz h]; rfl
theorem box4_set2 {w : World} {b : Nat} {v0 v1 v2 v3 v : Value} {e : TypeId} {z : Nat × Nat} (h : w.heap[b]? = some (.cells #[v0, v1, v2, v3] e z)) : (w.setCell ⟨b, 2, none⟩ v).heap[b]? = some (.cells #[v0, v1, v, v3] e z) := by
  rw [block_setz h]; rfl
end Go.Proofs.YtcfjkejaenmibaaDoor
