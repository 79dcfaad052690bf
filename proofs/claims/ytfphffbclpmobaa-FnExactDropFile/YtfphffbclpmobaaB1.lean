import Derived.Test.YtfphffbclpmobaaB0
/- Rows of ints and of kept texts in memory. -/
namespace Go.Proofs.Ytfphffbclpmobaa
open Go.ChangeShapes Go.WideShapes Go.ChangeAt Go.RowKit
set_option linter.unusedVariables false
open Hd

attribute [local go_sem] Oper.semAt_some

/-- Texts of an int's size. -/
def FewN (l : List Nm) : Prop := l.length ≤ 9223372036854775807 ∧ ∀ i, i < l.length → (gm l i).nm.size ≤ 9223372036854775807
theorem wrapI {z : Int} (h : -9223372036854775808 ≤ z) (h' : z ≤ 9223372036854775807) : IntKind.i64.wrap z = z := by
  simp only [IntKind.wrap, IntKind.bits, IntKind.signed]
  simp
  omega
theorem al1 (w : World) (o : Obj) : (w.alloc o).heap[w.heap.size]? = some o := heap_alloc_new w o
theorem sz1 (w : World) (o : Obj) : (w.alloc o).heap.size = w.heap.size + 1 := by simp
theorem al2 (w : World) (o p : Obj) : ((w.alloc o).alloc p).heap[w.heap.size]? = some o ∧ ((w.alloc o).alloc p).heap[w.heap.size + 1]? = some p :=
  ⟨box_on (al1 w o) (below_alloc _ _), by have := al1 (w.alloc o) p; rwa [sz1] at this⟩
theorem al3 (w : World) (o p q : Obj) : (((w.alloc o).alloc p).alloc q).heap[w.heap.size]? = some o ∧ (((w.alloc o).alloc p).alloc q).heap[w.heap.size + 1]? = some p ∧ (((w.alloc o).alloc p).alloc q).heap[w.heap.size + 1 + 1]? = some q :=
  ⟨box_on (al2 w o p).1 (below_alloc _ _), box_on (al2 w o p).2 (below_alloc _ _), by have := al1 ((w.alloc o).alloc p) q; rwa [sz1, sz1] at this⟩
theorem ba2 (w : World) (o p : Obj) : Below w.heap.size w ((w.alloc o).alloc p) := Below.comp (below_alloc w o) (below_alloc _ p)
theorem ba3 (w : World) (o p q : Obj) : Below w.heap.size w (((w.alloc o).alloc p).alloc q) := Below.comp (ba2 w o p) (below_alloc _ q)
abbrev iv (x : Int) : Value := .int .i64 x
/-- A row of ints that can be read. -/
abbrev Ints (w : World) (a : Option Addr) (l : List Int) : Prop := At w a l.length (fun i => iv (gi l i))
theorem Ints.nil {w : World} {a : Option Addr} : Ints w a [] := fun h => absurd rfl h
/-- A name as a value, and its cells. -/
abbrev nv (x : Nm) : Value := .agg #[.string x.nm, .int .i64 x.fl]
def NmAt (w : World) (b o : Nat) (x : Nm) : Prop := w.cell? ⟨b, o, none⟩ = some (.string x.nm) ∧ w.cell? ⟨b, o + 1, none⟩ = some (.int .i64 x.fl)
theorem NmAt.below {w w' : World} {b o : Nat} {x : Nm} (h : NmAt w b o x) (hb : Below w.heap.size w w') : NmAt w' b o x := ⟨cell_on h.1 hb, cell_on h.2 hb⟩
/-- A row of names that can be read. -/
def Nms (w : World) (a : Option Addr) (l : List Nm) : Prop :=
  l.length ≠ 0 → ∃ b off, a = some ⟨b, off, none⟩ ∧ ∀ i, i < l.length → NmAt w b (off + i * 2) (gm l i)
theorem Nms.nil {w : World} {a : Option Addr} : Nms w a [] := fun h => absurd rfl h
theorem Nms.below {w w' : World} {a : Option Addr} {l : List Nm} (h : Nms w a l) (hb : Below w.heap.size w w') : Nms w' a l := by
  intro hn
  obtain ⟨b, off, rfl, hc⟩ := h hn
  exact ⟨b, off, rfl, fun i hi => (hc i hi).below hb⟩
theorem l1In_any (x lo hi : Int) (w : World) : Calls Try.prog 14 #[.int .i64 x, .int .i64 lo, .int .i64 hi] w fun e w' => e = .returned (.bool (decide (lo ≤ x) && decide (x ≤ hi))) ∧ w' = w := by
  go_enter Try.func14, Try.ntmps14
  go_wp2
  all_goals
    go_ret
    refine ⟨?_, rfl⟩
    simp_all <;> omega
end Go.Proofs.Ytfphffbclpmobaa
