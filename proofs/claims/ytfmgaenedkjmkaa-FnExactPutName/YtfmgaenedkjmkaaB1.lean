import Derived.Test.YtfmgaenedkjmkaaB0
/- Rows of ints, of names and of buckets in memory. -/
namespace Go.Proofs.Ytfmgaenedkjmkaa
open Go.ChangeShapes Go.WideShapes Go.ChangeAt Go.RowKit
set_option linter.unusedVariables false
open Hd

attribute [local go_sem] Oper.semAt_some

theorem wrapI {z : Int} (h : -9223372036854775808 ≤ z) (h' : z ≤ 9223372036854775807) : IntKind.i64.wrap z = z := by
  simp only [IntKind.wrap, IntKind.bits, IntKind.signed]
  simp
  omega
theorem al1 (w : World) (o : Obj) : (w.alloc o).heap[w.heap.size]? = some o := heap_alloc_new w o
theorem sz1 (w : World) (o : Obj) : (w.alloc o).heap.size = w.heap.size + 1 := by simp
theorem al2 (w : World) (o p : Obj) : ((w.alloc o).alloc p).heap[w.heap.size]? = some o ∧ ((w.alloc o).alloc p).heap[w.heap.size + 1]? = some p :=
  ⟨box_on (al1 w o) (below_alloc _ _), by have := al1 (w.alloc o) p; rwa [sz1] at this⟩
theorem al3 (w : World) (o p q : Obj) : (((w.alloc o).alloc p).alloc q).heap[w.heap.size]? = some o ∧ (((w.alloc o).alloc p).alloc q).heap[w.heap.size + 1]? = some p ∧ (((w.alloc o).alloc p).alloc q).heap[w.heap.size + 1 + 1]? = some q :=
  ⟨box_on (al2 w o p).1 (below_alloc _ _), box_on (al2 w o p).2 (below_alloc _ _), by have := al1 ((w.alloc o).alloc p) q; rwa [sz1, sz1] at this⟩
theorem ba2 (w : World) (o p : Obj) : Below w.heap.size w ((w.alloc o).alloc p) := Below.comp (below_alloc w o) (below_alloc _ p)
theorem ba3 (w : World) (o p q : Obj) : Below w.heap.size w (((w.alloc o).alloc p).alloc q) := Below.comp (ba2 w o p) (below_alloc _ q)

abbrev iv (x : Int) : Value := .int .i64 x
/-- A row of ints that can be read. -/
abbrev Ints (w : World) (a : Option Addr) (l : List Int) : Prop := At w a l.length (fun i => iv (gi l i))
theorem Ints.nil {w : World} {a : Option Addr} : Ints w a [] := fun h => absurd rfl h
/-- A name as a value, and its cells. -/
abbrev nv (x : Nm) : Value := .agg #[.string x.nm, .int .i64 x.fl]
def NmAt (w : World) (b o : Nat) (x : Nm) : Prop := w.cell? ⟨b, o, none⟩ = some (.string x.nm) ∧ w.cell? ⟨b, o + 1, none⟩ = some (.int .i64 x.fl)
theorem NmAt.below {w w' : World} {b o : Nat} {x : Nm} (h : NmAt w b o x) (hb : Below w.heap.size w w') : NmAt w' b o x := ⟨cell_on h.1 hb, cell_on h.2 hb⟩
/-- A row of names that can be read. -/
def Nms (w : World) (a : Option Addr) (l : List Nm) : Prop :=
  l.length ≠ 0 → ∃ b off, a = some ⟨b, off, none⟩ ∧ ∀ i, i < l.length → NmAt w b (off + i * 2) (gm l i)
theorem Nms.nil {w : World} {a : Option Addr} : Nms w a [] := fun h => absurd rfl h
theorem Nms.below {w w' : World} {a : Option Addr} {l : List Nm} (h : Nms w a l) (hb : Below w.heap.size w w') : Nms w' a l := by
  intro hn
  obtain ⟨b, off, rfl, hc⟩ := h hn
  exact ⟨b, off, rfl, fun i hi => (hc i hi).below hb⟩
/-- A bucket's cells. -/
def BkAt (w : World) (b o : Nat) (x : Bk) : Prop :=
  ∃ a c, w.cell? ⟨b, o, none⟩ = some (.int .i64 x.dp) ∧ w.cell? ⟨b, o + 1, none⟩ = some (.slice a x.ns.length c) ∧ Nms w a x.ns ∧ x.ns.length ≤ c
theorem BkAt.below {w w' : World} {b o : Nat} {x : Bk} (h : BkAt w b o x) (hb : Below w.heap.size w w') : BkAt w' b o x := by
  obtain ⟨a, c, h0, h1, h2, h3⟩ := h
  exact ⟨a, c, cell_on h0 hb, cell_on h1 hb, h2.below hb, h3⟩
/-- A row of buckets that can be read. -/
def Bks (w : World) (a : Option Addr) (l : List Bk) : Prop :=
  l.length ≠ 0 → ∃ b off, a = some ⟨b, off, none⟩ ∧ ∀ i, i < l.length → BkAt w b (off + i * 2) (gb l i)
theorem Bks.nil {w : World} {a : Option Addr} : Bks w a [] := fun h => absurd rfl h
theorem Bks.below {w w' : World} {a : Option Addr} {l : List Bk} (h : Bks w a l) (hb : Below w.heap.size w w') : Bks w' a l := by
  intro hn
  obtain ⟨b, off, rfl, hc⟩ := h hn
  exact ⟨b, off, rfl, fun i hi => (hc i hi).below hb⟩
/-- A directory as a value. -/
abbrev dv (d : Int) (a : Option Addr) (n c : Nat) (a' : Option Addr) (n' c' : Nat) : Value := .agg #[.int .i64 d, .slice a n c, .slice a' n' c']
/-- How many names the first buckets hold. -/
def nk (L : List Bk) : Nat → Nat
  | 0 => 0
  | k + 1 => nk L k + (gb L k).ns.length
theorem nk_le {L : List Bk} {i k : Nat} (h : i < k) : (gb L i).ns.length ≤ nk L k := by
  induction k with
  | zero => omega
  | succ k ih =>
    rw [nk]
    by_cases e : i = k
    · subst e; omega
    · have := ih (by omega); omega
theorem nk_mono {L : List Bk} {q : Nat} (h : q < L.length) : nk L (q + 1) ≤ nk L L.length := by
  have key : ∀ j, q + 1 + j ≤ L.length → nk L (q + 1) ≤ nk L (q + 1 + j) := by
    intro j
    induction j with
    | zero => intro _; exact Nat.le_refl _
    | succ j ih => intro hj; have := ih (by omega); show _ ≤ nk L (q + 1 + j) + _; omega
  have := key (L.length - (q + 1)) (by omega)
  rwa [show q + 1 + (L.length - (q + 1)) = L.length by omega] at this

theorem l1In_any (x lo hi : Int) (w : World) : Calls Try.prog 30 #[.int .i64 x, .int .i64 lo, .int .i64 hi] w fun e w' => e = .returned (.bool (decide (lo ≤ x) && decide (x ≤ hi))) ∧ w' = w := by
  go_enter Try.func30, Try.ntmps30
  go_wp2
  all_goals
    go_ret
    refine ⟨?_, rfl⟩
    simp_all <;> omega
end Go.Proofs.Ytfmgaenedkjmkaa
