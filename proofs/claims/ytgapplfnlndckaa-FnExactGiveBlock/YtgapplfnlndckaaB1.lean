import Derived.Test.YtgapplfnlndckaaB0
/- Rows of blocks, and what only looks at one or two blocks. -/
namespace Go.Proofs.Ytgapplfnlndckaa
open Go.ChangeShapes Go.WideShapes Go.ChangeAt Go.RowKit
set_option linter.unusedVariables false
open Room

attribute [local go_sem] Oper.semAt_some

/-- An block as a value. -/
abbrev xv (x : Ex) : Value := .agg #[.int .i64 x.1, .int .i64 x.2]
/-- The block at a place of a list. -/
def gx (l : List Ex) (i : Nat) : Ex := l.getD i (0, 0)
/-- A row of blocks that can be read. -/
def RowX (w : World) (a : Option Addr) (n : Nat) (f : Nat → Ex) : Prop :=
  n ≠ 0 → ∃ b off, a = some ⟨b, off, none⟩ ∧ ∀ i, i < n → w.cell? ⟨b, off + i * 2, none⟩ = some (.int .i64 (f i).1) ∧ w.cell? ⟨b, off + i * 2 + 1, none⟩ = some (.int .i64 (f i).2)
theorem RowX.below {w w' : World} {a : Option Addr} {n : Nat} {f : Nat → Ex} (h : RowX w a n f) (hb : Below w.heap.size w w') : RowX w' a n f := by
  intro hn
  obtain ⟨b, off, rfl, hc⟩ := h hn
  exact ⟨b, off, rfl, fun i hi => ⟨cell_on (hc i hi).1 hb, cell_on (hc i hi).2 hb⟩⟩
abbrev Exs (w : World) (a : Option Addr) (l : List Ex) : Prop := RowX w a l.length (gx l)
/-- A row's cells hold these blocks. -/
def exsN (n : Nat) (f : Nat → Ex) (c : Array Value) : Prop := ∀ i, i < n → c[i * 2]? = some (.int .i64 (f i).1) ∧ c[i * 2 + 1]? = some (.int .i64 (f i).2)
/-- A row of blocks that was made between two marks of the heap. -/
abbrev MineX (w : World) (B C : Nat) (a : Option Addr) (n : Nat) (f : Nat → Ex) : Prop := Mine w B C 43 n a (exsN n f)
abbrev Own (w : World) (B C : Nat) (a : Option Addr) (l : List Ex) : Prop := MineX w B C a l.length (gx l)
theorem MineX.row {w : World} {B C : Nat} {a : Option Addr} {n : Nat} {f : Nat → Ex} (h : MineX w B C a n f) : RowX w a n f := by
  intro hn
  rcases h with h | ⟨b, c, g1, g2, h3, h4, h5⟩
  · exact absurd h hn
  · exact ⟨b, 0, h3, fun i hi => by simp only [Nat.zero_add]; exact ⟨cell_of_block h4 (h5 i hi).1, cell_of_block h4 (h5 i hi).2⟩⟩
theorem gx_eq {l : List Ex} {i : Nat} (h : i < l.length) : gx l i = l[i] := by simp [gx, h]
theorem info43 : (Try.prog.info? 43).map (fun i => (i.zero, i.size, i.bytes)) = some (some (.agg #[.int .i64 0, .int .i64 0]), 2, 16) := by kernel_rfl
theorem exsN_put {k n : Nat} {f : Nat → Ex} {c : Array Value} {p q : Int} (h : exsN k f c) (hc : n * 2 ≤ c.size) (hk : k < n) (hx : f k = (p, q)) : exsN (k + 1) f ((c.setIfInBounds (k * 2) (.int .i64 p)).setIfInBounds (k * 2 + 1) (.int .i64 q)) := by
  intro i hi
  by_cases e : i = k
  · subst e
    rw [set_ne (by omega), set_at (by omega), set_at (by simp; omega), hx]
    exact ⟨rfl, rfl⟩
  · rw [set_ne (by omega), set_ne (by omega), set_ne (by omega), set_ne (by omega)]
    exact h i (by omega)
theorem wrapI {z : Int} (h : -9223372036854775808 ≤ z) (h' : z ≤ 9223372036854775807) : IntKind.i64.wrap z = z := by
  simp only [IntKind.wrap, IntKind.bits, IntKind.signed]
  simp
  omega
theorem al1 (w : World) (o : Obj) : (w.alloc o).heap[w.heap.size]? = some o := heap_alloc_new w o
theorem sz1 (w : World) (o : Obj) : (w.alloc o).heap.size = w.heap.size + 1 := by simp
theorem al2 (w : World) (o p : Obj) : ((w.alloc o).alloc p).heap[w.heap.size]? = some o ∧ ((w.alloc o).alloc p).heap[w.heap.size + 1]? = some p :=
  ⟨box_on (al1 w o) (below_alloc _ _), by have := al1 (w.alloc o) p; rwa [sz1] at this⟩
theorem al3 (w : World) (o p q : Obj) : (((w.alloc o).alloc p).alloc q).heap[w.heap.size]? = some o ∧ (((w.alloc o).alloc p).alloc q).heap[w.heap.size + 1]? = some p ∧ (((w.alloc o).alloc p).alloc q).heap[w.heap.size + 1 + 1]? = some q :=
  ⟨box_on (al2 w o p).1 (below_alloc _ _), box_on (al2 w o p).2 (below_alloc _ _), by have := al1 ((w.alloc o).alloc p) q; rwa [sz1, sz1] at this⟩
theorem al4 (w : World) (o p q r : Obj) : ((((w.alloc o).alloc p).alloc q).alloc r).heap[w.heap.size]? = some o ∧ ((((w.alloc o).alloc p).alloc q).alloc r).heap[w.heap.size + 1]? = some p ∧ ((((w.alloc o).alloc p).alloc q).alloc r).heap[w.heap.size + 1 + 1]? = some q ∧ ((((w.alloc o).alloc p).alloc q).alloc r).heap[w.heap.size + 1 + 1 + 1]? = some r :=
  ⟨box_on (al3 w o p q).1 (below_alloc _ _), box_on (al3 w o p q).2.1 (below_alloc _ _), box_on (al3 w o p q).2.2 (below_alloc _ _), by have := al1 (((w.alloc o).alloc p).alloc q) r; rwa [sz1, sz1, sz1] at this⟩
theorem ba2 (w : World) (o p : Obj) : Below w.heap.size w ((w.alloc o).alloc p) := Below.comp (below_alloc w o) (below_alloc _ p)
theorem ba3 (w : World) (o p q : Obj) : Below w.heap.size w (((w.alloc o).alloc p).alloc q) := Below.comp (ba2 w o p) (below_alloc _ q)
theorem ba4 (w : World) (o p q r : Obj) : Below w.heap.size w ((((w.alloc o).alloc p).alloc q).alloc r) := Below.comp (ba3 w o p q) (below_alloc _ r)

theorem toBlock_any (x : Ex) (w : World) : Calls Try.prog 24 #[xv x] w fun e w' => e = .returned (xv x) ∧ Below w.heap.size w w' := by
  obtain ⟨p, q⟩ := x
  go_enter Try.func24, Try.ntmps24
  go_wp2
  exact bodyPost_ret (v := xv (p, q)) (by simp [results, Try.results24, go_sem]) rfl ⟨rfl, ba3 _ _ _ _⟩
theorem eqBlock_any (x y : Ex) (w : World) : Calls Try.prog 26 #[xv x, xv y] w fun e w' => e = .returned (.bool (decide (x = y))) ∧ Below w.heap.size w w' := by
  obtain ⟨p, q⟩ := x
  obtain ⟨p', q'⟩ := y
  go_enter Try.func26, Try.ntmps26
  go_wp2
  all_goals
    go_ret
    refine ⟨?_, ba2 _ _ _⟩
    simp_all
theorem l1In_any (x lo hi : Int) (w : World) : Calls Try.prog 31 #[.int .i64 x, .int .i64 lo, .int .i64 hi] w fun e w' => e = .returned (.bool (decide (lo ≤ x) && decide (x ≤ hi))) ∧ w' = w := by
  go_enter Try.func31, Try.ntmps31
  go_wp2
  all_goals
    go_ret
    refine ⟨?_, rfl⟩
    simp_all <;> omega
/-- A world with more draws, and blocks laid behind it. -/
def Gr (w w' : World) : Prop := ∃ q os, w' = Go.Sort.grow (w.drewN q) os
theorem Gr.refl (w : World) : Gr w w := ⟨0, #[], by rw [Go.Sort.grow_empty]; rfl⟩
theorem Gr.trans {a b c : World} (h : Gr a b) (k : Gr b c) : Gr a c := by
  obtain ⟨q, os, rfl⟩ := h
  obtain ⟨q', os', rfl⟩ := k
  exact ⟨q + q', os ++ os', by show Go.Sort.grow (Go.Sort.grow ((a.drewN q).drewN q') os) os' = _; rw [Go.Sort.grow_grow, World.drewN_drewN]⟩
theorem Gr.alloc {a b : World} (h : Gr a b) (o : Obj) : Gr a (b.alloc o) := h.trans ⟨0, #[o], by rw [Go.Sort.alloc_eq_grow]; rfl⟩
theorem Gr.drew {a b : World} (h : Gr a b) : Gr a b.drew := h.trans ⟨1, #[], by rw [Go.Sort.grow_empty]; rfl⟩
theorem Gr.below {a b : World} (h : Gr a b) : Below a.heap.size a b := by
  obtain ⟨q, os, rfl⟩ := h
  exact ⟨rfl, rfl, rfl, by simp [Go.Sort.grow, World.drewN], fun k hk => by simp [Go.Sort.grow, World.drewN, Array.getElem?_append, hk]⟩
/-- Ahead, behind, or neither. -/
def cmpI (x y : Int) : Int := if x < y then -1 else if y < x then 1 else 0
def orI (u v : Int) : Int := if u = 0 then v else u
def cfP (x y : Ex) : Int := cmpI x.1 y.1
theorem Compare_any (x y : Int) (w : World) : Calls Try.prog 61 #[.int .i64 x, .int .i64 y] w fun e w' => e = .returned (.int .i64 (cmpI x y)) ∧ w' = w := by
  unfold cmpI
  have hx : (x != x) = false := by simp
  have hy : (y != y) = false := by simp
  go_enter Try.func61, Try.ntmps61
  go_wp2
  all_goals
    go_ret
    refine ⟨?_, rfl⟩
    simp_all <;> omega
end Go.Proofs.Ytgapplfnlndckaa
