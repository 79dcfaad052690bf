import Derived.Test.YtpafeophdgnkmaaB0
/- Rows of extents, and what only looks at one or two extents. -/
namespace Go.Proofs.Ytpafeophdgnkmaa
open Go.ChangeShapes Go.WideShapes Go.ChangeAt Go.RowKit
set_option linter.unusedVariables false
open Room

attribute [local go_sem] Oper.semAt_some

/-- An extent as a value. -/
abbrev xv (x : Ex) : Value := .agg #[.int .i64 x.1, .int .i64 x.2]
/-- The extent at a place of a list. -/
def gx (l : List Ex) (i : Nat) : Ex := l.getD i (0, 0)
/-- A row of extents that can be read. -/
def RowX (w : World) (a : Option Addr) (n : Nat) (f : Nat → Ex) : Prop :=
  n ≠ 0 → ∃ b off, a = some ⟨b, off, none⟩ ∧ ∀ i, i < n → w.cell? ⟨b, off + i * 2, none⟩ = some (.int .i64 (f i).1) ∧ w.cell? ⟨b, off + i * 2 + 1, none⟩ = some (.int .i64 (f i).2)
theorem RowX.below {w w' : World} {a : Option Addr} {n : Nat} {f : Nat → Ex} (h : RowX w a n f) (hb : Below w.heap.size w w') : RowX w' a n f := by
  intro hn
  obtain ⟨b, off, rfl, hc⟩ := h hn
  exact ⟨b, off, rfl, fun i hi => ⟨cell_on (hc i hi).1 hb, cell_on (hc i hi).2 hb⟩⟩
abbrev Exs (w : World) (a : Option Addr) (l : List Ex) : Prop := RowX w a l.length (gx l)
/-- A row's cells hold these extents. -/
def exsN (n : Nat) (f : Nat → Ex) (c : Array Value) : Prop := ∀ i, i < n → c[i * 2]? = some (.int .i64 (f i).1) ∧ c[i * 2 + 1]? = some (.int .i64 (f i).2)
/-- A row of extents that was made between two marks of the heap. -/
abbrev MineX (w : World) (B C : Nat) (a : Option Addr) (n : Nat) (f : Nat → Ex) : Prop := Mine w B C 36 n a (exsN n f)
abbrev Own (w : World) (B C : Nat) (a : Option Addr) (l : List Ex) : Prop := MineX w B C a l.length (gx l)
theorem MineX.row {w : World} {B C : Nat} {a : Option Addr} {n : Nat} {f : Nat → Ex} (h : MineX w B C a n f) : RowX w a n f := by
  intro hn
  rcases h with h | ⟨b, c, g1, g2, h3, h4, h5⟩
  · exact absurd h hn
  · exact ⟨b, 0, h3, fun i hi => by simp only [Nat.zero_add]; exact ⟨cell_of_block h4 (h5 i hi).1, cell_of_block h4 (h5 i hi).2⟩⟩
theorem gx_eq {l : List Ex} {i : Nat} (h : i < l.length) : gx l i = l[i] := by simp [gx, h]
theorem info31 : (Try.prog.info? 36).map (fun i => (i.zero, i.size, i.bytes)) = some (some (.agg #[.int .i64 0, .int .i64 0]), 2, 16) := by kernel_rfl
theorem exsN_put {k n : Nat} {f : Nat → Ex} {c : Array Value} {p q : Int} (h : exsN k f c) (hc : n * 2 ≤ c.size) (hk : k < n) (hx : f k = (p, q)) : exsN (k + 1) f ((c.setIfInBounds (k * 2) (.int .i64 p)).setIfInBounds (k * 2 + 1) (.int .i64 q)) := by
  intro i hi
  by_cases e : i = k
  · subst e
    rw [set_ne (by omega), set_at (by omega), set_at (by simp; omega), hx]
    exact ⟨rfl, rfl⟩
  · rw [set_ne (by omega), set_ne (by omega), set_ne (by omega), set_ne (by omega)]
    exact h i (by omega)
theorem wrapI {z : Int} (h : -9223372036854775808 ≤ z) (h' : z ≤ 9223372036854775807) : IntKind.i64.wrap z = z := by
  simp only [IntKind.wrap, IntKind.bits, IntKind.signed]
  simp
  omega
theorem al1 (w : World) (o : Obj) : (w.alloc o).heap[w.heap.size]? = some o := heap_alloc_new w o
theorem sz1 (w : World) (o : Obj) : (w.alloc o).heap.size = w.heap.size + 1 := by simp
theorem al2 (w : World) (o p : Obj) : ((w.alloc o).alloc p).heap[w.heap.size]? = some o ∧ ((w.alloc o).alloc p).heap[w.heap.size + 1]? = some p :=
  ⟨box_on (al1 w o) (below_alloc _ _), by have := al1 (w.alloc o) p; rwa [sz1] at this⟩
theorem al3 (w : World) (o p q : Obj) : (((w.alloc o).alloc p).alloc q).heap[w.heap.size]? = some o ∧ (((w.alloc o).alloc p).alloc q).heap[w.heap.size + 1]? = some p ∧ (((w.alloc o).alloc p).alloc q).heap[w.heap.size + 1 + 1]? = some q :=
  ⟨box_on (al2 w o p).1 (below_alloc _ _), box_on (al2 w o p).2 (below_alloc _ _), by have := al1 ((w.alloc o).alloc p) q; rwa [sz1, sz1] at this⟩
theorem al4 (w : World) (o p q r : Obj) : ((((w.alloc o).alloc p).alloc q).alloc r).heap[w.heap.size]? = some o ∧ ((((w.alloc o).alloc p).alloc q).alloc r).heap[w.heap.size + 1]? = some p ∧ ((((w.alloc o).alloc p).alloc q).alloc r).heap[w.heap.size + 1 + 1]? = some q ∧ ((((w.alloc o).alloc p).alloc q).alloc r).heap[w.heap.size + 1 + 1 + 1]? = some r :=
  ⟨box_on (al3 w o p q).1 (below_alloc _ _), box_on (al3 w o p q).2.1 (below_alloc _ _), box_on (al3 w o p q).2.2 (below_alloc _ _), by have := al1 (((w.alloc o).alloc p).alloc q) r; rwa [sz1, sz1, sz1] at this⟩
theorem ba2 (w : World) (o p : Obj) : Below w.heap.size w ((w.alloc o).alloc p) := Below.comp (below_alloc w o) (below_alloc _ p)
theorem ba3 (w : World) (o p q : Obj) : Below w.heap.size w (((w.alloc o).alloc p).alloc q) := Below.comp (ba2 w o p) (below_alloc _ q)
theorem ba4 (w : World) (o p q r : Obj) : Below w.heap.size w ((((w.alloc o).alloc p).alloc q).alloc r) := Below.comp (ba3 w o p q) (below_alloc _ r)

theorem eqExtent_any (x y : Ex) (w : World) : Calls Try.prog 45 #[xv x, xv y] w fun e w' => e = .returned (.bool (decide (x = y))) ∧ Below w.heap.size w w' := by
  obtain ⟨p, q⟩ := x
  obtain ⟨p', q'⟩ := y
  go_enter Try.func45, Try.ntmps45
  go_wp2
  all_goals
    go_ret
    refine ⟨?_, ba2 _ _ _⟩
    simp_all
theorem l5Less_any (x y : Ex) (w : World) : Calls Try.prog 35 #[xv x, xv y] w fun e w' => e = .returned (.bool (ltS x y)) ∧ Below w.heap.size w w' := by
  obtain ⟨p, q⟩ := x
  obtain ⟨p', q'⟩ := y
  go_enter Try.func35, Try.ntmps35
  go_wp2
  all_goals
    go_ret
    refine ⟨?_, ba2 _ _ _⟩
    simp_all [ltS] <;> omega
theorem l1In_any (x lo hi : Int) (w : World) : Calls Try.prog 9 #[.int .i64 x, .int .i64 lo, .int .i64 hi] w fun e w' => e = .returned (.bool (decide (lo ≤ x) && decide (x ≤ hi))) ∧ w' = w := by
  go_enter Try.func9, Try.ntmps9
  go_wp2
  all_goals
    go_ret
    refine ⟨?_, rfl⟩
    simp_all <;> omega
theorem endOf_any (x : Ex) (w : World) (h : -9223372036854775808 ≤ fin x) (h' : fin x ≤ 9223372036854775807) : Calls Try.prog 40 #[xv x] w fun e w' => e = .returned (.int .i64 (fin x)) ∧ Below w.heap.size w w' := by
  obtain ⟨p, q⟩ := x
  unfold fin at *
  go_enter Try.func40, Try.ntmps40
  go_wp2
  go_ret
  exact ⟨rfl, below_alloc _ _⟩
theorem isWithin_any (x : Ex) (b : Int) (w : World) (h : 1 ≤ b) (h' : b ≤ 400) (hx : x.1 ≤ 9223372036854775807) : Calls Try.prog 59 #[xv x, .int .i64 b] w fun e w' => e = .returned (.bool (inB b x)) ∧ Below w.heap.size w w' := by
  obtain ⟨p, q⟩ := x
  simp only at hx
  go_enter Try.func59, Try.ntmps59
  go_wp2
  all_goals
    go_ret
    refine ⟨?_, below_alloc _ _⟩
    simp_all [inB] <;> omega
/-- A world with more draws, and blocks laid behind it. -/
def Gr (w w' : World) : Prop := ∃ q os, w' = Go.Sort.grow (w.drewN q) os
theorem Gr.refl (w : World) : Gr w w := ⟨0, #[], by rw [Go.Sort.grow_empty]; rfl⟩
theorem Gr.trans {a b c : World} (h : Gr a b) (k : Gr b c) : Gr a c := by
  obtain ⟨q, os, rfl⟩ := h
  obtain ⟨q', os', rfl⟩ := k
  exact ⟨q + q', os ++ os', by show Go.Sort.grow (Go.Sort.grow ((a.drewN q).drewN q') os) os' = _; rw [Go.Sort.grow_grow, World.drewN_drewN]⟩
theorem Gr.alloc {a b : World} (h : Gr a b) (o : Obj) : Gr a (b.alloc o) := h.trans ⟨0, #[o], by rw [Go.Sort.alloc_eq_grow]; rfl⟩
theorem Gr.drew {a b : World} (h : Gr a b) : Gr a b.drew := h.trans ⟨1, #[], by rw [Go.Sort.grow_empty]; rfl⟩
theorem Gr.below {a b : World} (h : Gr a b) : Below a.heap.size a b := by
  obtain ⟨q, os, rfl⟩ := h
  exact ⟨rfl, rfl, rfl, by simp [Go.Sort.grow, World.drewN], fun k hk => by simp [Go.Sort.grow, World.drewN, Array.getElem?_append, hk]⟩
/-- Ahead, behind, or neither. -/
def cmpI (x y : Int) : Int := if x < y then -1 else if y < x then 1 else 0
def orI (u v : Int) : Int := if u = 0 then v else u
def cfS (x y : Ex) : Int := orI (cmpI x.2 y.2) (cmpI x.1 y.1)
def cfP (x y : Ex) : Int := cmpI x.1 y.1
theorem Compare_any (x y : Int) (w : World) : Calls Try.prog 39 #[.int .i64 x, .int .i64 y] w fun e w' => e = .returned (.int .i64 (cmpI x y)) ∧ w' = w := by
  unfold cmpI
  have hx : (x != x) = false := by simp
  have hy : (y != y) = false := by simp
  go_enter Try.func39, Try.ntmps39
  go_wp2
  all_goals
    go_ret
    refine ⟨?_, rfl⟩
    simp_all <;> omega
theorem Or_any (b : Nat) (u v : Int) (w : World) (h0 : w.cell? ⟨b, 0, none⟩ = some (.int .i64 u)) (h1 : w.cell? ⟨b, 1, none⟩ = some (.int .i64 v)) : Calls Try.prog 58 #[.slice (some ⟨b, 0, none⟩) 2 2] w fun e w' => e = .returned (.int .i64 (orI u v)) ∧ w' = w := by
  by_cases hu : u = 0
  · subst hu
    rw [show orI 0 v = v from rfl]
    go_enter Try.func58, Try.ntmps58
    go_wp2
    refine wp_loop_rounds 3 ?_
    rw [rounds_succ]
    go_wp2
    rw [rounds_succ]
    by_cases hv : v = 0
    · subst hv
      go_wp2
      rw [rounds_succ]
      go_wp2
      go_ret
      exact ⟨rfl, rfl⟩
    · have hv' : (v != 0) = true := by simp [hv]
      go_wp2
      go_ret
      exact ⟨rfl, rfl⟩
  · have hu' : (u != 0) = true := by simp [hu]
    rw [show orI u v = u from if_neg hu]
    go_enter Try.func58, Try.ntmps58
    go_wp2
    refine wp_loop_rounds 3 ?_
    rw [rounds_succ]
    go_wp2
    go_ret
    exact ⟨rfl, rfl⟩
theorem comparePlaces_any (x y : Ex) (w : World) : Calls Try.prog 23 #[xv x, xv y] w fun e w' => e = .returned (.int .i64 (cfP x y)) ∧ Gr w w' := by
  obtain ⟨p, q⟩ := x
  obtain ⟨p', q'⟩ := y
  go_enter Try.func23, Try.ntmps23
  go_wp2_with (go_at_call 39; refine (Compare_any _ _ _).mono ?_; rintro e w' ⟨rfl, rfl⟩)
  go_ret
  exact ⟨rfl, ((Gr.refl w).alloc _).alloc _⟩
end Go.Proofs.Ytpafeophdgnkmaa
