import Derived.Test.YtdbmdblghlfjfaaB0
/- Rows of pieces, and what only looks at one or two pieces. -/
namespace Go.Proofs.Ytdbmdblghlfjfaa
open Go.ChangeShapes Go.WideShapes Go.ChangeAt Go.RowKit
set_option linter.unusedVariables false
open Mp

attribute [local go_sem] Oper.semAt_some

/-- A piece as a value, an extent as a value, a map as a value. -/
abbrev pv (p : Pc) : Value := .agg #[.int .i64 p.f, .int .i64 p.n, .int .i64 p.a, .bool p.z]
abbrev xv (x : Int × Int) : Value := .agg #[.int .i64 x.1, .int .i64 x.2]
abbrev mv (a : Option Addr) (n c : Nat) : Value := .agg #[.slice a n c]
/-- The cells of a piece. -/
abbrev pcs (p : Pc) : Array Value := #[.int .i64 p.f, .int .i64 p.n, .int .i64 p.a, .bool p.z]
/-- A row of pieces that can be read. -/
def RowP (w : World) (a : Option Addr) (n : Nat) (g : Nat → Pc) : Prop :=
  n ≠ 0 → ∃ b off, a = some ⟨b, off, none⟩ ∧ ∀ i, i < n → w.cell? ⟨b, off + i * 4, none⟩ = some (.int .i64 (g i).f) ∧ w.cell? ⟨b, off + i * 4 + 1, none⟩ = some (.int .i64 (g i).n) ∧ w.cell? ⟨b, off + i * 4 + 2, none⟩ = some (.int .i64 (g i).a) ∧ w.cell? ⟨b, off + i * 4 + 3, none⟩ = some (.bool (g i).z)
theorem RowP.below {w w' : World} {a : Option Addr} {n : Nat} {g : Nat → Pc} (h : RowP w a n g) (hb : Below w.heap.size w w') : RowP w' a n g := by
  intro hn
  obtain ⟨b, off, rfl, hc⟩ := h hn
  exact ⟨b, off, rfl, fun i hi => ⟨cell_on (hc i hi).1 hb, cell_on (hc i hi).2.1 hb, cell_on (hc i hi).2.2.1 hb, cell_on (hc i hi).2.2.2 hb⟩⟩
abbrev Pcs (w : World) (a : Option Addr) (l : List Pc) : Prop := RowP w a l.length (gp l)
/-- A row's cells hold these pieces. -/
def pcsN (n : Nat) (g : Nat → Pc) (c : Array Value) : Prop := ∀ i, i < n → c[i * 4]? = some (.int .i64 (g i).f) ∧ c[i * 4 + 1]? = some (.int .i64 (g i).n) ∧ c[i * 4 + 2]? = some (.int .i64 (g i).a) ∧ c[i * 4 + 3]? = some (.bool (g i).z)
/-- A row of pieces that was made between two marks of the heap. -/
abbrev MineP (w : World) (B C : Nat) (a : Option Addr) (n : Nat) (g : Nat → Pc) : Prop := Mine w B C 40 n a (pcsN n g)
theorem MineP.row {w : World} {B C : Nat} {a : Option Addr} {n : Nat} {g : Nat → Pc} (h : MineP w B C a n g) : RowP w a n g := by
  intro hn
  rcases h with h | ⟨b, c, g1, g2, h3, h4, h5⟩
  · exact absurd h hn
  · exact ⟨b, 0, h3, fun i hi => by simp only [Nat.zero_add]; exact ⟨cell_of_block h4 (h5 i hi).1, cell_of_block h4 (h5 i hi).2.1, cell_of_block h4 (h5 i hi).2.2.1, cell_of_block h4 (h5 i hi).2.2.2⟩⟩
theorem info40 : (Try.prog.info? 40).map (fun i => (i.zero, i.size, i.bytes)) = some (some (.agg #[.int .i64 0, .int .i64 0, .int .i64 0, .bool false]), 4, 32) := by kernel_rfl
theorem pcsN_put {k n : Nat} {g : Nat → Pc} {c : Array Value} {p : Pc} (h : pcsN k g c) (hc : n * 4 ≤ c.size) (hk : k < n) (hx : g k = p) :
    pcsN (k + 1) g ((((c.setIfInBounds (k * 4) (.int .i64 p.f)).setIfInBounds (k * 4 + 1) (.int .i64 p.n)).setIfInBounds (k * 4 + 2) (.int .i64 p.a)).setIfInBounds (k * 4 + 3) (.bool p.z)) := by
  intro i hi
  by_cases e : i = k
  · subst e
    rw [hx]
    refine ⟨?_, ?_, ?_, ?_⟩
    · rw [set_ne (by omega), set_ne (by omega), set_ne (by omega), set_at (by omega)]
    · rw [set_ne (by omega), set_ne (by omega), set_at (by simp; omega)]
    · rw [set_ne (by omega), set_at (by simp; omega)]
    · rw [set_at (by simp; omega)]
  · obtain ⟨h0, h1, h2, h3⟩ := h i (by omega)
    refine ⟨?_, ?_, ?_, ?_⟩ <;> rw [set_ne (by omega), set_ne (by omega), set_ne (by omega), set_ne (by omega)] <;> assumption
theorem wrapI {z : Int} (h : -9223372036854775808 ≤ z) (h' : z ≤ 9223372036854775807) : IntKind.i64.wrap z = z := by
  simp only [IntKind.wrap, IntKind.bits, IntKind.signed]
  simp
  omega
theorem al1 (w : World) (o : Obj) : (w.alloc o).heap[w.heap.size]? = some o := heap_alloc_new w o
theorem sz1 (w : World) (o : Obj) : (w.alloc o).heap.size = w.heap.size + 1 := by simp
theorem al2 (w : World) (o p : Obj) : ((w.alloc o).alloc p).heap[w.heap.size]? = some o ∧ ((w.alloc o).alloc p).heap[w.heap.size + 1]? = some p :=
  ⟨box_on (al1 w o) (below_alloc _ _), by have := al1 (w.alloc o) p; rwa [sz1] at this⟩
theorem al3 (w : World) (o p q : Obj) : (((w.alloc o).alloc p).alloc q).heap[w.heap.size]? = some o ∧ (((w.alloc o).alloc p).alloc q).heap[w.heap.size + 1]? = some p ∧ (((w.alloc o).alloc p).alloc q).heap[w.heap.size + 1 + 1]? = some q :=
  ⟨box_on (al2 w o p).1 (below_alloc _ _), box_on (al2 w o p).2 (below_alloc _ _), by have := al1 ((w.alloc o).alloc p) q; rwa [sz1, sz1] at this⟩
theorem al4 (w : World) (o p q r : Obj) : ((((w.alloc o).alloc p).alloc q).alloc r).heap[w.heap.size]? = some o ∧ ((((w.alloc o).alloc p).alloc q).alloc r).heap[w.heap.size + 1]? = some p ∧ ((((w.alloc o).alloc p).alloc q).alloc r).heap[w.heap.size + 1 + 1]? = some q ∧ ((((w.alloc o).alloc p).alloc q).alloc r).heap[w.heap.size + 1 + 1 + 1]? = some r :=
  ⟨box_on (al3 w o p q).1 (below_alloc _ _), box_on (al3 w o p q).2.1 (below_alloc _ _), box_on (al3 w o p q).2.2 (below_alloc _ _), by have := al1 (((w.alloc o).alloc p).alloc q) r; rwa [sz1, sz1, sz1] at this⟩
theorem ba2 (w : World) (o p : Obj) : Below w.heap.size w ((w.alloc o).alloc p) := Below.comp (below_alloc w o) (below_alloc _ p)
theorem ba3 (w : World) (o p q : Obj) : Below w.heap.size w (((w.alloc o).alloc p).alloc q) := Below.comp (ba2 w o p) (below_alloc _ q)
theorem ba4 (w : World) (o p q r : Obj) : Below w.heap.size w ((((w.alloc o).alloc p).alloc q).alloc r) := Below.comp (ba3 w o p q) (below_alloc _ r)
theorem box1_cells {w : World} {b : Nat} {v : Value} {e : TypeId} (h : w.heap[b]? = some (.cells #[v] e (0, 0))) : w.cell? ⟨b, 0, none⟩ = some v ∧ w.frozen? ⟨b, 0, none⟩ = false :=
  ⟨by simp [World.cell?, h], by simp [World.frozen?, h]⟩
theorem box4_set {w : World} {b : Nat} {v0 v1 v2 v3 x0 x1 x2 x3 : Value} {e : TypeId} {z : Nat × Nat} (h : w.heap[b]? = some (.cells #[v0, v1, v2, v3] e z)) :
    ((((w.setCell ⟨b, 0, none⟩ x0).setCell ⟨b, 1, none⟩ x1).setCell ⟨b, 2, none⟩ x2).setCell ⟨b, 3, none⟩ x3).heap[b]? = some (.cells #[x0, x1, x2, x3] e z) := by
  rw [block_setz (block_setz (block_setz (block_setz h)))]; rfl
theorem box4_cells {w : World} {b : Nat} {v0 v1 v2 v3 : Value} {e : TypeId} (h : w.heap[b]? = some (.cells #[v0, v1, v2, v3] e (0, 0))) :
    w.cell? ⟨b, 0, none⟩ = some v0 ∧ w.cell? ⟨b, 1, none⟩ = some v1 ∧ w.cell? ⟨b, 2, none⟩ = some v2 ∧ w.cell? ⟨b, 3, none⟩ = some v3 :=
  ⟨cell_of_block h rfl, cell_of_block h rfl, cell_of_block h rfl, cell_of_block h rfl⟩
theorem box4_free {w : World} {b : Nat} {v0 v1 v2 v3 : Value} {e : TypeId} (h : w.heap[b]? = some (.cells #[v0, v1, v2, v3] e (0, 0))) :
    w.frozen? ⟨b, 0, none⟩ = false ∧ w.frozen? ⟨b, 1, none⟩ = false ∧ w.frozen? ⟨b, 2, none⟩ = false ∧ w.frozen? ⟨b, 3, none⟩ = false :=
  ⟨free_of_block h, free_of_block h, free_of_block h, free_of_block h⟩

theorem toPiece_any (p : Pc) (w : World) : Calls Try.prog 20 #[pv p] w fun e w' => e = .returned (pv p) ∧ Below w.heap.size w w' := by
  obtain ⟨f, n, a, z⟩ := p
  go_enter Try.func20, Try.ntmps20
  go_wp2
  exact bodyPost_ret (v := pv ⟨f, n, a, z⟩) (by simp [results, Try.results20, go_sem]) rfl ⟨rfl, ba3 _ _ _ _⟩
theorem l1In_any (x lo hi : Int) (w : World) : Calls Try.prog 47 #[.int .i64 x, .int .i64 lo, .int .i64 hi] w fun e w' => e = .returned (.bool (decide (lo ≤ x) && decide (x ≤ hi))) ∧ w' = w := by
  go_enter Try.func47, Try.ntmps47
  go_wp2
  all_goals
    go_ret
    refine ⟨?_, rfl⟩
    simp_all <;> omega
theorem endOf_any (x y : Int) (w : World) (h : -9223372036854775808 ≤ x + y) (h' : x + y ≤ 9223372036854775807) : Calls Try.prog 52 #[xv (x, y)] w fun e w' => e = .returned (.int .i64 (x + y)) ∧ Below w.heap.size w w' := by
  go_enter Try.func52, Try.ntmps52
  go_wp2
  go_ret
  exact ⟨rfl, below_alloc _ _⟩
theorem inFile_any (p : Pc) (w : World) : Calls Try.prog 53 #[pv p] w fun e w' => e = .returned (xv (p.f, p.n)) ∧ Below w.heap.size w w' := by
  obtain ⟨f, n, a, z⟩ := p
  go_enter Try.func53, Try.ntmps53
  go_wp2
  exact bodyPost_ret (v := xv (f, n)) (by simp [results, Try.results53, go_sem]) rfl ⟨rfl, by first | exact ba3 _ _ _ _ | exact ba2 _ _ _⟩
theorem onDevice_any (p : Pc) (w : World) : Calls Try.prog 70 #[pv p] w fun e w' => e = .returned (xv (p.a, p.n)) ∧ Below w.heap.size w w' := by
  obtain ⟨f, n, a, z⟩ := p
  go_enter Try.func70, Try.ntmps70
  go_wp2
  exact bodyPost_ret (v := xv (a, n)) (by simp [results, Try.results70, go_sem]) rfl ⟨rfl, by first | exact ba3 _ _ _ _ | exact ba2 _ _ _⟩
/-- An extent within so many blocks. -/
def inB (b : Int) (x y : Int) : Bool := decide (0 ≤ x) && (decide (1 ≤ y) && decide (x + y ≤ b))
theorem isWithin_any (x y b : Int) (w : World) (h : 1 ≤ b) (h' : b ≤ 400) (hx : x ≤ 9223372036854775807) : Calls Try.prog 69 #[xv (x, y), .int .i64 b] w fun e w' => e = .returned (.bool (inB b x y)) ∧ Below w.heap.size w w' := by
  go_enter Try.func69, Try.ntmps69
  go_wp2
  all_goals
    go_ret
    refine ⟨?_, below_alloc _ _⟩
    simp_all [inB] <;> omega
end Go.Proofs.Ytdbmdblghlfjfaa
