import Derived.Test.YtcfjkejaenmibaaDoorB1
/- Rows of slots. -/
namespace Go.Proofs.YtcfjkejaenmibaaDoor
open Go.ChangeShapes Go.WideShapes Go.ChangeAt Go.RowKit
set_option linter.unusedVariables false
open Lg

attribute [local go_sem] Oper.semAt_some

/-- The slot at a place of a list. -/
def gs (l : List Sl) (i : Nat) : Sl := l.getD i Lg.zero
theorem gs_eq {l : List Sl} {i : Nat} (h : i < l.length) : gs l i = l[i] := by simp [gs, h]
/-- A row of pieces that can be read. -/
def RowS (w : World) (a : Option Addr) (n : Nat) (g : Nat → Sl) : Prop :=
  n ≠ 0 → ∃ b off, a = some ⟨b, off, none⟩ ∧ ∀ i, i < n → w.cell? ⟨b, off + i * 4, none⟩ = some (.int .i64 (g i).c) ∧ w.cell? ⟨b, off + i * 4 + 1, none⟩ = some (.int .i64 (g i).t) ∧ w.cell? ⟨b, off + i * 4 + 2, none⟩ = some (.string (g i).d) ∧ w.cell? ⟨b, off + i * 4 + 3, none⟩ = some (.int .i64 (g i).s)
theorem RowS.below {w w' : World} {a : Option Addr} {n : Nat} {g : Nat → Sl} (h : RowS w a n g) (hb : Below w.heap.size w w') : RowS w' a n g := by
  intro hn
  obtain ⟨b, off, rfl, hc⟩ := h hn
  exact ⟨b, off, rfl, fun i hi => ⟨cell_on (hc i hi).1 hb, cell_on (hc i hi).2.1 hb, cell_on (hc i hi).2.2.1 hb, cell_on (hc i hi).2.2.2 hb⟩⟩
abbrev Sls (w : World) (a : Option Addr) (l : List Sl) : Prop := RowS w a l.length (gs l)
/-- A row's cells hold these pieces. -/
def slsN (n : Nat) (g : Nat → Sl) (c : Array Value) : Prop := ∀ i, i < n → c[i * 4]? = some (.int .i64 (g i).c) ∧ c[i * 4 + 1]? = some (.int .i64 (g i).t) ∧ c[i * 4 + 2]? = some (.string (g i).d) ∧ c[i * 4 + 3]? = some (.int .i64 (g i).s)
/-- A row of pieces that was made between two marks of the heap. -/
abbrev MineS (w : World) (B C : Nat) (a : Option Addr) (n : Nat) (g : Nat → Sl) : Prop := Mine w B C 41 n a (slsN n g)
theorem MineS.row {w : World} {B C : Nat} {a : Option Addr} {n : Nat} {g : Nat → Sl} (h : MineS w B C a n g) : RowS w a n g := by
  intro hn
  rcases h with h | ⟨b, c, g1, g2, h3, h4, h5⟩
  · exact absurd h hn
  · exact ⟨b, 0, h3, fun i hi => by simp only [Nat.zero_add]; exact ⟨cell_of_block h4 (h5 i hi).1, cell_of_block h4 (h5 i hi).2.1, cell_of_block h4 (h5 i hi).2.2.1, cell_of_block h4 (h5 i hi).2.2.2⟩⟩
theorem slsN_put {k n : Nat} {g : Nat → Sl} {c : Array Value} {p   : Sl} (h : slsN k g c) (hc : n * 4 ≤ c.size) (hk : k < n) (hx : g k = p) :
    slsN (k + 1) g ((((c.setIfInBounds (k * 4) (.int .i64 p.c)).setIfInBounds (k * 4 + 1) (.int .i64 p.t)).setIfInBounds (k * 4 + 2) (.string p.d)).setIfInBounds (k * 4 + 3) (.int .i64 p.s)) := by
  intro i hi
  by_cases e : i = k
  · subst e
    rw [hx]
    refine ⟨?_, ?_, ?_, ?_⟩
    · rw [set_ne (by omega), set_ne (by omega), set_ne (by omega), set_at (by omega)]
    · rw [set_ne (by omega), set_ne (by omega), set_at (by simp; omega)]
    · rw [set_ne (by omega), set_at (by simp; omega)]
    · rw [set_at (by simp; omega)]
  · obtain ⟨h0, h1, h2, h3⟩ := h i (by omega)
    refine ⟨?_, ?_, ?_, ?_⟩ <;> rw [set_ne (by omega), set_ne (by omega), set_ne (by omega), set_ne (by omega)] <;> assumption
theorem infoSl : (Tryd.prog.info? 41).map (fun i => (i.zero, i.size, i.bytes)) = some (some (.agg #[.int .i64 0, .int .i64 0, .string ⟨#[]⟩, .int .i64 0]), 4, 40) := by kernel_rfl
theorem cells4 {w : World} {b k n : Nat} {c : Array Value} {e : TypeId} (h : w.heap[b]? = some (.cells c e (0, 0))) (hc : n * 4 ≤ c.size) (hk : k < n) :
    (∃ v, w.cell? ⟨b, k * 4, none⟩ = some v) ∧ (∃ v, w.cell? ⟨b, k * 4 + 1, none⟩ = some v) ∧ (∃ v, w.cell? ⟨b, k * 4 + 2, none⟩ = some v) ∧ (∃ v, w.cell? ⟨b, k * 4 + 3, none⟩ = some v) ∧ w.frozen? ⟨b, k * 4, none⟩ = false ∧ w.frozen? ⟨b, k * 4 + 1, none⟩ = false ∧ w.frozen? ⟨b, k * 4 + 2, none⟩ = false ∧ w.frozen? ⟨b, k * 4 + 3, none⟩ = false := by
  have hx : ∀ i, i < c.size → ∃ v, w.cell? ⟨b, i, none⟩ = some v := fun i hi => ⟨c[i], cell_of_block h (by simp [hi])⟩
  exact ⟨hx _ (by omega), hx _ (by omega), hx _ (by omega), hx _ (by omega), free_of_block h, free_of_block h, free_of_block h, free_of_block h⟩
end Go.Proofs.YtcfjkejaenmibaaDoor
