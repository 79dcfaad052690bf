import Derived.Test.YtodidnbghiinkaaB1
/- Rows of tokens. -/
namespace Go.Proofs.Ytodidnbghiinkaa
open Go.ChangeShapes Go.WideShapes Go.ChangeAt Go.RowKit
set_option linter.unusedVariables false
open Tz

attribute [local go_sem] Oper.semAt_some

/-- A token's cells. -/
def TkAt (w : World) (b o : Nat) (x : Tk) : Prop := w.cell? ⟨b, o, none⟩ = some (.string x.p) ∧ w.cell? ⟨b, o + 1, none⟩ = some (.int .i64 x.d) ∧ w.cell? ⟨b, o + 2, none⟩ = some (.int .i64 x.n)
theorem TkAt.below {w w' : World} {b o : Nat} {x : Tk} (h : TkAt w b o x) (hb : Below w.heap.size w w') : TkAt w' b o x := ⟨cell_on h.1 hb, cell_on h.2.1 hb, cell_on h.2.2 hb⟩
/-- A row of tokens that can be read. -/
def RowT (w : World) (a : Option Addr) (n : Nat) (g : Nat → Tk) : Prop :=
  n ≠ 0 → ∃ b off, a = some ⟨b, off, none⟩ ∧ ∀ i, i < n → TkAt w b (off + i * 3) (g i)
theorem RowT.below {w w' : World} {a : Option Addr} {n : Nat} {g : Nat → Tk} (h : RowT w a n g) (hb : Below w.heap.size w w') : RowT w' a n g := by
  intro hn
  obtain ⟨b, off, rfl, hc⟩ := h hn
  exact ⟨b, off, rfl, fun i hi => (hc i hi).below hb⟩
abbrev Tks (w : World) (a : Option Addr) (l : List Tk) : Prop := RowT w a l.length (gt l)
/-- A row's cells hold these tokens. -/
def tksN (n : Nat) (g : Nat → Tk) (c : Array Value) : Prop := ∀ i, i < n → c[i * 3]? = some (.string (g i).p) ∧ c[i * 3 + 1]? = some (.int .i64 (g i).d) ∧ c[i * 3 + 2]? = some (.int .i64 (g i).n)
/-- A row of tokens that was made between two marks of the heap. -/
abbrev MineT (w : World) (B C : Nat) (a : Option Addr) (n : Nat) (g : Nat → Tk) : Prop := Mine w B C 52 n a (tksN n g)
theorem MineT.row {w : World} {B C : Nat} {a : Option Addr} {n : Nat} {g : Nat → Tk} (h : MineT w B C a n g) : RowT w a n g := by
  intro hn
  rcases h with h | ⟨b, c, g1, g2, h3, h4, h5⟩
  · exact absurd h hn
  · exact ⟨b, 0, h3, fun i hi => by simp only [Nat.zero_add]; exact ⟨cell_of_block h4 (h5 i hi).1, cell_of_block h4 (h5 i hi).2.1, cell_of_block h4 (h5 i hi).2.2⟩⟩
theorem tksN_put {k n : Nat} {g : Nat → Tk} {c : Array Value} {x : Tk} (h : tksN k g c) (hc : n * 3 ≤ c.size) (hk : k < n) (hx : g k = x) :
    tksN (k + 1) g (((c.setIfInBounds (k * 3) (.string x.p)).setIfInBounds (k * 3 + 1) (.int .i64 x.d)).setIfInBounds (k * 3 + 2) (.int .i64 x.n)) := by
  intro i hi
  by_cases e : i = k
  · subst e
    rw [hx]
    refine ⟨?_, ?_, ?_⟩
    · rw [set_ne (by omega), set_ne (by omega), set_at (by omega)]
    · rw [set_ne (by omega), set_at (by simp; omega)]
    · rw [set_at (by simp; omega)]
  · obtain ⟨h0, h1, h2⟩ := h i (by omega)
    refine ⟨?_, ?_, ?_⟩ <;> rw [set_ne (by omega), set_ne (by omega), set_ne (by omega)] <;> assumption
theorem infoTk : (Try.prog.info? 52).map (fun i => (i.zero, i.size, i.bytes)) = some (some (.agg #[.string ⟨#[]⟩, .int .i64 0, .int .i64 0]), 3, 32) := by kernel_rfl
theorem cells3 {w : World} {b k n : Nat} {c : Array Value} {e : TypeId} (h : w.heap[b]? = some (.cells c e (0, 0))) (hc : n * 3 ≤ c.size) (hk : k < n) :
    (∃ v, w.cell? ⟨b, k * 3, none⟩ = some v) ∧ (∃ v, w.cell? ⟨b, k * 3 + 1, none⟩ = some v) ∧ (∃ v, w.cell? ⟨b, k * 3 + 2, none⟩ = some v) ∧ w.frozen? ⟨b, k * 3, none⟩ = false ∧ w.frozen? ⟨b, k * 3 + 1, none⟩ = false ∧ w.frozen? ⟨b, k * 3 + 2, none⟩ = false := by
  have hx : ∀ i, i < c.size → ∃ v, w.cell? ⟨b, i, none⟩ = some v := fun i hi => ⟨c[i], cell_of_block h (by simp [hi])⟩
  exact ⟨hx _ (by omega), hx _ (by omega), hx _ (by omega), free_of_block h, free_of_block h, free_of_block h⟩
end Go.Proofs.Ytodidnbghiinkaa
