import Derived.Test.YtfphffbclpmobaaX1
import Derived.Test.YtfphffbclpmobaaZ0
/- impl.TextIn. -/
namespace Go.Proofs.Ytfphffbclpmobaa
open Go.ChangeShapes Go.WideShapes Go.ChangeAt Go.RowKit Go.Maps
set_option linter.unusedVariables false
open Hd

attribute [local go_sem] Oper.semAt_some

theorem hasFile_any (x y : Value) (a : Option Addr) (n c : Nat) (f : Int) (w : World) (hx : ∃ M, x = .map M) (hy : y = .slice a n c) (hn : n ≤ 1000000) :
    Calls Try.prog 19 #[.agg #[x, y], .int .i64 f] w fun e w' => e = .returned (.bool (decide (0 ≤ f) && decide (f < n))) ∧ Below w.heap.size w w' := by
  obtain ⟨M, rfl⟩ := hx
  subst hy
  obtain ⟨W0, hW0⟩ : ∃ W0, w.alloc (.cells #[.map M, .slice a n c] 52) = W0 := ⟨_, rfl⟩
  have q0 : Below w.heap.size w W0 := by subst hW0; exact below_alloc _ _
  obtain ⟨i0, i1, -, -⟩ := box2_cells (show W0.heap[w.heap.size]? = some (.cells #[.map M, .slice a n c] 52 (0, 0)) by subst hW0; exact al1 _ _)
  by_cases h0 : 0 ≤ f
  · by_cases h1 : f < n
    · rw [decide_eq_true h0, decide_eq_true h1]
      go_enter Try.func19, Try.ntmps19
      go_wp2
      go_ret
      exact ⟨rfl, q0⟩
    · rw [decide_eq_true h0, decide_eq_false h1]
      go_enter Try.func19, Try.ntmps19
      go_wp2
      go_ret
      exact ⟨rfl, q0⟩
  · have k0 : decide (0 ≤ f) = false := decide_eq_false h0
    rw [k0]
    go_enter Try.func19, Try.ntmps19
    go_wp2
    go_ret
    exact ⟨rfl, q0⟩
theorem FRow.read {w : World} {lo e1 e2 : Nat} {y : Value} {F : List (List ByteArray)} (h : FRow w lo e1 e2 y F) (hn : F.length ≠ 0) : ∃ g c, y = .slice (some ⟨g, 0, none⟩) F.length c ∧ ∀ i, i < F.length → ∃ v, w.cell? ⟨g, i, none⟩ = some v ∧ TRow w lo e1 e2 y.ownBlock v (gt F i) := by
  obtain ⟨vs, o, hne, hr⟩ := h
  rcases o.2 with ⟨rfl, h0⟩ | ⟨g, cap, cur, rfl, hb, hg, hc, hm, hcs, ht⟩
  · exact absurd h0 hn
  · refine ⟨g, cap, rfl, fun i hi => ?_⟩
    obtain ⟨v, g1, g2⟩ := hr i hi
    refine ⟨v, cell_of_block hg ?_, g2⟩
    rw [← ht, List.getElem?_take, if_pos (by omega)] at g1
    simpa using g1
theorem fsT_at (u : Va) {i : Nat} (h : i < u.fs.length) : gt (fsT u) i = txs u.pc (gf u.fs i) := by
  simp [gt, fsT, gf, h]
theorem good_texts {u : Va} (hg : GV u) {i : Nat} (h : i < u.fs.length) : (txs u.pc (gf u.fs i)).length ≤ 200 ∧ cz (txs u.pc (gf u.fs i)) (txs u.pc (gf u.fs i)).length ≤ 4800 := by
  have hf := hg.2.1 i h
  rw [txs_len]
  refine ⟨hf.2, ?_⟩
  have := cz_le (T := txs u.pc (gf u.fs i)) (M := 24) (gf u.fs i).length (fun j hj => by
    rw [txs_at _ hj]
    have h2 := hf.1 j hj
    exact (hg.2.2 _ (by omega)).1.2)
  have := hf.2
  omega
/-- What TextIn tells. -/
def tiR (u : Va) (B : Bool) (f : Int) : ByteArray := if B = true then ct (txs u.pc (gf u.fs f.toNat)) else ⟨#[]⟩
end Go.Proofs.Ytfphffbclpmobaa
