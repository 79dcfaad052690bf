import Derived.Test.YtnanemkmmokdfaaRoy
import Derived.Test.YtnanemkmmokdfaaO5
import Derived.Test.YtnanemkmmokdfaaKN
/- Rows of texts as they come in; the law of NewVault. -/
namespace Go.Proofs.Ytnanemkmmokdfaa
open Go.ChangeShapes Go.WideShapes Go.ChangeAt Go.RowKit Go.Deep Go.Joins
set_option linter.unusedVariables false
open Hd

set_option maxRecDepth 100000 in
theorem openL {H : Type} {enc : TypeId × Value → H} {w : World} {v : Value} {d : DataW H} {p : List MemPlace} {r : Reach} {b0 : Nat} (hv : Value.okWide Try.prog w r b0 32 v) (h : DataW.Trod enc Try.prog w 0 (fun _ => true) true 32 v d p) :
    ∃ (a : Option Addr) (n cap : Nat) (S : Nat → ByteArray), v = .slice a n cap ∧ n ≤ 9223372036854775807 ∧ (∀ i, i < n → (S i).size ≤ 9223372036854775807) ∧ At w a n (fun i => .string (S i)) := by
  obtain ⟨a0, len0, cap0, rfl⟩ := okWide_slice Try.underlying32 hv
  obtain ⟨fuel, hf⟩ := h
  rcases open_slice1 Try.underlying32 cells9 hf with ⟨hcs, _⟩ | ⟨a, len, cap, m, k, V, D, Pl, hcs, _, hl, hm, hmm, _, hx⟩
  · simp [Value.cells] at hcs
    obtain ⟨rfl, rfl, rfl⟩ := hcs
    exact ⟨none, 0, _, fun _ => ⟨#[]⟩, rfl, by simp, fun _ h => absurd h (by omega), fun h => absurd rfl h⟩
  · simp [Value.cells] at hcs hmm
    obtain ⟨rfl, rfl, rfl⟩ := hcs
    subst hmm
    unfold maxLen at hm
    have e0 : ∀ i, i < m → ∃ s : ByteArray, V i = .string s ∧ s.size ≤ 9223372036854775807 := fun i hi => by
      obtain ⟨s, hs, hz⟩ := openStr (hx i hi).2
      exact ⟨s, hs, hz⟩
    have hch : ∃ S : Nat → ByteArray, ∀ i, i < m → V i = .string (S i) ∧ (S i).size ≤ 9223372036854775807 :=
      ⟨fun i => if h : i < m then Classical.choose (e0 i h) else ⟨#[]⟩, fun i hi => by
        simp only [dif_pos hi]
        exact Classical.choose_spec (e0 i hi)⟩
    obtain ⟨S, hS⟩ := hch
    refine ⟨some a, len0, m, S, rfl, by omega, fun i hi => (hS i (by omega)).2, fun hn => ?_⟩
    have hsp : a.spot = none := by have := (hx 0 (by omega)).1; simpa [Addr.add] using World.cell?_spot this
    refine ⟨a.block, a.off, by cases a; simp_all, fun i hi => ?_⟩
    rw [← add_spot hsp, (hx i (by omega)).1, (hS i (by omega)).1]
theorem lawNew_all (a : Option Addr) (n cap : Nat) (S : Nat → ByteArray) (w : World) (hn : n ≤ 9223372036854775807) (hS : ∀ i, i < n → (S i).size ≤ 9223372036854775807) (hc : At w a n fun i => .string (S i)) :
    Calls Try.prog 7 #[.slice a n cap] w fun e w' => e = .returned (.bool true) ∧ Below w.heap.size w w' := by
  obtain ⟨f, hF⟩ := ptF_ex
  obtain ⟨h1, -, h2, h3⟩ := nvS_few f hF S n
  exact lawNewVault a n cap S (nvS f S n).1 (nvS f S n).2 w hn hS hc (fun hsm => ⟨fun W x c h => specNew_any f hF x n c S W hsm hS h, fun W x c h => implNew_any f hF x n c S W hsm hS h, h1, h2, h3⟩)
end Go.Proofs.Ytnanemkmmokdfaa
