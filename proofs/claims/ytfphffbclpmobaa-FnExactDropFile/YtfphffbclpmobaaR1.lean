import Derived.Test.YtfphffbclpmobaaR0
import Derived.Test.YtfphffbclpmobaaF2
/- The ground of the rows: vaults as they come in. -/
namespace Go.Proofs.Ytfphffbclpmobaa
open Go.ChangeShapes Go.WideShapes Go.ChangeAt Go.RowKit Go.Deep Go.Joins
set_option linter.unusedVariables false
open Hd

theorem cellsF : Try.prog.cellsOf 65 = 1 := by kernel_rfl
theorem cellsV : Try.prog.cellsOf 25 = 2 := by kernel_rfl
theorem cells23 : Try.prog.cellsOf 42 = 1 := by kernel_rfl
theorem cells9 : Try.prog.cellsOf 9 = 1 := by kernel_rfl
section
variable {H : Type} {enc : TypeId × Value → H} {w : World} {fuel : Nat} {v : Value} {y : DataW H × List MemPlace}

set_option maxRecDepth 100000 in
theorem openFs (h : DataW.trod enc Try.prog w 0 (fun _ => true) true fuel 23 [v] = some y) :
    ∃ (a : Option Addr) (cap : Nat) (L : List (List Int)), v = .slice a L.length cap ∧ L.length ≤ cap ∧ Fis w a L ∧ FewF L := by
  rcases open_slice Try.underlying23 h with ⟨hcs, _⟩ | ⟨a, len, cap, m, n, D, Pl, hcs, _, hl, hm, hmm, _, hx⟩
  · simp at hcs
    subst hcs
    exact ⟨none, 0, [], rfl, by simp, fun h => absurd rfl h, by simp, fun i hi => absurd hi (by simp)⟩
  · simp at hcs hmm
    subst hcs hmm
    unfold maxLen at hm
    have hv : ∀ i, i < len → ∃ l : List Int, (∃ V, w.cell? (a.add (i * 1)) = some V ∧ (∃ ka kc, V = .slice ka l.length kc ∧ l.length ≤ kc ∧ Ints w ka l)) ∧ l.length ≤ 9223372036854775807 := by
      intro i hi
      obtain ⟨cs', h1, h2⟩ := hx i (by omega)
      rw [cellsF] at h1
      obtain ⟨_, hlen, hcell⟩ := World.cells?_some h1
      obtain ⟨xs, k, _, _, _, hxl, hf⟩ := DataW.trod_struct Try.underlying65 h2
      match xs, hxl, cs', hlen with
      | [y0], _, [v0], _ =>
        have g0 := hf 0 _ rfl
        have e0 := hcell 0 (by omega)
        rw [add_add] at e0
        simp [cells23] at g0
        obtain ⟨ka, kc, l, rfl, p1, p2, p3, -⟩ := open24 g0
        exact ⟨l, ⟨_, by simpa using e0, ka, kc, rfl, p1, p3⟩, p2⟩
    have hch : ∃ f : Nat → List Int, ∀ i, i < len → (∃ V, w.cell? (a.add (i * 1)) = some V ∧ (∃ ka kc, V = .slice ka (f i).length kc ∧ (f i).length ≤ kc ∧ Ints w ka (f i))) ∧ (f i).length ≤ 9223372036854775807 :=
      ⟨fun i => if h : i < len then Classical.choose (hv i h) else [], fun i hi => by
        simp only [dif_pos hi]
        exact Classical.choose_spec (hv i hi)⟩
    obtain ⟨f, hf⟩ := hch
    have hg : ∀ i, i < len → gf ((List.range len).map f) i = f i := fun i hi => by simp [gf, hi]
    have hlen : ((List.range len).map f).length = len := by simp
    refine ⟨some a, m, (List.range len).map f, by rw [hlen], by omega, fun hn => ?_, by rw [hlen]; omega, fun i hi => ?_⟩
    · rw [hlen] at hn
      obtain ⟨⟨V, q0, -⟩, -⟩ := hf 0 (by omega)
      have hsp : a.spot = none := by simpa [Addr.add] using World.cell?_spot q0
      refine ⟨a.block, a.off, by cases a; simp_all, fun i hi => ?_⟩
      rw [hlen] at hi
      rw [hg i hi]
      obtain ⟨⟨V, q0, ka, kc, rfl, p1, p2⟩, -⟩ := hf i hi
      rw [add_spot hsp, Nat.mul_one] at q0
      exact ⟨ka, kc, q0, p2, p1⟩
    · rw [hlen] at hi
      rw [hg i hi]
      exact (hf i hi).2
set_option maxRecDepth 100000 in
theorem openV {r : Reach} {b0 : Nat} {d : DataW H} {p : List MemPlace} (hv : Value.okWide Try.prog w r b0 25 v) (h : DataW.Trod enc Try.prog w 0 (fun _ => true) true 25 v d p) :
    ∃ u : Va, VAt w v u ∧ FewV u := by
  obtain ⟨c0, c1, y0, y1, k, rfl, _, _, hy0, hy1⟩ := open_agg2 Try.underlying25 (by kernel_rfl) cellsV hv h
  obtain ⟨a, ca, L, rfl, h1, h2, h3⟩ := open56 hy0
  obtain ⟨a', ca', S, rfl, h4, h5, h6⟩ := openFs hy1
  exact ⟨⟨L, S⟩, ⟨a, ca, a', ca', rfl, h1, h4, h2, h5⟩, h3, h6⟩
end
end Go.Proofs.Ytfphffbclpmobaa
