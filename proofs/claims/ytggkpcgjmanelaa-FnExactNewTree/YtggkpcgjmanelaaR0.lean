import Derived.Test.YtggkpcgjmanelaaL3
import Derived.Deep.SlicePairs
import Derived.Deep.Strs
import Derived.Lib.SmallJoins
import Derived.ShutString
import Derived.ChangeOld
/- The ground of the rows: trees and lists of ints as they come in. -/
namespace Go.Proofs.Ytggkpcgjmanelaa
open Go.ChangeShapes Go.WideShapes Go.ChangeAt Go.RowKit Go.Deep Go.Joins
set_option linter.unusedVariables false
open Bt

theorem own : ownKnob Try.prog.godebug = none := by kernel_rfl
theorem laidOut : laidOutB Try.prog = true := by kernel_rfl
theorem cells3 : Try.prog.cellsOf 3 = 1 := by kernel_rfl
theorem cells47 : Try.prog.cellsOf 47 = 2 := by kernel_rfl
theorem cells120 : Try.prog.cellsOf 120 = 3 := by kernel_rfl
theorem add_spot {a : Addr} {i : Nat} (h0 : a.spot = none) : a.add i = ⟨a.block, a.off + i, none⟩ := by
  obtain ⟨b, o, s⟩ := a
  simp at h0
  subst h0
  unfold Addr.add
  split <;> simp_all
theorem wf64 {n : Int} (h : (Lit.int .i64 n).wf = true) : -9223372036854775808 ≤ n ∧ n ≤ 9223372036854775807 := by
  simp only [Lit.wf, Bool.and_eq_true, decide_eq_true_eq] at h
  exact h
/-- An int's size. -/
def Fit (x : Int) : Prop := -9223372036854775808 ≤ x ∧ x ≤ 9223372036854775807

section
variable {H : Type} {enc : TypeId × Value → H} {w : World} {fuel : Nat} {v : Value} {y : DataW H × List MemPlace}

theorem open23 (h : DataW.trod enc Try.prog w 0 (fun _ => true) true fuel 23 [v] = some y) :
    ∃ (a : Option Addr) (cap : Nat) (l : List Int), v = .slice a l.length cap ∧ l.length ≤ cap ∧ l.length ≤ 9223372036854775807 ∧ Ints w a l ∧ ∀ x, x ∈ l → Fit x := by
  rcases open_ints Try.underlying23 Try.underlying3 cells3 h with ⟨hcs, _⟩ | ⟨a, len, cap, zs, hcs, _, hl, hm, hz, _, hcell, hwz⟩
  · simp at hcs
    subst hcs
    exact ⟨none, 0, [], rfl, by simp, by simp, fun h => absurd rfl h, by simp⟩
  · simp at hcs hz
    subst hcs
    unfold maxLen at hm
    have hlen : (zs.take len).length = len := by simp; omega
    refine ⟨some a, cap, zs.take len, by rw [hlen], by omega, by omega, fun hn => ?_, fun x hx => wf64 (hwz x (List.mem_of_mem_take hx))⟩
    rw [hlen] at hn
    have hsp : a.spot = none := by have := hcell 0 (by omega); simpa [Addr.add] using World.cell?_spot this
    refine ⟨a.block, a.off, by cases a; simp_all, fun i hi => ?_⟩
    rw [hlen] at hi
    have := hcell i (by omega)
    rw [add_spot hsp] at this
    rw [this]
    simp [gi, hi]
set_option maxRecDepth 100000 in
theorem open45 (h : DataW.trod enc Try.prog w 0 (fun _ => true) true fuel 45 [v] = some y) :
    ∃ (a : Option Addr) (cap : Nat) (N : List Nd), v = .slice a N.length cap ∧ N.length ≤ cap ∧ N.length ≤ 9223372036854775807 ∧ Nodes w a N ∧ ∀ i, i < N.length → (gn N i).ks.length ≤ 9223372036854775807 ∧ (gn N i).cs.length ≤ 9223372036854775807 := by
  rcases open_slice Try.underlying45 h with ⟨hcs, _⟩ | ⟨a, len, cap, m, n, D, Pl, hcs, _, hl, hm, hmm, _, hx⟩
  · simp at hcs
    subst hcs
    exact ⟨none, 0, [], rfl, by simp, by simp, fun h => absurd rfl h, fun i hi => absurd hi (by simp)⟩
  · simp at hcs hmm
    subst hcs hmm
    unfold maxLen at hm
    have hv : ∀ i, i < len → ∃ nd : Nd, (∃ V1 V2, w.cell? (a.add (i * 3)) = some (.bool nd.leaf) ∧ w.cell? (a.add (i * 3 + 1)) = some V1 ∧ w.cell? (a.add (i * 3 + 2)) = some V2 ∧ (∃ ka kc, V1 = .slice ka nd.ks.length kc ∧ nd.ks.length ≤ kc ∧ Ints w ka nd.ks) ∧ (∃ ca cc, V2 = .slice ca nd.cs.length cc ∧ nd.cs.length ≤ cc ∧ Ints w ca nd.cs)) ∧ nd.ks.length ≤ 9223372036854775807 ∧ nd.cs.length ≤ 9223372036854775807 := by
      intro i hi
      obtain ⟨cs', h1, h2⟩ := hx i (by omega)
      rw [cells120] at h1
      obtain ⟨_, hlen, hcell⟩ := World.cells?_some h1
      obtain ⟨xs, k, _, _, _, hxl, hf⟩ := DataW.trod_struct Try.underlying120 h2
      match xs, hxl, cs', hlen with
      | [y0, y1, y2], _, [v0, v1, v2], _ =>
        have g0 := hf 0 _ rfl
        have g1 := hf 1 _ rfl
        have g2 := hf 2 _ rfl
        have e0 := hcell 0 (by omega)
        have e1 := hcell 1 (by omega)
        have e2 := hcell 2 (by omega)
        rw [add_add] at e0 e1 e2
        have c4 : Try.prog.cellsOf 4 = 1 := by kernel_rfl
        have c23 : Try.prog.cellsOf 23 = 1 := by kernel_rfl
        simp [c4, c23] at g0 g1 g2
        obtain ⟨bb, hb0, _⟩ := DataW.trod_bool Try.underlying4 g0
        obtain rfl : v0 = .bool bb := by simpa using hb0
        obtain ⟨ka, kc, l, rfl, p1, p2, p3, _⟩ := open23 g1
        obtain ⟨ca, cc, l', rfl, p1', p2', p3', _⟩ := open23 g2
        exact ⟨⟨bb, l, l'⟩, ⟨_, _, by simpa using e0, by simpa using e1, by simpa using e2, ⟨ka, kc, rfl, p1, p3⟩, ⟨ca, cc, rfl, p1', p3'⟩⟩, p2, p2'⟩
    have hch : ∃ f : Nat → Nd, ∀ i, i < len → (∃ V1 V2, w.cell? (a.add (i * 3)) = some (.bool (f i).leaf) ∧ w.cell? (a.add (i * 3 + 1)) = some V1 ∧ w.cell? (a.add (i * 3 + 2)) = some V2 ∧ (∃ ka kc, V1 = .slice ka (f i).ks.length kc ∧ (f i).ks.length ≤ kc ∧ Ints w ka (f i).ks) ∧ (∃ ca cc, V2 = .slice ca (f i).cs.length cc ∧ (f i).cs.length ≤ cc ∧ Ints w ca (f i).cs)) ∧ (f i).ks.length ≤ 9223372036854775807 ∧ (f i).cs.length ≤ 9223372036854775807 :=
      ⟨fun i => if h : i < len then Classical.choose (hv i h) else nd0, fun i hi => by
        simp only [dif_pos hi]
        exact Classical.choose_spec (hv i hi)⟩
    obtain ⟨f, hf⟩ := hch
    have hg : ∀ i, i < len → gn ((List.range len).map f) i = f i := fun i hi => by simp [gn, hi]
    have hlen : ((List.range len).map f).length = len := by simp
    refine ⟨some a, m, (List.range len).map f, by rw [hlen], by omega, by omega, fun hn => ?_, fun i hi => ?_⟩
    · rw [hlen] at hn
      obtain ⟨⟨V1, V2, q0, -⟩, -⟩ := hf 0 (by omega)
      have hsp : a.spot = none := by simpa [Addr.add] using World.cell?_spot q0
      refine ⟨a.block, a.off, by cases a; simp_all, fun i hi => ?_⟩
      rw [hlen] at hi
      rw [hg i hi]
      obtain ⟨⟨V1, V2, q0, q1, q2, ⟨ka, kc, rfl, p1, p3⟩, ⟨ca, cc, rfl, p1', p3'⟩⟩, -⟩ := hf i hi
      rw [add_spot hsp] at q0 q1 q2
      exact ⟨ka, kc, ca, cc, q0, q1, q2, p3, p3', p1, p1'⟩
    · rw [hlen] at hi
      rw [hg i hi]
      exact (hf i hi).2
set_option maxRecDepth 100000 in
theorem open47 {r : Reach} {b0 : Nat} {d : DataW H} {p : List MemPlace} (hv : Value.okWide Try.prog w r b0 47 v) (h : DataW.Trod enc Try.prog w 0 (fun _ => true) true 47 v d p) :
    ∃ (a : Option Addr) (ca : Nat) (N : List Nd) (root : Int), v = tv a N.length ca root ∧ Fit root ∧ N.length ≤ 9223372036854775807 ∧ (∀ i, i < N.length → (gn N i).ks.length ≤ 9223372036854775807 ∧ (gn N i).cs.length ≤ 9223372036854775807) ∧ Nodes w a N := by
  obtain ⟨c0, c1, y0, y1, k, rfl, _, _, hy0, hy1⟩ := open_agg2 Try.underlying47 (by kernel_rfl) cells47 hv h
  obtain ⟨a, ca, N, rfl, h1, h2, h3, h4⟩ := open45 hy0
  obtain ⟨c, hc, _, wc⟩ := DataW.trod_int Try.underlying3 hy1
  obtain rfl : c1 = .int .i64 c := by simpa using hc
  exact ⟨a, ca, N, c, rfl, wf64 wc, h2, h4, h3⟩
set_option maxRecDepth 100000 in
theorem open23v {r : Reach} {b0 : Nat} {d : DataW H} {p : List MemPlace} (hv : Value.okWide Try.prog w r b0 23 v) (h : DataW.Trod enc Try.prog w 0 (fun _ => true) true 23 v d p) :
    ∃ (a : Option Addr) (cap : Nat) (l : List Int), v = .slice a l.length cap ∧ l.length ≤ cap ∧ l.length ≤ 9223372036854775807 ∧ Ints w a l ∧ ∀ x, x ∈ l → Fit x := by
  obtain ⟨a0, len, cap, rfl⟩ := okWide_slice Try.underlying23 hv
  obtain ⟨fuel, hf⟩ := h
  exact open23 hf
end
end Go.Proofs.Ytggkpcgjmanelaa
