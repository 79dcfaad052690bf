import Derived.Test.YtienhdlhlddemaaR0c
/- The ground of the rows: cells and cows as they come in. -/
namespace Go.Proofs.Ytienhdlhlddemaa
open Go.ChangeShapes Go.WideShapes Go.ChangeAt Go.RowKit Go.Deep Go.Joins
set_option linter.unusedVariables false
open Hd

theorem cellsI : Try.prog.cellsOf 57 = 3 := by kernel_rfl
theorem cellsW : Try.prog.cellsOf 25 = 3 := by kernel_rfl
theorem cells9 : Try.prog.cellsOf 9 = 1 := by kernel_rfl
theorem cells23 : Try.prog.cellsOf 23 = 1 := by kernel_rfl
theorem array1 {α : Type} {a : Array α} (h : a.size = 1) : ∃ c0, a = #[c0] := by
  obtain ⟨l⟩ := a
  match l, h with
  | [c0], _ => exact ⟨c0, rfl⟩
section
variable {H : Type} {enc : TypeId × Value → H} {w : World} {fuel : Nat} {v : Value} {y : DataW H × List MemPlace}

set_option maxRecDepth 100000 in
theorem openIs (h : DataW.trod enc Try.prog w 0 (fun _ => true) true fuel 22 [v] = some y) :
    ∃ (a : Option Addr) (cap : Nat) (L : List Ce), v = .slice a L.length cap ∧ L.length ≤ cap ∧ Ces w a L ∧ FewC L := by
  rcases open_slice Try.underlying22 h with ⟨hcs, _⟩ | ⟨a, len, cap, m, n, D, Pl, hcs, _, hl, hm, hmm, _, hx⟩
  · simp at hcs
    subst hcs
    exact ⟨none, 0, [], rfl, by simp, fun h => absurd rfl h, by simp, fun i hi => absurd hi (by simp)⟩
  · simp at hcs hmm
    subst hcs hmm
    unfold maxLen at hm
    have hv : ∀ i, i < len → ∃ x : Ce, (∃ V, w.cell? (a.add (i * 3)) = some (.int .i64 x.ct) ∧ w.cell? (a.add (i * 3 + 1)) = some (.string x.lf) ∧ w.cell? (a.add (i * 3 + 2)) = some V ∧ (∃ ka kc, V = .slice ka x.kd.length kc ∧ x.kd.length ≤ kc ∧ Ints w ka x.kd)) ∧ FewL x := by
      intro i hi
      obtain ⟨cs', h1, h2⟩ := hx i (by omega)
      rw [cellsI] at h1
      obtain ⟨_, hlen, hcell⟩ := World.cells?_some h1
      obtain ⟨xs, k, _, _, _, hxl, hf⟩ := DataW.trod_struct Try.underlying57 h2
      match xs, hxl, cs', hlen with
      | [y0, y1, y2], _, [v0, v1, v2], _ =>
        have g0 := hf 0 _ rfl
        have g1 := hf 1 _ rfl
        have g2 := hf 2 _ rfl
        have e0 := hcell 0 (by omega)
        have e1 := hcell 1 (by omega)
        have e2 := hcell 2 (by omega)
        rw [add_add] at e0 e1 e2
        simp [cells9, cells23, cells3] at g0 g1 g2
        obtain ⟨c, hc, _, wc⟩ := DataW.trod_int Try.underlying3 g0
        obtain rfl : v0 = .int .i64 c := by simpa using hc
        obtain ⟨t, rfl, zt⟩ := openStr g1
        obtain ⟨ka, kc, l, rfl, p1, p2, p3, -⟩ := open24 g2
        exact ⟨⟨c, t, l⟩, ⟨_, by simpa using e0, by simpa using e1, by simpa using e2, ka, kc, rfl, p1, p3⟩, zt, p2⟩
    have hch : ∃ f : Nat → Ce, ∀ i, i < len → (∃ V, w.cell? (a.add (i * 3)) = some (.int .i64 (f i).ct) ∧ w.cell? (a.add (i * 3 + 1)) = some (.string (f i).lf) ∧ w.cell? (a.add (i * 3 + 2)) = some V ∧ (∃ ka kc, V = .slice ka (f i).kd.length kc ∧ (f i).kd.length ≤ kc ∧ Ints w ka (f i).kd)) ∧ FewL (f i) :=
      ⟨fun i => if h : i < len then Classical.choose (hv i h) else ce0, fun i hi => by
        simp only [dif_pos hi]
        exact Classical.choose_spec (hv i hi)⟩
    obtain ⟨f, hf⟩ := hch
    have hg : ∀ i, i < len → gc ((List.range len).map f) i = f i := fun i hi => by simp [gc, hi]
    have hlen : ((List.range len).map f).length = len := by simp
    refine ⟨some a, m, (List.range len).map f, by rw [hlen], by omega, fun hn => ?_, by rw [hlen]; omega, fun i hi => ?_⟩
    · rw [hlen] at hn
      obtain ⟨⟨V, q0, -⟩, -⟩ := hf 0 (by omega)
      have hsp : a.spot = none := by simpa [Addr.add] using World.cell?_spot q0
      refine ⟨a.block, a.off, by cases a; simp_all, fun i hi => ?_⟩
      rw [hlen] at hi
      rw [hg i hi]
      obtain ⟨⟨V, q0, q1, q2, ka, kc, rfl, p1, p2⟩, -⟩ := hf i hi
      rw [add_spot hsp] at q0 q1 q2
      exact ⟨ka, kc, q0, q1, q2, p2, p1⟩
    · rw [hlen] at hi
      rw [hg i hi]
      exact (hf i hi).2
set_option maxRecDepth 100000 in
theorem openW {r : Reach} {b0 : Nat} {d : DataW H} {p : List MemPlace} (hv : Value.okWide Try.prog w r b0 25 v) (h : DataW.Trod enc Try.prog w 0 (fun _ => true) true 25 v d p) :
    ∃ c : Co, CowAt w v c ∧ FewW c ∧ Fit c.lv := by
  obtain ⟨c0, c1, c2, y0, y1, y2, k, rfl, _, _, hy0, hy1, hy2⟩ := open_agg3 Try.underlying25 (by kernel_rfl) cellsW hv h
  obtain ⟨a, ca, L, rfl, h1, h2, h3⟩ := openIs hy0
  obtain ⟨a', ca', S, rfl, h4, h5, h6, _⟩ := open24 hy1
  obtain ⟨c, hc, _, wc⟩ := DataW.trod_int Try.underlying3 hy2
  obtain rfl : c2 = .int .i64 c := by simpa using hc
  exact ⟨⟨L, S, c⟩, ⟨a, ca, a', ca', rfl, h1, h4, h2, h6⟩, ⟨h3, h5⟩, wf64 wc⟩
theorem openI {r : Reach} {b0 : Nat} {d : DataW H} {p : List MemPlace} (hv : Value.okWide Try.prog w r b0 3 v) (h : DataW.Trod enc Try.prog w 0 (fun _ => true) true 3 v d p) : ∃ x : Int, v = .int .i64 x ∧ Fit x := by
  obtain ⟨x, rfl⟩ := okWide_int Try.underlying3 hv
  obtain ⟨fuel0, hf0⟩ := h
  simp only [Value.cells] at hf0
  obtain ⟨c, hc, _, wc⟩ := DataW.trod_int Try.underlying3 hf0
  exact ⟨x, rfl, by have : x = c := by simpa using hc
                    rw [this]; exact wf64 wc⟩
end
end Go.Proofs.Ytienhdlhlddemaa
