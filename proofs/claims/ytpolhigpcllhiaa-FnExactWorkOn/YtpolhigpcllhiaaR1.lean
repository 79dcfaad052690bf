import Derived.Test.YtpolhigpcllhiaaR0
import Derived.Test.YtpolhigpcllhiaaIB
/- The ground of the rows: work as it comes in. -/
namespace Go.Proofs.Ytpolhigpcllhiaa
open Go.ChangeShapes Go.WideShapes Go.ChangeAt Go.RowKit Go.Deep Go.Joins
set_option linter.unusedVariables false
open Room

theorem cellsIt : Try.prog.cellsOf 92 = 5 := by kernel_rfl
theorem cellsXs : Try.prog.cellsOf 33 = 1 := by kernel_rfl
theorem cellsIs : Try.prog.cellsOf 36 = 1 := by kernel_rfl
theorem cellsWk : Try.prog.cellsOf 38 = 5 := by kernel_rfl
theorem array5 {α : Type} {a : Array α} (h : a.size = 5) : ∃ c0 c1 c2 c3 c4, a = #[c0, c1, c2, c3, c4] := by
  obtain ⟨l⟩ := a
  match l, h with
  | [c0, c1, c2, c3, c4], _ => exact ⟨c0, c1, c2, c3, c4, rfl⟩
section
variable {H : Type} {enc : TypeId × Value → H} {w : World} {fuel : Nat} {v : Value} {y : DataW H × List MemPlace}

set_option maxRecDepth 100000 in
theorem openIs (h : DataW.trod enc Try.prog w 0 (fun _ => true) true fuel 36 [v] = some y) :
    ∃ (a : Option Addr) (cap : Nat) (l : List It), v = .slice a l.length cap ∧ l.length ≤ 9223372036854775807 ∧ Its w a l ∧ ∀ x, x ∈ l → FitI x := by
  rcases open_slice Try.underlying36 h with ⟨hcs, _⟩ | ⟨a, len, cap, m, n, D0, Pl0, hcs, _, hl, hm, hmm, _, hx⟩
  · simp at hcs
    subst hcs
    exact ⟨none, 0, [], rfl, by simp, fun h => absurd rfl h, by simp⟩
  · simp at hcs hmm
    subst hcs hmm
    unfold maxLen at hm
    have hv : ∀ i, i < len → ∃ x : It, (w.cell? (a.add (i * 5)) = some (.int .i64 x.k) ∧ w.cell? (a.add (i * 5 + 1)) = some (.int .i64 x.i) ∧ w.cell? (a.add (i * 5 + 2)) = some (.int .i64 x.x.1) ∧ w.cell? (a.add (i * 5 + 3)) = some (.int .i64 x.x.2) ∧ w.cell? (a.add (i * 5 + 4)) = some (.int .i64 x.u)) ∧ FitI x := fun i hi => by
      obtain ⟨cs', h1, h2⟩ := hx i (by omega)
      rw [cellsIt] at h1
      obtain ⟨_, hlen, hcell⟩ := World.cells?_some h1
      obtain ⟨y0, y1, y2, y3, k, _, _, g0, g1, g2, g3⟩ := trod_struct4 Try.underlying92 h2
      match cs', hlen with
      | [v0, v1, v2, v3, v4], _ =>
        simp [cells3, cells50] at g0 g1 g2 g3
        obtain ⟨y5, y6, k', _, _, g4, g5⟩ := trod_struct2 Try.underlying44 g2
        simp [cells3] at g4 g5
        obtain ⟨z0, e0, _, f0⟩ := DataW.trod_int Try.underlying3 g0
        obtain ⟨z1, e1, _, f1⟩ := DataW.trod_int Try.underlying3 g1
        obtain ⟨z2, e2, _, f2⟩ := DataW.trod_int Try.underlying3 g4
        obtain ⟨z3, e3, _, f3⟩ := DataW.trod_int Try.underlying3 g5
        obtain ⟨z4, e4, _, f4⟩ := DataW.trod_int Try.underlying3 g3
        simp at e0 e1 e2 e3 e4
        subst e0 e1 e2 e3 e4
        have c0 := hcell 0 (by omega)
        have c1 := hcell 1 (by omega)
        have c2 := hcell 2 (by omega)
        have c3 := hcell 3 (by omega)
        have c4 := hcell 4 (by omega)
        rw [add_add] at c0 c1 c2 c3 c4
        exact ⟨⟨z0, z1, (z2, z3), z4⟩, ⟨by simpa using c0, by simpa using c1, by simpa using c2, by simpa using c3, by simpa using c4⟩, (wf64 f2).2, (wf64 f3).1⟩
    have hch : ∃ f : Nat → It, ∀ i, i < len → (w.cell? (a.add (i * 5)) = some (.int .i64 (f i).k) ∧ w.cell? (a.add (i * 5 + 1)) = some (.int .i64 (f i).i) ∧ w.cell? (a.add (i * 5 + 2)) = some (.int .i64 (f i).x.1) ∧ w.cell? (a.add (i * 5 + 3)) = some (.int .i64 (f i).x.2) ∧ w.cell? (a.add (i * 5 + 4)) = some (.int .i64 (f i).u)) ∧ FitI (f i) :=
      ⟨fun i => if h : i < len then Classical.choose (hv i h) else ⟨0, 0, (0, 0), 0⟩, fun i hi => by
        simp only [dif_pos hi]
        exact Classical.choose_spec (hv i hi)⟩
    obtain ⟨f, hf⟩ := hch
    have hg : ∀ i, i < len → gi ((List.range len).map f) i = f i := fun i hi => by simp [gi, hi]
    have hlen : ((List.range len).map f).length = len := by simp
    refine ⟨some a, m, (List.range len).map f, by rw [hlen], by omega, fun hn => ?_, fun x hx' => ?_⟩
    · rw [hlen] at hn
      have hsp : a.spot = none := by have := (hf 0 (by omega)).1.1; simpa [Addr.add] using World.cell?_spot this
      refine ⟨a.block, a.off, by cases a; simp_all, fun i hi => ?_⟩
      rw [hlen] at hi
      obtain ⟨h0, h1, h2, h3, h4⟩ := (hf i hi).1
      rw [add_spot hsp] at h0 h1 h2 h3 h4
      rw [hg i hi]
      exact ⟨h0, h1, h2, h3, h4⟩
    · simp only [List.mem_map, List.mem_range] at hx'
      obtain ⟨i, hi, rfl⟩ := hx'
      exact (hf i hi).2
set_option maxRecDepth 100000 in
theorem openWk {r : Reach} {b0 : Nat} {d : DataW H} {p : List MemPlace} (hv : Value.okWide Try.prog w r b0 38 v) (h : DataW.Trod enc Try.prog w 0 (fun _ => true) true 38 v d p) :
    ∃ (b : Int) (a : Option Addr) (ca : Nat) (a' : Option Addr) (ca' : Nat) (l s : List Ex) (nx : Int) (i : Option Addr) (ci : Nat) (t : List It), v = wv b a l.length ca a' s.length ca' nx i t.length ci ∧ (-9223372036854775808 ≤ b ∧ b ≤ 9223372036854775807) ∧ (-9223372036854775808 ≤ nx ∧ nx ≤ 9223372036854775807) ∧ l.length ≤ 9223372036854775807 ∧ s.length ≤ 9223372036854775807 ∧ t.length ≤ 9223372036854775807 ∧ Exs w a l ∧ Exs w a' s ∧ Its w i t ∧ (∀ x, x ∈ l → Fit x) ∧ ∀ x, x ∈ t → FitI x := by
  obtain ⟨cs, rfl, hsz⟩ := okWide_struct Try.underlying38 hv
  obtain ⟨c0, c1, c2, c3, c4, rfl⟩ := array5 (hsz.trans cellsWk)
  obtain ⟨fuel, hf⟩ := h
  obtain ⟨y0, y1, y2, n, hx, _, h0, h1, h2⟩ := trod_struct3 Try.underlying38 hf
  simp [Value.cells, cells44, cells3, cellsIs] at h0 h1 h2
  obtain ⟨y3, y4, y5, n', hx', _, h3, h4, h5⟩ := trod_struct3 Try.underlying35 h0
  simp [cells3, cellsXs] at h3 h4 h5
  obtain ⟨b, eb, _, fb⟩ := DataW.trod_int Try.underlying3 h3
  obtain rfl : c0 = .int .i64 b := by simpa using eb
  obtain ⟨nx, en, _, fn⟩ := DataW.trod_int Try.underlying3 h1
  obtain rfl : c3 = .int .i64 nx := by simpa using en
  obtain ⟨a, ca, l, rfl, k1, k2, k3⟩ := open42 h4
  obtain ⟨a', ca', s, rfl, k4, k5, k6⟩ := open42 h5
  obtain ⟨i, ci, t, rfl, k7, k8, k9⟩ := openIs h2
  exact ⟨b, a, ca, a', ca', l, s, nx, i, ci, t, rfl, wf64 fb, wf64 fn, k1, k4, k7, k2, k5, k8, k3, k9⟩
end
end Go.Proofs.Ytpolhigpcllhiaa
