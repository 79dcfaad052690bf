import Derived.Test.YtdbmdblghlfjfaaL2
import Derived.Deep.SlicePairs
import Derived.Deep.Strs
import Derived.Lib.SmallJoins
import Derived.ShutString
import Derived.ChangeOld
/- The ground of the rows: maps and pieces as they come in. -/
namespace Go.Proofs.Ytdbmdblghlfjfaa
open Go.ChangeShapes Go.WideShapes Go.ChangeAt Go.RowKit Go.Deep Go.Joins
set_option linter.unusedVariables false
open Mp

theorem own : ownKnob Try.prog.godebug = none := by kernel_rfl
theorem laidOut : laidOutB Try.prog = true := by kernel_rfl
theorem cells3 : Try.prog.cellsOf 3 = 1 := by kernel_rfl
theorem cells24 : Try.prog.cellsOf 24 = 1 := by kernel_rfl
theorem cells37 : Try.prog.cellsOf 37 = 4 := by kernel_rfl
theorem add_spot {a : Addr} {i : Nat} (h0 : a.spot = none) : a.add i = ⟨a.block, a.off + i, none⟩ := by
  obtain ⟨b, o, s⟩ := a
  simp at h0
  subst h0
  unfold Addr.add
  split <;> simp_all
theorem wf64 {n : Int} (h : (Lit.int .i64 n).wf = true) : -9223372036854775808 ≤ n ∧ n ≤ 9223372036854775807 := by
  simp only [Lit.wf, Bool.and_eq_true, decide_eq_true_eq] at h
  exact h

section
variable {H : Type} {enc : TypeId × Value → H} {w : World} {fuel : Nat} {v : Value} {y : DataW H × List MemPlace}

set_option maxRecDepth 100000 in
theorem open22 (h : DataW.trod enc Try.prog w 0 (fun _ => true) true fuel 22 [v] = some y) :
    ∃ (a : Option Addr) (cap : Nat) (l : List Pc), v = .slice a l.length cap ∧ l.length ≤ 9223372036854775807 ∧ Pcs w a l ∧ ∀ p, p ∈ l → Few p := by
  rcases open_slice Try.underlying22 h with ⟨hcs, _⟩ | ⟨a, len, cap, m, n, D, Pl, hcs, _, hl, hm, hmm, _, hx⟩
  · simp at hcs
    subst hcs
    exact ⟨none, 0, [], rfl, by simp, fun h => absurd rfl h, by simp⟩
  · simp at hcs hmm
    subst hcs hmm
    unfold maxLen at hm
    have hv : ∀ i, i < len → ∃ p : Pc, (w.cell? (a.add (i * 4)) = some (.int .i64 p.f) ∧ w.cell? (a.add (i * 4 + 1)) = some (.int .i64 p.n) ∧ w.cell? (a.add (i * 4 + 2)) = some (.int .i64 p.a) ∧ w.cell? (a.add (i * 4 + 3)) = some (.bool p.z)) ∧ Few p := by
      intro i hi
      obtain ⟨cs', h1, h2⟩ := hx i (by omega)
      rw [cells37] at h1
      obtain ⟨_, hlen, hcell⟩ := World.cells?_some h1
      obtain ⟨xs, k, _, _, _, hxl, hf⟩ := DataW.trod_struct Try.underlying37 h2
      match xs, hxl, cs', hlen with
      | [y0, y1, y2, y3], _, [v0, v1, v2, v3], _ =>
        have g0 := hf 0 _ rfl
        have g1 := hf 1 _ rfl
        have g2 := hf 2 _ rfl
        have g3 := hf 3 _ rfl
        have e0 := hcell 0 (by omega)
        have e1 := hcell 1 (by omega)
        have e2 := hcell 2 (by omega)
        have e3 := hcell 3 (by omega)
        rw [add_add] at e0 e1 e2 e3
        have c4 : Try.prog.cellsOf 4 = 1 := by kernel_rfl
        simp [c4, cells3] at g0 g1 g2 g3
        obtain ⟨p0, hp0, _, w0⟩ := DataW.trod_int Try.underlying3 g0
        obtain ⟨p1, hp1, _, w1⟩ := DataW.trod_int Try.underlying3 g1
        obtain ⟨p2, hp2, _, w2⟩ := DataW.trod_int Try.underlying3 g2
        obtain ⟨p3, hp3, _⟩ := DataW.trod_bool Try.underlying4 g3
        obtain rfl : v0 = .int .i64 p0 := by simpa using hp0
        obtain rfl : v1 = .int .i64 p1 := by simpa using hp1
        obtain rfl : v2 = .int .i64 p2 := by simpa using hp2
        obtain rfl : v3 = .bool p3 := by simpa using hp3
        exact ⟨⟨p0, p1, p2, p3⟩, ⟨by simpa using e0, by simpa using e1, by simpa using e2, by simpa using e3⟩, wf64 w0, wf64 w1, wf64 w2⟩
    have hch : ∃ f : Nat → Pc, ∀ i, i < len → (w.cell? (a.add (i * 4)) = some (.int .i64 (f i).f) ∧ w.cell? (a.add (i * 4 + 1)) = some (.int .i64 (f i).n) ∧ w.cell? (a.add (i * 4 + 2)) = some (.int .i64 (f i).a) ∧ w.cell? (a.add (i * 4 + 3)) = some (.bool (f i).z)) ∧ Few (f i) :=
      ⟨fun i => if h : i < len then Classical.choose (hv i h) else ⟨0, 0, 0, false⟩, fun i hi => by
        simp only [dif_pos hi]
        exact Classical.choose_spec (hv i hi)⟩
    obtain ⟨f, hf⟩ := hch
    have hg : ∀ i, i < len → gp ((List.range len).map f) i = f i := fun i hi => by simp [gp, hi]
    have hlen : ((List.range len).map f).length = len := by simp
    refine ⟨some a, m, (List.range len).map f, by rw [hlen], by omega, fun hn => ?_, fun p hp => ?_⟩
    · rw [hlen] at hn
      have hsp : a.spot = none := by simpa [Addr.add] using World.cell?_spot (hf 0 (by omega)).1.1
      refine ⟨a.block, a.off, by cases a; simp_all, fun i hi => ?_⟩
      rw [hlen] at hi
      rw [hg i hi]
      obtain ⟨⟨q0, q1, q2, q3⟩, -⟩ := hf i hi
      rw [add_spot hsp] at q0 q1 q2 q3
      exact ⟨q0, q1, q2, q3⟩
    · simp only [List.mem_map, List.mem_range] at hp
      obtain ⟨i, hi, rfl⟩ := hp
      exact (hf i hi).2
set_option maxRecDepth 100000 in
theorem open24 {r : Reach} {b0 : Nat} {d : DataW H} {p : List MemPlace} (hv : Value.okWide Try.prog w r b0 24 v) (h : DataW.Trod enc Try.prog w 0 (fun _ => true) true 24 v d p) :
    ∃ (a : Option Addr) (c : Nat) (l : List Pc), v = mv a l.length c ∧ l.length ≤ 9223372036854775807 ∧ Pcs w a l ∧ ∀ p, p ∈ l → Few p := by
  obtain ⟨cs, rfl, hsz⟩ := okWide_struct Try.underlying24 hv
  rw [cells24] at hsz
  obtain ⟨c0, rfl⟩ : ∃ c0, cs = #[c0] := by
    obtain ⟨l⟩ := cs
    match l, hsz with
    | [c0], _ => exact ⟨c0, rfl⟩
  obtain ⟨fuel, hf⟩ := h
  obtain ⟨xs, n, _, _, hl, hlen, hf'⟩ := DataW.trod_struct Try.underlying24 hf
  match xs, hlen with
  | [y0], _ =>
    have g0 := hf' 0 _ rfl
    have c22 : Try.prog.cellsOf 22 = 1 := by kernel_rfl
    simp [Value.cells, c22] at g0
    obtain ⟨a, c, l, rfl, h1, h2, h3⟩ := open22 g0
    exact ⟨a, c, l, rfl, h1, h2, h3⟩
set_option maxRecDepth 100000 in
theorem open37 {r : Reach} {b0 : Nat} {d : DataW H} {p : List MemPlace} (hv : Value.okWide Try.prog w r b0 37 v) (h : DataW.Trod enc Try.prog w 0 (fun _ => true) true 37 v d p) :
    ∃ q : Pc, v = pv q ∧ Few q := by
  obtain ⟨c0, c1, c2, c3, y0, y1, y2, y3, k, rfl, _, _, hy0, hy1, hy2, hy3⟩ := open_agg4 Try.underlying37 (by kernel_rfl) cells37 hv h
  obtain ⟨p0, hp0, _, w0⟩ := DataW.trod_int Try.underlying3 hy0
  obtain ⟨p1, hp1, _, w1⟩ := DataW.trod_int Try.underlying3 hy1
  obtain ⟨p2, hp2, _, w2⟩ := DataW.trod_int Try.underlying3 hy2
  obtain ⟨p3, hp3, _⟩ := DataW.trod_bool Try.underlying4 hy3
  obtain rfl : c0 = .int .i64 p0 := by simpa using hp0
  obtain rfl : c1 = .int .i64 p1 := by simpa using hp1
  obtain rfl : c2 = .int .i64 p2 := by simpa using hp2
  obtain rfl : c3 = .bool p3 := by simpa using hp3
  exact ⟨⟨p0, p1, p2, p3⟩, rfl, wf64 w0, wf64 w1, wf64 w2⟩
end
end Go.Proofs.Ytdbmdblghlfjfaa
