import Derived.Test.YtoodioaflaklmaaL2
import Derived.Deep.SlicePairs
import Derived.Deep.Strs
import Derived.Lib.SmallJoins
import Derived.ShutString
import Derived.ChangeOld
/- The ground of the rows: free room and extents as they come in. -/
namespace Go.Proofs.Ytoodioaflaklmaa
open Go.ChangeShapes Go.WideShapes Go.ChangeAt Go.RowKit Go.Deep Go.Joins
set_option linter.unusedVariables false
open Room

theorem own : ownKnob Try.prog.godebug = none := by kernel_rfl
theorem laidOut : laidOutB Try.prog = true := by kernel_rfl
theorem cells3 : Try.prog.cellsOf 3 = 1 := by kernel_rfl
theorem cells44 : Try.prog.cellsOf 24 = 3 := by kernel_rfl
theorem cells50 : Try.prog.cellsOf 38 = 2 := by kernel_rfl
theorem add_spot {a : Addr} {i : Nat} (h0 : a.spot = none) : a.add i = ⟨a.block, a.off + i, none⟩ := by
  obtain ⟨b, o, s⟩ := a
  simp at h0
  subst h0
  unfold Addr.add
  split <;> simp_all
theorem wf64 {n : Int} (h : (Lit.int .i64 n).wf = true) : -9223372036854775808 ≤ n ∧ n ≤ 9223372036854775807 := by
  simp only [Lit.wf, Bool.and_eq_true, decide_eq_true_eq] at h
  exact h
/-- An extent of an int's size. -/
def Fit (x : Ex) : Prop := (-9223372036854775808 ≤ x.1 ∧ x.1 ≤ 9223372036854775807) ∧ (-9223372036854775808 ≤ x.2 ∧ x.2 ≤ 9223372036854775807)

section
variable {H : Type} {enc : TypeId × Value → H} {w : World} {fuel : Nat} {v : Value} {y : DataW H × List MemPlace}

theorem open42 (h : DataW.trod enc Try.prog w 0 (fun _ => true) true fuel 22 [v] = some y) :
    ∃ (a : Option Addr) (cap : Nat) (l : List Ex), v = .slice a l.length cap ∧ l.length ≤ 9223372036854775807 ∧ Exs w a l ∧ ∀ x, x ∈ l → Fit x := by
  rcases open_slice_pairs Try.underlying22 Try.underlying38 cells50 rfl rfl (by kernel_rfl) (by kernel_rfl) h with ⟨hcs, _⟩ | ⟨a, len, cap, m, n, V0, V1, D0, D1, P0, P1, hcs, _, hl, hm, hmm, _, hx⟩
  · simp at hcs
    subst hcs
    exact ⟨none, 0, [], rfl, by simp, fun h => absurd rfl h, by simp⟩
  · simp at hcs hmm
    subst hcs hmm
    unfold maxLen at hm
    have hv : ∀ i, i < len → ∃ x : Ex, V0 i = .int .i64 x.1 ∧ V1 i = .int .i64 x.2 ∧ Fit x := fun i hi => by
      obtain ⟨_, _, h3, h4⟩ := hx i (by omega)
      obtain ⟨p, hp, _, wp⟩ := DataW.trod_int Try.underlying3 h3
      obtain ⟨q, hq, _, wq⟩ := DataW.trod_int Try.underlying3 h4
      exact ⟨(p, q), by simpa using hp, by simpa using hq, wf64 wp, wf64 wq⟩
    have hch : ∃ f : Nat → Ex, ∀ i, i < len → V0 i = .int .i64 (f i).1 ∧ V1 i = .int .i64 (f i).2 ∧ Fit (f i) :=
      ⟨fun i => if h : i < len then Classical.choose (hv i h) else (0, 0), fun i hi => by
        simp only [dif_pos hi]
        exact Classical.choose_spec (hv i hi)⟩
    obtain ⟨f, hf⟩ := hch
    have hg : ∀ i, i < len → gx ((List.range len).map f) i = f i := fun i hi => by simp [gx, hi]
    have hlen : ((List.range len).map f).length = len := by simp
    refine ⟨some a, m, (List.range len).map f, by rw [hlen], by omega, fun hn => ?_, fun x hx' => ?_⟩
    · rw [hlen] at hn
      have hsp : a.spot = none := by have := (hx 0 (by omega)).1; simpa [Addr.add] using World.cell?_spot this
      refine ⟨a.block, a.off, by cases a; simp_all, fun i hi => ?_⟩
      rw [hlen] at hi
      have h1 := (hx i (by omega)).1
      have h2 := (hx i (by omega)).2.1
      rw [add_spot hsp, (hf i hi).1] at h1
      rw [add_spot hsp, (hf i hi).2.1] at h2
      rw [hg i hi]
      exact ⟨h1, h2⟩
    · simp only [List.mem_map, List.mem_range] at hx'
      obtain ⟨i, hi, rfl⟩ := hx'
      exact (hf i hi).2.2
set_option maxRecDepth 100000 in
theorem open44 {r : Reach} {b0 : Nat} {d : DataW H} {p : List MemPlace} (hv : Value.okWide Try.prog w r b0 24 v) (h : DataW.Trod enc Try.prog w 0 (fun _ => true) true 24 v d p) :
    ∃ (b : Int) (a : Option Addr) (ca : Nat) (a' : Option Addr) (ca' : Nat) (l s : List Ex), v = fv b a l.length ca a' s.length ca' ∧ (-9223372036854775808 ≤ b ∧ b ≤ 9223372036854775807) ∧ l.length ≤ 9223372036854775807 ∧ s.length ≤ 9223372036854775807 ∧ Exs w a l ∧ Exs w a' s ∧ (∀ x, x ∈ l → Fit x) ∧ ∀ x, x ∈ s → Fit x := by
  obtain ⟨c0, c1, c2, y0, y1, y2, k, rfl, _, _, hy0, hy1, hy2⟩ := open_agg3 Try.underlying24 (by kernel_rfl) cells44 hv h
  obtain ⟨b, hb, _, wb⟩ := DataW.trod_int Try.underlying3 hy0
  obtain rfl : c0 = .int .i64 b := by simpa using hb
  obtain ⟨a, ca, l, rfl, h1, h2, h3⟩ := open42 hy1
  obtain ⟨a', ca', s, rfl, h1', h2', h3'⟩ := open42 hy2
  exact ⟨b, a, ca, a', ca', l, s, rfl, wf64 wb, h1, h1', h2, h2', h3, h3'⟩
set_option maxRecDepth 100000 in
theorem open50 {r : Reach} {b0 : Nat} {d : DataW H} {p : List MemPlace} (hv : Value.okWide Try.prog w r b0 38 v) (h : DataW.Trod enc Try.prog w 0 (fun _ => true) true 38 v d p) :
    ∃ x : Ex, v = xv x ∧ Fit x := by
  obtain ⟨c0, c1, y0, y1, k, rfl, _, _, hy0, hy1⟩ := open_agg2 Try.underlying38 (by kernel_rfl) cells50 hv h
  obtain ⟨b, hb, _, wb⟩ := DataW.trod_int Try.underlying3 hy0
  obtain rfl : c0 = .int .i64 b := by simpa using hb
  obtain ⟨c, hc, _, wc⟩ := DataW.trod_int Try.underlying3 hy1
  obtain rfl : c1 = .int .i64 c := by simpa using hc
  exact ⟨(b, c), rfl, wf64 wb, wf64 wc⟩
end
end Go.Proofs.Ytoodioaflaklmaa
