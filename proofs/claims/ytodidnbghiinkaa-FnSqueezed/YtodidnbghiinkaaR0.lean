import Derived.Test.YtodidnbghiinkaaB2
import Derived.Deep.SlicePairs
import Derived.Deep.Strs
import Derived.Lib.SmallJoins
import Derived.ShutString
import Derived.ChangeOld
import Derived.Deep.Slices
/- The ground of the rows. -/
namespace Go.Proofs.Ytodidnbghiinkaa
open Go.ChangeShapes Go.WideShapes Go.ChangeAt Go.RowKit Go.Deep Go.Joins
set_option linter.unusedVariables false
open Tz

theorem own : ownKnob Try.prog.godebug = none := by kernel_rfl
theorem laidOut : laidOutB Try.prog = true := by kernel_rfl
theorem cellsI : Try.prog.cellsOf 3 = 1 := by kernel_rfl
theorem cellsTk : Try.prog.cellsOf 51 = 3 := by kernel_rfl
theorem cells5 : Try.prog.cellsOf 5 = 1 := by kernel_rfl
theorem cells9 : Try.prog.cellsOf 9 = 1 := by kernel_rfl
theorem add_spot {a : Addr} {i : Nat} (h0 : a.spot = none) : a.add i = ⟨a.block, a.off + i, none⟩ := by
  obtain ⟨b, o, s⟩ := a
  simp at h0
  subst h0
  unfold Addr.add
  split <;> simp_all
theorem wf64 {n : Int} (h : (Lit.int .i64 n).wf = true) : -9223372036854775808 ≤ n ∧ n ≤ 9223372036854775807 := by
  simp only [Lit.wf, Bool.and_eq_true, decide_eq_true_eq] at h
  exact h
theorem byte_of {n : Int} (h : (Lit.int .u8 n).wf = true) : ∃ a : Nat, n = (a : Int) ∧ a < 256 := by
  simp only [Lit.wf, Bool.and_eq_true, decide_eq_true_eq] at h
  have h1 : 0 ≤ n := h.1
  have h2 : n ≤ 255 := h.2
  exact ⟨n.toNat, by omega, by omega⟩
section
variable {H : Type} {enc : TypeId × Value → H} {w : World} {fuel : Nat} {v : Value} {y : DataW H × List MemPlace}

theorem openStr (h : DataW.trod enc Try.prog w 0 (fun _ => true) true fuel 9 [v] = some y) : ∃ s : ByteArray, v = .string s ∧ s.size ≤ 9223372036854775807 := by
  obtain ⟨s, hs, _, z⟩ := DataW.trod_string Try.underlying9 h
  unfold maxLen at z
  exact ⟨s, by simpa using hs, z⟩
set_option maxRecDepth 100000 in
theorem openS {r : Reach} {b0 : Nat} {d : DataW H} {p : List MemPlace} (hv : Value.okWide Try.prog w r b0 9 v) (h : DataW.Trod enc Try.prog w 0 (fun _ => true) true 9 v d p) :
    ∃ s : ByteArray, v = .string s ∧ s.size ≤ 9223372036854775807 := by
  obtain ⟨s, rfl⟩ := okWide_string Try.underlying9 hv
  obtain ⟨fuel0, hf0⟩ := h
  simp only [Value.cells] at hf0
  obtain ⟨P0, hP0, z⟩ := openStr hf0
  obtain rfl : s = P0 := by simpa using hP0
  exact ⟨s, rfl, z⟩
set_option maxRecDepth 100000 in
theorem openI {r : Reach} {b0 : Nat} {d : DataW H} {p : List MemPlace} (hv : Value.okWide Try.prog w r b0 3 v) (h : DataW.Trod enc Try.prog w 0 (fun _ => true) true 3 v d p) : ∃ x : Int, v = .int .i64 x ∧ i64 x := by
  obtain ⟨x, rfl⟩ := okWide_int Try.underlying3 hv
  obtain ⟨fuel0, hf0⟩ := h
  simp only [Value.cells] at hf0
  obtain ⟨c, hc, _, wc⟩ := DataW.trod_int Try.underlying3 hf0
  exact ⟨x, rfl, by have : x = c := by simpa using hc
                    rw [this]; exact wf64 wc⟩
set_option maxRecDepth 100000 in
theorem openK {r : Reach} {b0 : Nat} {d : DataW H} {p : List MemPlace} (hv : Value.okWide Try.prog w r b0 25 v) (h : DataW.Trod enc Try.prog w 0 (fun _ => true) true 25 v d p) :
    ∃ (a : Option Addr) (cap : Nat) (l : List Tk), v = .slice a l.length cap ∧ l.length ≤ 9223372036854775807 ∧ Tks w a l ∧ ∀ i, i < l.length → Few (gt l i) := by
  obtain ⟨a0, len0, cap0, rfl⟩ := okWide_slice Try.underlying25 hv
  obtain ⟨fuel, hfl⟩ := h
  rcases open_slice Try.underlying25 hfl with ⟨hcs, _⟩ | ⟨a, len, cap, m, n, D, Pl, hcs, _, hl, hm, hmm, _, hx⟩
  · simp [Value.cells] at hcs
    obtain ⟨rfl, rfl, rfl⟩ := hcs
    exact ⟨none, _, [], rfl, by simp, fun h => absurd rfl h, fun i hi => absurd hi (by simp)⟩
  · simp [Value.cells] at hcs hmm
    obtain ⟨rfl, rfl, rfl⟩ := hcs
    subst hmm
    unfold maxLen at hm
    have hv : ∀ i, i < len0 → ∃ x : Tk, (w.cell? (a.add (i * 3)) = some (.string x.p) ∧ w.cell? (a.add (i * 3 + 1)) = some (.int .i64 x.d) ∧ w.cell? (a.add (i * 3 + 2)) = some (.int .i64 x.n)) ∧ Few x := by
      intro i hi
      obtain ⟨cs', h1, h2⟩ := hx i (by omega)
      rw [cellsTk] at h1
      obtain ⟨_, hlen, hcell⟩ := World.cells?_some h1
      obtain ⟨xs, k, _, _, _, hxl, hf⟩ := DataW.trod_struct Try.underlying51 h2
      match xs, hxl, cs', hlen with
      | [y0, y1, y2], _, [v0, v1, v2], _ =>
        have g0 := hf 0 _ rfl
        have g1 := hf 1 _ rfl
        have g2 := hf 2 _ rfl
        have e0 := hcell 0 (by omega)
        have e1 := hcell 1 (by omega)
        have e2 := hcell 2 (by omega)
        rw [add_add] at e0 e1 e2
        simp [cells9, cellsI] at g0 g1 g2
        obtain ⟨s, rfl, z⟩ := openStr g0
        obtain ⟨c1, hc1, _, wc1⟩ := DataW.trod_int Try.underlying3 g1
        obtain ⟨c2, hc2, _, wc2⟩ := DataW.trod_int Try.underlying3 g2
        obtain rfl : v1 = .int .i64 c1 := by simpa using hc1
        obtain rfl : v2 = .int .i64 c2 := by simpa using hc2
        exact ⟨⟨s, c1, c2⟩, ⟨by simpa using e0, by simpa using e1, by simpa using e2⟩, z, wf64 wc1, wf64 wc2⟩
    have hch : ∃ f : Nat → Tk, ∀ i, i < len0 → (w.cell? (a.add (i * 3)) = some (.string (f i).p) ∧ w.cell? (a.add (i * 3 + 1)) = some (.int .i64 (f i).d) ∧ w.cell? (a.add (i * 3 + 2)) = some (.int .i64 (f i).n)) ∧ Few (f i) :=
      ⟨fun i => if h : i < len0 then Classical.choose (hv i h) else tk0, fun i hi => by
        simp only [dif_pos hi]
        exact Classical.choose_spec (hv i hi)⟩
    obtain ⟨f, hf⟩ := hch
    have hg : ∀ i, i < len0 → gt ((List.range len0).map f) i = f i := fun i hi => by simp [gt, hi]
    have hlen : ((List.range len0).map f).length = len0 := by simp
    refine ⟨some a, _, (List.range len0).map f, by rw [hlen], by rw [hlen]; omega, fun hn => ?_, fun i hi => ?_⟩
    · rw [hlen] at hn
      obtain ⟨⟨q0, -⟩, -⟩ := hf 0 (by omega)
      have hsp : a.spot = none := by simpa [Addr.add] using World.cell?_spot q0
      refine ⟨a.block, a.off, by cases a; simp_all, fun i hi => ?_⟩
      rw [hlen] at hi
      rw [hg i hi]
      obtain ⟨⟨q0, q1, q2⟩, -⟩ := hf i hi
      rw [add_spot hsp] at q0 q1 q2
      exact ⟨q0, q1, q2⟩
    · rw [hlen] at hi
      rw [hg i hi]
      exact (hf i hi).2
/-- Bytes as values. -/
def by' (S : Nat → Nat) : Nat → Value := fun i => .int .u8 (S i : Int)
set_option maxRecDepth 100000 in
theorem openY {r : Reach} {b0 : Nat} {d : DataW H} {p : List MemPlace} (hv : Value.okWide Try.prog w r b0 39 v) (h : DataW.Trod enc Try.prog w 0 (fun _ => true) true 39 v d p) :
    ∃ (a : Option Addr) (n cap : Nat) (S : Nat → Nat), v = .slice a n cap ∧ n ≤ 9223372036854775807 ∧ (∀ i, S i < 256) ∧ At w a n (by' S) := by
  obtain ⟨a0, len0, cap0, rfl⟩ := okWide_slice Try.underlying39 hv
  obtain ⟨fuel, hf⟩ := h
  rcases open_slice1 Try.underlying39 cells5 hf with ⟨hcs, _⟩ | ⟨a, len, cap, m, k, V, D, Pl, hcs, _, hl, hm, hmm, _, hx⟩
  · simp [Value.cells] at hcs
    obtain ⟨rfl, rfl, rfl⟩ := hcs
    exact ⟨none, 0, _, fun _ => 0, rfl, by simp, fun _ => (by decide : 0 < 256), fun h => absurd rfl h⟩
  · simp [Value.cells] at hcs hmm
    obtain ⟨rfl, rfl, rfl⟩ := hcs
    subst hmm
    unfold maxLen at hm
    have e0 : ∀ i, i < m → ∃ b : Nat, V i = .int .u8 (b : Int) ∧ b < 256 := fun i hi => by
      obtain ⟨n, hb, _, hw⟩ := DataW.trod_int Try.underlying5 (hx i hi).2
      obtain ⟨b, rfl, hlt⟩ := byte_of hw
      exact ⟨b, by simpa using hb, hlt⟩
    obtain ⟨S, hS⟩ := choose_lt e0
    refine ⟨some a, len0, m, fun i => S i % 256, rfl, by omega, fun i => Nat.mod_lt _ (by omega), fun hn => ?_⟩
    have hsp : a.spot = none := by have := (hx 0 (by omega)).1; simpa [Addr.add] using World.cell?_spot this
    refine ⟨a.block, a.off, by cases a; simp_all, fun i hi => ?_⟩
    rw [← add_spot hsp, (hx i (by omega)).1, (hS i (by omega)).1, by', Nat.mod_eq_of_lt (hS i (by omega)).2]
end
end Go.Proofs.Ytodidnbghiinkaa
