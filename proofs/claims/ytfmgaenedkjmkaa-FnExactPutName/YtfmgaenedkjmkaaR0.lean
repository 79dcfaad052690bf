import Derived.Test.YtfmgaenedkjmkaaL4
import Derived.Deep.SlicePairs
import Derived.Deep.Strs
import Derived.Lib.SmallJoins
import Derived.ShutString
import Derived.ChangeOld
/- The ground of the rows: names, rows and directories as they come in. -/
namespace Go.Proofs.Ytfmgaenedkjmkaa
open Go.ChangeShapes Go.WideShapes Go.ChangeAt Go.RowKit Go.Deep Go.Joins
set_option linter.unusedVariables false
open Hd

theorem own : ownKnob Try.prog.godebug = none := by kernel_rfl
theorem laidOut : laidOutB Try.prog = true := by kernel_rfl
theorem cells3 : Try.prog.cellsOf 3 = 1 := by kernel_rfl
theorem cells43 : Try.prog.cellsOf 27 = 2 := by kernel_rfl
theorem cells98 : Try.prog.cellsOf 83 = 2 := by kernel_rfl
theorem cells34 : Try.prog.cellsOf 25 = 3 := by kernel_rfl
theorem add_spot {a : Addr} {i : Nat} (h0 : a.spot = none) : a.add i = ⟨a.block, a.off + i, none⟩ := by
  obtain ⟨b, o, s⟩ := a
  simp at h0
  subst h0
  unfold Addr.add
  split <;> simp_all
theorem wf64 {n : Int} (h : (Lit.int .i64 n).wf = true) : -9223372036854775808 ≤ n ∧ n ≤ 9223372036854775807 := by
  simp only [Lit.wf, Bool.and_eq_true, decide_eq_true_eq] at h
  exact h
/-- An int's size. -/
def Fit (x : Int) : Prop := -9223372036854775808 ≤ x ∧ x ≤ 9223372036854775807

section
variable {H : Type} {enc : TypeId × Value → H} {w : World} {fuel : Nat} {v : Value} {y : DataW H × List MemPlace}

theorem open24 (h : DataW.trod enc Try.prog w 0 (fun _ => true) true fuel 22 [v] = some y) :
    ∃ (a : Option Addr) (cap : Nat) (l : List Int), v = .slice a l.length cap ∧ l.length ≤ cap ∧ l.length ≤ 9223372036854775807 ∧ Ints w a l ∧ ∀ x, x ∈ l → Fit x := by
  rcases open_ints Try.underlying22 Try.underlying3 cells3 h with ⟨hcs, _⟩ | ⟨a, len, cap, zs, hcs, _, hl, hm, hz, _, hcell, hwz⟩
  · simp at hcs
    subst hcs
    exact ⟨none, 0, [], rfl, by simp, by simp, fun h => absurd rfl h, by simp⟩
  · simp at hcs hz
    subst hcs
    unfold maxLen at hm
    have hlen : (zs.take len).length = len := by simp; omega
    refine ⟨some a, cap, zs.take len, by rw [hlen], by omega, by omega, fun hn => ?_, fun x hx => wf64 (hwz x (List.mem_of_mem_take hx))⟩
    rw [hlen] at hn
    have hsp : a.spot = none := by have := hcell 0 (by omega); simpa [Addr.add] using World.cell?_spot this
    refine ⟨a.block, a.off, by cases a; simp_all, fun i hi => ?_⟩
    rw [hlen] at hi
    have := hcell i (by omega)
    rw [add_spot hsp] at this
    rw [this]
    simp [gi, hi]
theorem openStr (h : DataW.trod enc Try.prog w 0 (fun _ => true) true fuel 9 [v] = some y) : ∃ s : ByteArray, v = .string s ∧ s.size ≤ 9223372036854775807 := by
  obtain ⟨s, hs, _, z⟩ := DataW.trod_string Try.underlying9 h
  unfold maxLen at z
  exact ⟨s, by simpa using hs, z⟩
set_option maxRecDepth 100000 in
theorem open56 (h : DataW.trod enc Try.prog w 0 (fun _ => true) true fuel 43 [v] = some y) :
    ∃ (a : Option Addr) (cap : Nat) (l : List Nm), v = .slice a l.length cap ∧ l.length ≤ cap ∧ Nms w a l ∧ FewN l := by
  rcases open_slice Try.underlying43 h with ⟨hcs, _⟩ | ⟨a, len, cap, m, n, D, Pl, hcs, _, hl, hm, hmm, _, hx⟩
  · simp at hcs
    subst hcs
    exact ⟨none, 0, [], rfl, by simp, fun h => absurd rfl h, by simp, fun i hi => absurd hi (by simp)⟩
  · simp at hcs hmm
    subst hcs hmm
    unfold maxLen at hm
    have hv : ∀ i, i < len → ∃ x : Nm, (w.cell? (a.add (i * 2)) = some (.string x.nm) ∧ w.cell? (a.add (i * 2 + 1)) = some (.int .i64 x.fl)) ∧ x.nm.size ≤ 9223372036854775807 := by
      intro i hi
      obtain ⟨cs', h1, h2⟩ := hx i (by omega)
      rw [cells43] at h1
      obtain ⟨_, hlen, hcell⟩ := World.cells?_some h1
      obtain ⟨xs, k, _, _, _, hxl, hf⟩ := DataW.trod_struct Try.underlying27 h2
      match xs, hxl, cs', hlen with
      | [y0, y1], _, [v0, v1], _ =>
        have g0 := hf 0 _ rfl
        have g1 := hf 1 _ rfl
        have e0 := hcell 0 (by omega)
        have e1 := hcell 1 (by omega)
        rw [add_add] at e0 e1
        have c9 : Try.prog.cellsOf 9 = 1 := by kernel_rfl
        simp [c9, cells3] at g0 g1
        obtain ⟨s, rfl, z⟩ := openStr g0
        obtain ⟨c, hc, _, wc⟩ := DataW.trod_int Try.underlying3 g1
        obtain rfl : v1 = .int .i64 c := by simpa using hc
        exact ⟨⟨s, c⟩, ⟨by simpa using e0, by simpa using e1⟩, z⟩
    have hch : ∃ f : Nat → Nm, ∀ i, i < len → (w.cell? (a.add (i * 2)) = some (.string (f i).nm) ∧ w.cell? (a.add (i * 2 + 1)) = some (.int .i64 (f i).fl)) ∧ (f i).nm.size ≤ 9223372036854775807 :=
      ⟨fun i => if h : i < len then Classical.choose (hv i h) else nm0, fun i hi => by
        simp only [dif_pos hi]
        exact Classical.choose_spec (hv i hi)⟩
    obtain ⟨f, hf⟩ := hch
    have hg : ∀ i, i < len → gm ((List.range len).map f) i = f i := fun i hi => by simp [gm, hi]
    have hlen : ((List.range len).map f).length = len := by simp
    refine ⟨some a, m, (List.range len).map f, by rw [hlen], by omega, fun hn => ?_, by rw [hlen]; omega, fun i hi => ?_⟩
    · rw [hlen] at hn
      obtain ⟨⟨q0, -⟩, -⟩ := hf 0 (by omega)
      have hsp : a.spot = none := by simpa [Addr.add] using World.cell?_spot q0
      refine ⟨a.block, a.off, by cases a; simp_all, fun i hi => ?_⟩
      rw [hlen] at hi
      rw [hg i hi]
      obtain ⟨⟨q0, q1⟩, -⟩ := hf i hi
      rw [add_spot hsp] at q0 q1
      exact ⟨q0, q1⟩
    · rw [hlen] at hi
      rw [hg i hi]
      exact (hf i hi).2
set_option maxRecDepth 100000 in
theorem open32 (h : DataW.trod enc Try.prog w 0 (fun _ => true) true fuel 23 [v] = some y) :
    ∃ (a : Option Addr) (cap : Nat) (L : List Bk), v = .slice a L.length cap ∧ L.length ≤ cap ∧ Bks w a L ∧ FewB L := by
  rcases open_slice Try.underlying23 h with ⟨hcs, _⟩ | ⟨a, len, cap, m, n, D, Pl, hcs, _, hl, hm, hmm, _, hx⟩
  · simp at hcs
    subst hcs
    exact ⟨none, 0, [], rfl, by simp, fun h => absurd rfl h, by simp, fun i hi => absurd hi (by simp)⟩
  · simp at hcs hmm
    subst hcs hmm
    unfold maxLen at hm
    have hv : ∀ i, i < len → ∃ x : Bk, (∃ V, w.cell? (a.add (i * 2)) = some (.int .i64 x.dp) ∧ w.cell? (a.add (i * 2 + 1)) = some V ∧ (∃ ka kc, V = .slice ka x.ns.length kc ∧ x.ns.length ≤ kc ∧ Nms w ka x.ns)) ∧ FewN x.ns := by
      intro i hi
      obtain ⟨cs', h1, h2⟩ := hx i (by omega)
      rw [cells98] at h1
      obtain ⟨_, hlen, hcell⟩ := World.cells?_some h1
      obtain ⟨xs, k, _, _, _, hxl, hf⟩ := DataW.trod_struct Try.underlying83 h2
      match xs, hxl, cs', hlen with
      | [y0, y1], _, [v0, v1], _ =>
        have g0 := hf 0 _ rfl
        have g1 := hf 1 _ rfl
        have e0 := hcell 0 (by omega)
        have e1 := hcell 1 (by omega)
        rw [add_add] at e0 e1
        have c56 : Try.prog.cellsOf 43 = 1 := by kernel_rfl
        simp [c56, cells3] at g0 g1
        obtain ⟨c, hc, _, wc⟩ := DataW.trod_int Try.underlying3 g0
        obtain rfl : v0 = .int .i64 c := by simpa using hc
        obtain ⟨ka, kc, l, rfl, p1, p2, p3⟩ := open56 g1
        exact ⟨⟨c, l⟩, ⟨_, by simpa using e0, by simpa using e1, ka, kc, rfl, p1, p2⟩, p3⟩
    have hch : ∃ f : Nat → Bk, ∀ i, i < len → (∃ V, w.cell? (a.add (i * 2)) = some (.int .i64 (f i).dp) ∧ w.cell? (a.add (i * 2 + 1)) = some V ∧ (∃ ka kc, V = .slice ka (f i).ns.length kc ∧ (f i).ns.length ≤ kc ∧ Nms w ka (f i).ns)) ∧ FewN (f i).ns :=
      ⟨fun i => if h : i < len then Classical.choose (hv i h) else bk0, fun i hi => by
        simp only [dif_pos hi]
        exact Classical.choose_spec (hv i hi)⟩
    obtain ⟨f, hf⟩ := hch
    have hg : ∀ i, i < len → gb ((List.range len).map f) i = f i := fun i hi => by simp [gb, hi]
    have hlen : ((List.range len).map f).length = len := by simp
    refine ⟨some a, m, (List.range len).map f, by rw [hlen], by omega, fun hn => ?_, by rw [hlen]; omega, fun i hi => ?_⟩
    · rw [hlen] at hn
      obtain ⟨⟨V, q0, -⟩, -⟩ := hf 0 (by omega)
      have hsp : a.spot = none := by simpa [Addr.add] using World.cell?_spot q0
      refine ⟨a.block, a.off, by cases a; simp_all, fun i hi => ?_⟩
      rw [hlen] at hi
      rw [hg i hi]
      obtain ⟨⟨V, q0, q1, ka, kc, rfl, p1, p2⟩, -⟩ := hf i hi
      rw [add_spot hsp] at q0 q1
      exact ⟨ka, kc, q0, q1, p2, p1⟩
    · rw [hlen] at hi
      rw [hg i hi]
      exact (hf i hi).2
set_option maxRecDepth 100000 in
theorem open34 {r : Reach} {b0 : Nat} {d : DataW H} {p : List MemPlace} (hv : Value.okWide Try.prog w r b0 25 v) (h : DataW.Trod enc Try.prog w 0 (fun _ => true) true 25 v d p) :
    ∃ (D : Dr), DirAt w v D ∧ FewD D := by
  obtain ⟨c0, c1, c2, y0, y1, y2, k, rfl, _, _, hy0, hy1, hy2⟩ := open_agg3 Try.underlying25 (by kernel_rfl) cells34 hv h
  obtain ⟨c, hc, _, wc⟩ := DataW.trod_int Try.underlying3 hy0
  obtain rfl : c0 = .int .i64 c := by simpa using hc
  obtain ⟨a, ca, S, rfl, h1, h2, h3, _⟩ := open24 hy1
  obtain ⟨a', ca', L, rfl, h4, h5, h6⟩ := open32 hy2
  exact ⟨⟨c, S, L⟩, ⟨a, ca, a', ca', rfl, h1, h4, h3, h5⟩, h2, h6⟩
set_option maxRecDepth 100000 in
theorem openS {r : Reach} {b0 : Nat} {d : DataW H} {p : List MemPlace} (hv : Value.okWide Try.prog w r b0 9 v) (h : DataW.Trod enc Try.prog w 0 (fun _ => true) true 9 v d p) :
    ∃ s : ByteArray, v = .string s ∧ s.size ≤ 9223372036854775807 := by
  obtain ⟨s, rfl⟩ := okWide_string Try.underlying9 hv
  obtain ⟨fuel0, hf0⟩ := h
  simp only [Value.cells] at hf0
  obtain ⟨P0, hP0, z⟩ := openStr hf0
  obtain rfl : s = P0 := by simpa using hP0
  exact ⟨s, rfl, z⟩
set_option maxRecDepth 100000 in
theorem open43 {r : Reach} {b0 : Nat} {d : DataW H} {p : List MemPlace} (hv : Value.okWide Try.prog w r b0 27 v) (h : DataW.Trod enc Try.prog w 0 (fun _ => true) true 27 v d p) :
    ∃ x : Nm, v = nv x ∧ x.nm.size ≤ 9223372036854775807 ∧ Fit x.fl := by
  obtain ⟨c0, c1, y0, y1, k, rfl, _, _, hy0, hy1⟩ := open_agg2 Try.underlying27 (by kernel_rfl) cells43 hv h
  obtain ⟨s, rfl, z⟩ := openStr hy0
  obtain ⟨c, hc, _, wc⟩ := DataW.trod_int Try.underlying3 hy1
  obtain rfl : c1 = .int .i64 c := by simpa using hc
  exact ⟨⟨s, c⟩, rfl, z, wf64 wc⟩
set_option maxRecDepth 100000 in
theorem open56v {r : Reach} {b0 : Nat} {d : DataW H} {p : List MemPlace} (hv : Value.okWide Try.prog w r b0 43 v) (h : DataW.Trod enc Try.prog w 0 (fun _ => true) true 43 v d p) :
    ∃ (a : Option Addr) (cap : Nat) (l : List Nm), v = .slice a l.length cap ∧ l.length ≤ cap ∧ Nms w a l ∧ FewN l := by
  obtain ⟨a0, len, cap, rfl⟩ := okWide_slice Try.underlying43 hv
  obtain ⟨fuel, hf⟩ := h
  exact open56 hf
end
end Go.Proofs.Ytfmgaenedkjmkaa
