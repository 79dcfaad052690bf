import Derived.Test.YthioomihpfmlmaaR0
import Derived.Test.YthioomihpfmlmaaM2
/- The ground of the rows: inodes and names as they come in. -/
namespace Go.Proofs.Ythioomihpfmlmaa
open Go.ChangeShapes Go.WideShapes Go.ChangeAt Go.RowKit Go.Deep Go.Joins
set_option linter.unusedVariables false
open Hd

theorem cellsI : Try.prog.cellsOf 64 = 3 := by kernel_rfl
theorem cellsIS : Try.prog.cellsOf 29 = 1 := by kernel_rfl
theorem cellsT : Try.prog.cellsOf 31 = 1 := by kernel_rfl
theorem array1 {α : Type} {a : Array α} (h : a.size = 1) : ∃ c0, a = #[c0] := by
  obtain ⟨l⟩ := a
  match l, h with
  | [c0], _ => exact ⟨c0, rfl⟩
section
variable {H : Type} {enc : TypeId × Value → H} {w : World} {fuel : Nat} {v : Value} {y : DataW H × List MemPlace}

set_option maxRecDepth 100000 in
theorem openIs (h : DataW.trod enc Try.prog w 0 (fun _ => true) true fuel 29 [v] = some y) :
    ∃ (a : Option Addr) (cap : Nat) (L : List Ino), v = .slice a L.length cap ∧ L.length ≤ cap ∧ Inos w a L ∧ FewI L := by
  rcases open_slice Try.underlying29 h with ⟨hcs, _⟩ | ⟨a, len, cap, m, n, D, Pl, hcs, _, hl, hm, hmm, _, hx⟩
  · simp at hcs
    subst hcs
    exact ⟨none, 0, [], rfl, by simp, fun h => absurd rfl h, by simp, fun i hi => absurd hi (by simp)⟩
  · simp at hcs hmm
    subst hcs hmm
    unfold maxLen at hm
    have hv : ∀ i, i < len → ∃ x : Ino, (∃ V, w.cell? (a.add (i * 3)) = some (.bool x.dr) ∧ w.cell? (a.add (i * 3 + 1)) = some (.int .i64 x.lk) ∧ w.cell? (a.add (i * 3 + 2)) = some V ∧ (∃ ka kc, V = .slice ka x.ns.length kc ∧ x.ns.length ≤ kc ∧ Nms w ka x.ns)) ∧ FewN x.ns := by
      intro i hi
      obtain ⟨cs', h1, h2⟩ := hx i (by omega)
      rw [cellsI] at h1
      obtain ⟨_, hlen, hcell⟩ := World.cells?_some h1
      obtain ⟨xs, k, _, _, _, hxl, hf⟩ := DataW.trod_struct Try.underlying64 h2
      match xs, hxl, cs', hlen with
      | [y0, y1, y2], _, [v0, v1, v2], _ =>
        have g0 := hf 0 _ rfl
        have g1 := hf 1 _ rfl
        have g2 := hf 2 _ rfl
        have e0 := hcell 0 (by omega)
        have e1 := hcell 1 (by omega)
        have e2 := hcell 2 (by omega)
        rw [add_add] at e0 e1 e2
        have c4 : Try.prog.cellsOf 4 = 1 := by kernel_rfl
        have c56 : Try.prog.cellsOf 62 = 1 := by kernel_rfl
        simp [c4, c56, cells3] at g0 g1 g2
        obtain ⟨b, hb, _⟩ := DataW.trod_bool Try.underlying4 g0
        obtain rfl : v0 = .bool b := by simpa using hb
        obtain ⟨c, hc, _, wc⟩ := DataW.trod_int Try.underlying3 g1
        obtain rfl : v1 = .int .i64 c := by simpa using hc
        obtain ⟨ka, kc, l, rfl, p1, p2, p3⟩ := open56 g2
        exact ⟨⟨b, c, l⟩, ⟨_, by simpa using e0, by simpa using e1, by simpa using e2, ka, kc, rfl, p1, p2⟩, p3⟩
    have hch : ∃ f : Nat → Ino, ∀ i, i < len → (∃ V, w.cell? (a.add (i * 3)) = some (.bool (f i).dr) ∧ w.cell? (a.add (i * 3 + 1)) = some (.int .i64 (f i).lk) ∧ w.cell? (a.add (i * 3 + 2)) = some V ∧ (∃ ka kc, V = .slice ka (f i).ns.length kc ∧ (f i).ns.length ≤ kc ∧ Nms w ka (f i).ns)) ∧ FewN (f i).ns :=
      ⟨fun i => if h : i < len then Classical.choose (hv i h) else in0, fun i hi => by
        simp only [dif_pos hi]
        exact Classical.choose_spec (hv i hi)⟩
    obtain ⟨f, hf⟩ := hch
    have hg : ∀ i, i < len → gn ((List.range len).map f) i = f i := fun i hi => by simp [gn, hi]
    have hlen : ((List.range len).map f).length = len := by simp
    refine ⟨some a, m, (List.range len).map f, by rw [hlen], by omega, fun hn => ?_, by rw [hlen]; omega, fun i hi => ?_⟩
    · rw [hlen] at hn
      obtain ⟨⟨V, q0, -⟩, -⟩ := hf 0 (by omega)
      have hsp : a.spot = none := by simpa [Addr.add] using World.cell?_spot q0
      refine ⟨a.block, a.off, by cases a; simp_all, fun i hi => ?_⟩
      rw [hlen] at hi
      rw [hg i hi]
      obtain ⟨⟨V, q0, q1, q2, ka, kc, rfl, p1, p2⟩, -⟩ := hf i hi
      rw [add_spot hsp] at q0 q1 q2
      exact ⟨ka, kc, q0, q1, q2, p2, p1⟩
    · rw [hlen] at hi
      rw [hg i hi]
      exact (hf i hi).2
set_option maxRecDepth 100000 in
theorem openT {r : Reach} {b0 : Nat} {d : DataW H} {p : List MemPlace} (hv : Value.okWide Try.prog w r b0 31 v) (h : DataW.Trod enc Try.prog w 0 (fun _ => true) true 31 v d p) :
    ∃ T : List Ino, NamAt w v T ∧ FewI T := by
  obtain ⟨cs, rfl, hsz⟩ := okWide_struct Try.underlying31 hv
  obtain ⟨c0, rfl⟩ := array1 (hsz.trans cellsT)
  obtain ⟨fuel, hf⟩ := h
  obtain ⟨y0, n, hx, _, h0⟩ := trod_struct1 Try.underlying31 hf
  simp [Value.cells, cellsIS] at h0
  obtain ⟨a, ca, L, rfl, h4, h5, h6⟩ := openIs h0
  exact ⟨L, ⟨a, ca, rfl, h4, h5⟩, h6⟩
end
end Go.Proofs.Ythioomihpfmlmaa
