import Derived.Test.YtcfjkejaenmibaaDoorR0D
import Derived.Test.YtcfjkejaenmibaaDoorE1
import Derived.Test.YtcfjkejaenmibaaDoorL2
import Derived.Stop.LaidTwo
/- The ground of the rows: rings as they come in, the two sentinels. -/
namespace Go.Proofs.YtcfjkejaenmibaaDoor
open Go.ChangeShapes Go.WideShapes Go.ChangeAt Go.RowKit Go.Deep Go.Joins
set_option linter.unusedVariables false
open Lg

theorem add_spot {a : Addr} {i : Nat} (h0 : a.spot = none) : a.add i = ⟨a.block, a.off + i, none⟩ := by
  obtain ⟨b, o, s⟩ := a
  simp at h0
  subst h0
  unfold Addr.add
  split <;> simp_all
theorem cells3 : Tryd.prog.cellsOf 3 = 1 := by kernel_rfl
theorem cells9 : Tryd.prog.cellsOf 9 = 1 := by kernel_rfl
theorem cellsRg : Tryd.prog.cellsOf 32 = 4 := by kernel_rfl
section
variable {H : Type} {enc : TypeId × Value → H} {w : World} {fuel : Nat} {v : Value} {y : DataW H × List MemPlace}
set_option maxRecDepth 100000 in
theorem openSls (h : DataW.trod enc Tryd.prog w 0 (fun _ => true) true fuel 30 [v] = some y) :
    ∃ (a : Option Addr) (cap : Nat) (l : List Sl), v = .slice a l.length cap ∧ l.length ≤ 9223372036854775807 ∧ Sls w a l ∧ ∀ i, i < l.length → Few (gs l i) := by
  rcases open_slice Tryd.underlying30 h with ⟨hcs, _⟩ | ⟨a, len, cap, m, n, D, Pl, hcs, _, hl, hm, hmm, _, hx⟩
  · simp at hcs
    subst hcs
    exact ⟨none, 0, [], rfl, by simp, fun h => absurd rfl h, by simp⟩
  · simp at hcs hmm
    subst hcs hmm
    unfold maxLen at hm
    have hv : ∀ i, i < len → ∃ p : Sl, (w.cell? (a.add (i * 4)) = some (.int .i64 p.c) ∧ w.cell? (a.add (i * 4 + 1)) = some (.int .i64 p.t) ∧ w.cell? (a.add (i * 4 + 2)) = some (.string p.d) ∧ w.cell? (a.add (i * 4 + 3)) = some (.int .i64 p.s)) ∧ Few p := by
      intro i hi
      obtain ⟨cs', h1, h2⟩ := hx i (by omega)
      rw [cellsSl] at h1
      obtain ⟨_, hlen, hcell⟩ := World.cells?_some h1
      obtain ⟨xs, k, _, _, _, hxl, hf⟩ := DataW.trod_struct Tryd.underlying38 h2
      match xs, hxl, cs', hlen with
      | [y0, y1, y2, y3], _, [v0, v1, v2, v3], _ =>
        have g0 := hf 0 _ rfl
        have g1 := hf 1 _ rfl
        have g2 := hf 2 _ rfl
        have g3 := hf 3 _ rfl
        have e0 := hcell 0 (by omega)
        have e1 := hcell 1 (by omega)
        have e2 := hcell 2 (by omega)
        have e3 := hcell 3 (by omega)
        rw [add_add] at e0 e1 e2 e3
        simp [cells9, cells3] at g0 g1 g2 g3
        obtain ⟨p0, hp0, _, w0⟩ := DataW.trod_int Tryd.underlying3 g0
        obtain ⟨p1, hp1, _, w1⟩ := DataW.trod_int Tryd.underlying3 g1
        obtain ⟨p2, hp2, _, w2⟩ := DataW.trod_string Tryd.underlying9 g2
        obtain ⟨p3, hp3, _, w3⟩ := DataW.trod_int Tryd.underlying3 g3
        obtain rfl : v0 = .int .i64 p0 := by simpa using hp0
        obtain rfl : v1 = .int .i64 p1 := by simpa using hp1
        obtain rfl : v2 = .string p2 := by simpa using hp2
        obtain rfl : v3 = .int .i64 p3 := by simpa using hp3
        unfold maxLen at w2
        exact ⟨⟨p0, p1, p2, p3⟩, ⟨by simpa using e0, by simpa using e1, by simpa using e2, by simpa using e3⟩, wf64 w0, wf64 w1, w2, wf64 w3⟩
    have hch : ∃ f : Nat → Sl, ∀ i, i < len → (w.cell? (a.add (i * 4)) = some (.int .i64 (f i).c) ∧ w.cell? (a.add (i * 4 + 1)) = some (.int .i64 (f i).t) ∧ w.cell? (a.add (i * 4 + 2)) = some (.string (f i).d) ∧ w.cell? (a.add (i * 4 + 3)) = some (.int .i64 (f i).s)) ∧ Few (f i) :=
      ⟨fun i => if h : i < len then Classical.choose (hv i h) else Lg.zero, fun i hi => by
        simp only [dif_pos hi]
        exact Classical.choose_spec (hv i hi)⟩
    obtain ⟨f, hf⟩ := hch
    have hg : ∀ i, i < len → gs ((List.range len).map f) i = f i := fun i hi => by simp [gs, hi]
    have hlen : ((List.range len).map f).length = len := by simp
    refine ⟨some a, m, (List.range len).map f, by rw [hlen], by omega, fun hn => ?_, fun i hi => ?_⟩
    · rw [hlen] at hn
      have hsp : a.spot = none := by simpa [Addr.add] using World.cell?_spot (hf 0 (by omega)).1.1
      refine ⟨a.block, a.off, by cases a; simp_all, fun i hi => ?_⟩
      rw [hlen] at hi
      rw [hg i hi]
      obtain ⟨⟨q0, q1, q2, q3⟩, -⟩ := hf i hi
      rw [add_spot hsp] at q0 q1 q2 q3
      exact ⟨q0, q1, q2, q3⟩
    · rw [hlen] at hi
      rw [hg i hi]
      exact (hf i hi).2
set_option maxRecDepth 100000 in
theorem openRg {r : Reach} {b0 : Nat} {d : DataW H} {p : List MemPlace} (hv : Value.okWide Tryd.prog w r b0 32 v) (h : DataW.Trod enc Tryd.prog w 0 (fun _ => true) true 32 v d p) :
    ∃ (a : Option Addr) (c : Nat) (l : List Sl) (hd cy t : Int), v = rv a l.length c hd cy t ∧ l.length ≤ 9223372036854775807 ∧ Sls w a l ∧ (∀ i, i < l.length → Few (gs l i)) ∧ i64 hd ∧ i64 cy ∧ i64 t := by
  obtain ⟨c0, c1, c2, c3, y0, y1, y2, y3, k, rfl, _, _, hy0, hy1, hy2, hy3⟩ := open_agg4 Tryd.underlying32 (by kernel_rfl) cellsRg hv h
  obtain ⟨a, c, l, rfl, h1, h2, h3⟩ := openSls hy0
  obtain ⟨p1, hp1, _, w1⟩ := DataW.trod_int Tryd.underlying3 hy1
  obtain ⟨p2, hp2, _, w2⟩ := DataW.trod_int Tryd.underlying3 hy2
  obtain ⟨p3, hp3, _, w3⟩ := DataW.trod_int Tryd.underlying3 hy3
  obtain rfl : c1 = .int .i64 p1 := by simpa using hp1
  obtain rfl : c2 = .int .i64 p2 := by simpa using hp2
  obtain rfl : c3 = .int .i64 p3 := by simpa using hp3
  exact ⟨a, c, l, p1, p2, p3, rfl, h1, h2, h3, wf64 w1, wf64 w2, wf64 w3⟩
set_option maxRecDepth 100000 in
theorem openSv {r : Reach} {b0 : Nat} {d : DataW H} {p : List MemPlace} (hv : Value.okWide Tryd.prog w r b0 30 v) (h : DataW.Trod enc Tryd.prog w 0 (fun _ => true) true 30 v d p) :
    ∃ (a : Option Addr) (cap : Nat) (l : List Sl), v = .slice a l.length cap ∧ l.length ≤ 9223372036854775807 ∧ Sls w a l ∧ ∀ i, i < l.length → Few (gs l i) := by
  obtain ⟨fuel, hf⟩ := h
  have hc : v.cells.toList = [v] := by
    rcases okWide_slice Tryd.underlying30 hv with ⟨a, n, c, rfl⟩
    rfl
  rw [hc] at hf
  exact openSls hf
end
theorem star : "*" ++ "errors.errorString" = "*errors.errorString" := by decide
theorem rowE (u : TypeId) (h : Tryd.prog.typeName? 3 u = some "*errors.errorString") : u = 136 :=
  typeName_ptr_named (nm := "errors.errorString") (by rw [star]; kernel_rfl) (by kernel_rfl) (by decide) u (by rw [star]; exact h)
theorem gBl : Tryd.prog.globalNamed "loop.example/g00261/impl.errBlank" = some 0 := by kernel_rfl
theorem gLo : Tryd.prog.globalNamed "loop.example/g00261/impl.errLost" = some 1 := by kernel_rfl
theorem gBlT : (Tryd.prog.globals[0]?).map (·.type) = some 77 := by kernel_rfl
theorem gLoT : (Tryd.prog.globals[1]?).map (·.type) = some 77 := by kernel_rfl
theorem cellsEs : Tryd.prog.cellsOf 157 = 1 := by kernel_rfl
/-- What a row's list gives: the two sentinels. -/
theorem sents {W : World} {l : List (String × DataW Unit)} (h : laidMetH Tryd.prog l W) (hl : (l.filter fun x => x.1 == "loop.example/g00261/impl.errBlank" || x.1 == "loop.example/g00261/impl.errLost") = [("loop.example/g00261/impl.errBlank", Rows.laid_loop_example_g00261_impl_errBlank), ("loop.example/g00261/impl.errLost", Rows.laid_loop_example_g00261_impl_errLost)]) : ∃ a0 a1, Sn W a0 a1 := by
  have h1 := h.filter (fun x => x.1 == "loop.example/g00261/impl.errBlank" || x.1 == "loop.example/g00261/impl.errLost")
  rw [hl, MakeChecks.laidMetH_plain _ _ _ rfl] at h1
  obtain ⟨a0, a1, s0, s1, c0, c1, t0, t1, hv0, hv1, hc0, hs0, hz0, hc1, hs1, hz1, hne, hb0, hb1⟩ := laid_sentinels2 h1 gBl gBlT gLo gLoT Tryd.underlying77 rowE Tryd.underlying136 Tryd.underlying157 rfl rfl Tryd.underlying9 cellsEs cells9
  exact ⟨a0, a1, by simpa using World.var?_cell gBl hv0 0, by simpa using World.var?_cell gLo hv1 0, hne, ⟨c0, t0, hb0⟩, ⟨c1, t1, hb1⟩⟩
theorem rowedV : varsRowed Tryd.prog ["loop.example/g00261/impl.errBlank", "loop.example/g00261/impl.errLost"] = true := by kernel_rfl
theorem vars2 {H : Type} {enc : TypeId × Value → H} {W : World} {sp : Nat → Bool} {n0 n1 : String} {gs : List (DataW H)} {ps : List MemPlace} (h : DataW.TrodVars enc Tryd.prog W sp [n0, n1] gs ps) : ∃ g1 g2, gs = [g1, g2] := by
  match gs, h with
  | [g1, g2], _ => exact ⟨g1, g2, rfl⟩
  | [], h => exact h.elim
  | [_], h =>
    obtain ⟨_, _, _, _, _, _, _, _, _, _, h2, _⟩ := h
    exact h2.elim
  | _ :: _ :: _ :: _, h =>
    obtain ⟨_, _, _, _, _, _, _, _, _, _, h2, _⟩ := h
    obtain ⟨_, _, _, _, _, _, _, _, _, _, h3, _⟩ := h2
    exact h3.elim
abbrev blankT : ByteArray := ⟨#[116, 104, 101, 32, 115, 108, 111, 116, 32, 105, 115, 32, 98, 108, 97, 110, 107]⟩
abbrev lostT : ByteArray := ⟨#[116, 104, 101, 32, 115, 108, 111, 116, 32, 104, 97, 115, 32, 97, 110, 111, 116, 104, 101, 114, 32, 114, 101, 99, 111, 114, 100, 44, 32, 111, 114, 32, 97, 32, 116, 111, 114, 110, 32, 111, 110, 101]⟩
noncomputable def low : Nat := (World.holding Tryd.prog default ⟨#[], #[], []⟩).heap.size
/-- A world for the witness: the tables and the sentinels hold what their initialisers lay. -/
noncomputable def laidWorld2 (os : Os) : World :=
  { World.holding Tryd.prog os ⟨#[.cells #[.string blankT] 157, .cells #[.string lostT] 157], #[], []⟩ with heap := (((((World.holding Tryd.prog os ⟨#[.cells #[.string blankT] 157, .cells #[.string lostT] 157], #[], []⟩).heap.modify 3 (putCells #[.int .u64 1, .int .u64 10, .int .u64 100, .int .u64 1000, .int .u64 10000, .int .u64 100000, .int .u64 1000000, .int .u64 10000000, .int .u64 100000000, .int .u64 1000000000, .int .u64 10000000000, .int .u64 100000000000, .int .u64 1000000000000, .int .u64 10000000000000, .int .u64 100000000000000, .int .u64 1000000000000000, .int .u64 10000000000000000, .int .u64 100000000000000000, .int .u64 1000000000000000000, .int .u64 10000000000000000000])).modify 4 (putCells #[.int .u8 0, .int .u8 1, .int .u8 28, .int .u8 2, .int .u8 29, .int .u8 14, .int .u8 24, .int .u8 3, .int .u8 30, .int .u8 22, .int .u8 20, .int .u8 15, .int .u8 25, .int .u8 17, .int .u8 4, .int .u8 8, .int .u8 31, .int .u8 27, .int .u8 13, .int .u8 23, .int .u8 21, .int .u8 19, .int .u8 16, .int .u8 7, .int .u8 26, .int .u8 12, .int .u8 18, .int .u8 6, .int .u8 11, .int .u8 5, .int .u8 10, .int .u8 9])).modify 5 (putCells #[.int .u8 0, .int .u8 1, .int .u8 56, .int .u8 2, .int .u8 57, .int .u8 49, .int .u8 28, .int .u8 3, .int .u8 61, .int .u8 58, .int .u8 42, .int .u8 50, .int .u8 38, .int .u8 29, .int .u8 17, .int .u8 4, .int .u8 62, .int .u8 47, .int .u8 59, .int .u8 36, .int .u8 45, .int .u8 43, .int .u8 51, .int .u8 22, .int .u8 53, .int .u8 39, .int .u8 33, .int .u8 30, .int .u8 24, .int .u8 18, .int .u8 12, .int .u8 5, .int .u8 63, .int .u8 55, .int .u8 48, .int .u8 27, .int .u8 60, .int .u8 41, .int .u8 37, .int .u8 16, .int .u8 46, .int .u8 35, .int .u8 44, .int .u8 21, .int .u8 52, .int .u8 32, .int .u8 23, .int .u8 11, .int .u8 54, .int .u8 26, .int .u8 40, .int .u8 15, .int .u8 34, .int .u8 20, .int .u8 31, .int .u8 10, .int .u8 25, .int .u8 14, .int .u8 19, .int .u8 9, .int .u8 13, .int .u8 8, .int .u8 7, .int .u8 6])).modify 0 (putCells #[.iface 136 (.pointer (some ⟨low, 0, none⟩))])).modify 1 (putCells #[.iface 136 (.pointer (some ⟨low + 1, 0, none⟩))]) }
end Go.Proofs.YtcfjkejaenmibaaDoor
