import Derived.Test.YtmijalmihfgolaaDoorKG
import Derived.Test.YtmijalmihfgolaaDoorS2
import Derived.Deep.Strs
import Derived.ShutString
import Derived.Test.YtmijalmihfgolaaDoorCards
import Derived.Test.YtmijalmihfgolaaDoorTie
import Derived.Deep.DeepHandedRow
import Derived.OpenVars
import Derived.Carry
import Derived.SevenTiedAt
import Derived.Deep.SlicePairs
import Derived.Lib.SmallJoins
import Derived.MakeChecks
import Derived.LaidSub
import Derived.Stop.LaidTwo
import Derived.ChangeOld
/- The ground of the rows: stores as they come in, the fault's variable. -/
namespace Go.Proofs.YtmijalmihfgolaaDoor
open Go.ChangeShapes Go.WideShapes Go.ChangeAt Go.RowKit Go.Deep Go.Joins
set_option linter.unusedVariables false
open Tx
set_option maxRecDepth 100000

theorem wf64 {n : Int} (h : (Lit.int .i64 n).wf = true) : -9223372036854775808 ≤ n ∧ n ≤ 9223372036854775807 := by
  simp only [Lit.wf, Bool.and_eq_true, decide_eq_true_eq] at h
  exact h

theorem own : ownKnob Tryd.prog.godebug = none := by kernel_rfl
theorem laidOut : laidOutB Tryd.prog = true := by kernel_rfl
theorem cellsT9 : Tryd.prog.cellsOf 9 = 1 := by kernel_rfl
theorem cellsT3 : Tryd.prog.cellsOf 3 = 1 := by kernel_rfl
theorem cellsT33 : Tryd.prog.cellsOf 25 = 2 := by kernel_rfl
theorem cellsT39 : Tryd.prog.cellsOf 71 = 2 := by kernel_rfl

theorem add_spot {a : Addr} {i : Nat} (h0 : a.spot = none) : a.add i = ⟨a.block, a.off + i, none⟩ := by
  obtain ⟨b, o, s⟩ := a
  simp at h0
  subst h0
  unfold Addr.add
  split <;> simp_all

section
variable {H : Type} {enc : TypeId × Value → H} {w : World} {fuel : Nat} {v : Value} {y : DataW H × List MemPlace}

theorem openSs (h : DataW.trod enc Tryd.prog w 0 (fun _ => true) true fuel 22 [v] = some y) :
    ∃ (a : Option Addr) (n cap : Nat) (S : Nat → ByteArray), v = .slice a n cap ∧ n ≤ 9223372036854775807 ∧ (At w a n fun i => .string (S i)) ∧ ∀ i, i < n → (S i).size ≤ 9223372036854775807 := by
  rcases open_strs Tryd.underlying22 Tryd.underlying9 cellsT9 h with ⟨hcs, _⟩ | ⟨a, len, cap, m, S, hcs, _, hl, hm, hmm, _, hx⟩
  · simp at hcs
    subst hcs
    exact ⟨none, 0, 0, fun _ => ⟨#[]⟩, rfl, by omega, fun h => absurd rfl h, fun i hi => absurd hi (by omega)⟩
  · simp at hcs hmm
    subst hcs hmm
    unfold maxLen at hm
    refine ⟨some a, len, m, S, rfl, by omega, fun hn => ?_, fun i hi => by have := (hx i (by omega)).2; unfold maxLen at this; exact this⟩
    have hsp : a.spot = none := by have := (hx 0 (by omega)).1; simpa [Addr.add] using World.cell?_spot this
    refine ⟨a.block, a.off, by cases a; simp_all, fun i hi => ?_⟩
    rw [← add_spot hsp]
    exact (hx i (by omega)).1

theorem openWsF (h : DataW.trod enc Tryd.prog w 0 (fun _ => true) true fuel 23 [v] = some y) :
    ∃ (a : Option Addr) (n cap : Nat) (T : Nat → Int) (U : Nat → ByteArray), v = .slice a n cap ∧ n ≤ 9223372036854775807 ∧ At2 w a n T U ∧ (∀ i, i < n → (U i).size ≤ 9223372036854775807) := by
  rcases open_slice_pairs Tryd.underlying23 Tryd.underlying71 cellsT39 rfl rfl cellsT3 cellsT9 h with ⟨hcs, _⟩ | ⟨a, len, cap, m, k, V0, V1, D0, D1, P0, P1, hcs, _, hl, hm, hmm, _, hx⟩
  · simp at hcs
    subst hcs
    exact ⟨none, 0, 0, fun _ => 0, fun _ => ⟨#[]⟩, rfl, by omega, fun h => absurd rfl h, fun i hi => absurd hi (by omega)⟩
  · simp at hcs hmm
    subst hcs hmm
    unfold maxLen at hm
    have e0 : ∀ i, i < m → ∃ t : Int, V0 i = .int .i64 t := fun i hi => by
      obtain ⟨t, ht, _⟩ := DataW.trod_int Tryd.underlying3 (hx i hi).2.2.1
      exact ⟨t, by simpa using ht⟩
    have e1 : ∀ i, i < m → ∃ u : ByteArray, V1 i = .string u ∧ u.size ≤ 9223372036854775807 := fun i hi => by
      obtain ⟨u, hu, _, hz⟩ := DataW.trod_string Tryd.underlying9 (hx i hi).2.2.2
      exact ⟨u, by simpa using hu, by unfold maxLen at hz; exact hz⟩
    obtain ⟨T, hT⟩ := choose_lt e0
    obtain ⟨U, hU⟩ := choose_lt e1
    refine ⟨some a, len, m, T, U, rfl, by omega, fun hn => ?_, fun i hi => (hU i (by omega)).2⟩
    have hsp : a.spot = none := by have := (hx 0 (by omega)).1; simpa [Addr.add] using World.cell?_spot this
    refine ⟨a.block, a.off, by cases a; simp_all, fun i hi => ?_⟩
    obtain ⟨x0, x1, _, _⟩ := hx i (by omega)
    rw [add_spot hsp, hT i (by omega)] at x0
    rw [add_spot hsp, (hU i (by omega)).1] at x1
    exact ⟨x0, by rw [Nat.add_assoc]; exact x1⟩

theorem openDv {r : Reach} {b0 : Nat} {d : DataW H} {p : List MemPlace} (hv : Value.okWide Tryd.prog w r b0 25 v) (h : DataW.Trod enc Tryd.prog w 0 (fun _ => true) true 25 v d p) :
    ∃ (a a' : Option Addr) (n m cap cap' : Nat) (S : Nat → ByteArray) (T : Nat → Int) (U : Nat → ByteArray), v = .agg #[.slice a n cap, .slice a' m cap'] ∧ n ≤ 9223372036854775807 ∧ m ≤ 9223372036854775807 ∧ (At w a n fun i => .string (S i)) ∧ At2 w a' m T U ∧ (∀ i, i < n → (S i).size ≤ 9223372036854775807) ∧ (∀ i, i < m → (U i).size ≤ 9223372036854775807) := by
  obtain ⟨c0, c1, y0, y1, k, rfl, _, _, hy0, hy1⟩ := open_agg2 Tryd.underlying25 (by kernel_rfl) cellsT33 hv h
  obtain ⟨a, n, cap, S, rfl, h1, h2, h3⟩ := openSs hy0
  obtain ⟨a', m, cap', T, U, rfl, k1, k2, k3⟩ := openWsF hy1
  exact ⟨a, a', n, m, cap, cap', S, T, U, rfl, h1, k1, h2, k2, h3, k3⟩
end
theorem openWs {H : Type} {enc : TypeId × Value → H} {w : World} {v : Value} {d : DataW H} {p : List MemPlace} {r : Reach} {b0 : Nat} (hv : Value.okWide Tryd.prog w r b0 23 v) (h : DataW.Trod enc Tryd.prog w 0 (fun _ => true) true 23 v d p) :
    ∃ (a : Option Addr) (n cap : Nat) (T : Nat → Int) (U : Nat → ByteArray), v = .slice a n cap ∧ n ≤ 9223372036854775807 ∧ At2 w a n T U ∧ (∀ i, i < n → (U i).size ≤ 9223372036854775807) := by
  obtain ⟨a0, len0, cap0, rfl⟩ := okWide_slice Tryd.underlying23 hv
  obtain ⟨fuel, hf⟩ := h
  exact openWsF hf
theorem cellsT4 : Tryd.prog.cellsOf 4 = 1 := by kernel_rfl

theorem openBs {H : Type} {enc : TypeId × Value → H} {w : World} {v : Value} {d : DataW H} {p : List MemPlace} {r : Reach} {b0 : Nat} (hv : Value.okWide Tryd.prog w r b0 47 v) (h : DataW.Trod enc Tryd.prog w 0 (fun _ => true) true 47 v d p) :
    ∃ (a : Option Addr) (n cap : Nat) (K : Nat → Bool), v = .slice a n cap ∧ n ≤ 9223372036854775807 ∧ (At w a n fun i => .bool (K i)) := by
  obtain ⟨a0, len0, cap0, rfl⟩ := okWide_slice Tryd.underlying47 hv
  obtain ⟨fuel, hf⟩ := h
  rcases open_slice1 Tryd.underlying47 cellsT4 hf with ⟨hcs, _⟩ | ⟨a, len, cap, m, k, V, D, Pl, hcs, _, hl, hm, hmm, _, hx⟩
  · simp [Value.cells] at hcs
    obtain ⟨rfl, rfl, rfl⟩ := hcs
    exact ⟨none, 0, 0, fun _ => false, rfl, by omega, fun h => absurd rfl h⟩
  · simp [Value.cells] at hcs hmm
    obtain ⟨rfl, rfl, rfl⟩ := hcs
    subst hmm
    unfold maxLen at hm
    have e0 : ∀ i, i < m → ∃ b : Bool, V i = .bool b := fun i hi => by
      obtain ⟨b, hb, _⟩ := DataW.trod_bool Tryd.underlying4 (hx i hi).2
      exact ⟨b, by simpa using hb⟩
    obtain ⟨K, hK⟩ := choose_lt e0
    refine ⟨some a, len0, m, K, rfl, by omega, fun hn => ?_⟩
    have hsp : a.spot = none := by have := (hx 0 (by omega)).1; simpa [Addr.add] using World.cell?_spot this
    refine ⟨a.block, a.off, by cases a; simp_all, fun i hi => ?_⟩
    rw [← add_spot hsp, (hx i (by omega)).1, hK i (by omega)]

theorem cellsSt : Tryd.prog.cellsOf 27 = 4 := by kernel_rfl
theorem cellsDv : Tryd.prog.cellsOf 25 = 2 := by kernel_rfl
theorem cellsWs : Tryd.prog.cellsOf 23 = 1 := by kernel_rfl
theorem cellsSs : Tryd.prog.cellsOf 22 = 1 := by kernel_rfl
def ltT (n : Nat) (S : Nat → ByteArray) : List ByteArray := (List.range n).map S
theorem ltT_len (n : Nat) (S : Nat → ByteArray) : (ltT n S).length = n := by simp [ltT]
theorem ltT_at {n : Nat} {S : Nat → ByteArray} {i : Nat} (h : i < n) : gt (ltT n S) i = S i := by
  rw [gt_lt (by rw [ltT_len]; exact h)]
  simp [ltT]
theorem rowT_lt {w : World} {a : Option Addr} {n : Nat} {S : Nat → ByteArray} (h : At w a n fun i => .string (S i)) : RowT w a (ltT n S) := by
  intro hn
  rw [ltT_len] at hn
  obtain ⟨b, off, e, hc⟩ := h hn
  refine ⟨b, off, e, fun i hi => ?_⟩
  rw [ltT_len] at hi
  show w.cell? _ = some (.string (gt (ltT n S) i))
  rw [ltT_at hi]
  exact hc i hi
theorem fewT_lt {n : Nat} {S : Nat → ByteArray} (h : ∀ i, i < n → (S i).size ≤ 9223372036854775807) : FewT (ltT n S) := fun i hi => by
  rw [ltT_len] at hi
  rw [ltT_at hi]
  exact h i hi
section
variable {H : Type} {enc : TypeId × Value → H} {w : World} {v : Value}
set_option maxRecDepth 100000 in
theorem openSt {r : Reach} {b0 : Nat} {d : DataW H} {p : List MemPlace} (hv : Value.okWide Tryd.prog w r b0 27 v) (h : DataW.Trod enc Tryd.prog w 0 (fun _ => true) true 27 v d p) :
    ∃ (a a' az : Option Addr) (ca ca' cz : Nat) (L : List ByteArray) (P : List Wr) (G : List ByteArray) (q : Int), v = stv a L.length ca a' P.length ca' az G.length cz q ∧ SIn L P G q ∧ StAt w a a' az L P G := by
  obtain ⟨cs, rfl, hsz⟩ := okWide_struct Tryd.underlying27 hv
  obtain ⟨c0, c1, c2, c3, rfl⟩ := array4 (hsz.trans cellsSt)
  obtain ⟨fuel, hf⟩ := h
  obtain ⟨y0, y1, y2, n, hx, _, h0, h1, h2⟩ := trod_struct3 Tryd.underlying27 hf
  simp [Value.cells, cellsDv, cellsSs, cellsT3] at h0 h1 h2
  obtain ⟨y3, y4, n', hx', _, h3, h4⟩ := trod_struct2 Tryd.underlying25 h0
  simp [cellsSs, cellsWs] at h3 h4
  obtain ⟨a, n, ca, S, rfl, k1, k2, k3⟩ := openSs h3
  obtain ⟨a', m, ca', T, U, rfl, k4, k5, k6⟩ := openWsF h4
  obtain ⟨az, g, cz, G, rfl, k7, k8, k9⟩ := openSs h1
  obtain ⟨p3, hp3, _, w3⟩ := DataW.trod_int Tryd.underlying3 h2
  obtain rfl : c3 = .int .i64 p3 := by simpa using hp3
  refine ⟨a, a', az, ca, ca', cz, ltT n S, lw m T U, ltT g G, p3, ?_, ⟨by rw [ltT_len]; exact k1, by rw [lw_len]; exact k4, by rw [ltT_len]; exact k7, fewT_lt k3, few_lw k6, fewT_lt k9, wf64 w3⟩, rowT_lt k2, row_lw k5, rowT_lt k8⟩
  rw [ltT_len, lw_len, ltT_len]
end

theorem star : "*" ++ "errors.errorString" = "*errors.errorString" := by decide
theorem rowE (u : TypeId) (h : Tryd.prog.typeName? 3 u = some "*errors.errorString") : u = 117 :=
  typeName_ptr_named (nm := "errors.errorString") (by rw [star]; kernel_rfl) (by kernel_rfl) (by decide) u (by rw [star]; exact h)
theorem gRf : Tryd.prog.globalNamed "loop.example/g00261/impl.errRefused" = some 0 := by kernel_rfl
theorem gRfT : (Tryd.prog.globals[0]?).map (·.type) = some 100 := by kernel_rfl
theorem cellsEs : Tryd.prog.cellsOf 135 = 1 := by kernel_rfl
/-- What a row's list gives: the sentinel. -/
theorem sent {W : World} (h : laidMetH Tryd.prog [("loop.example/g00261/impl.errRefused", Rows.laid_loop_example_g00261_impl_errRefused)] W) : ∃ a, Sn W a := by
  rw [MakeChecks.laidMetH_plain _ _ _ rfl] at h
  obtain ⟨a, s, hv, _⟩ := laid_sentinel h gRf gRfT Tryd.underlying100 rowE Tryd.underlying117 Tryd.underlying135 rfl rfl Tryd.underlying9 cellsEs cellsT9
  exact ⟨a, show W.cell? ⟨0, 0, none⟩ = some (.iface 117 (.pointer (some a))) by simpa using World.var?_cell gRf hv 0⟩
theorem rowedV : varsRowed Tryd.prog ["loop.example/g00261/impl.errRefused"] = true := by kernel_rfl
theorem vars1 {H : Type} {enc : TypeId × Value → H} {W : World} {sp : Nat → Bool} {n0 : String} {gs : List (DataW H)} {ps : List MemPlace} (h : DataW.TrodVars enc Tryd.prog W sp [n0] gs ps) : ∃ g1, gs = [g1] := by
  match gs, h with
  | [g1], _ => exact ⟨g1, rfl⟩
  | [], h => exact h.elim
  | _ :: _ :: _, h =>
    obtain ⟨_, _, _, _, _, _, _, _, _, _, h2, _⟩ := h
    exact h2.elim
abbrev faultT : ByteArray := ⟨#[97, 32, 115, 116, 101, 112, 32, 116, 104, 97, 116, 32, 105, 115, 32, 110, 111, 116, 32, 97, 115, 32, 115, 97, 105, 100]⟩
noncomputable def low : Nat := (World.holding Tryd.prog default ⟨#[], #[], []⟩).heap.size
def putCells (c : Array Value) : Obj → Obj
  | .cells _ t z => .cells c t z
  | o => o
/-- A world for the witness: the sentinel holds what its initialiser lays. -/
noncomputable def laidWorld2 (os : Os) : World :=
  { World.holding Tryd.prog os ⟨#[.cells #[.string faultT] 135], #[], []⟩ with heap := (World.holding Tryd.prog os ⟨#[.cells #[.string faultT] 135], #[], []⟩).heap.modify 0 (putCells #[.iface 117 (.pointer (some ⟨low, 0, none⟩))]) }
end Go.Proofs.YtmijalmihfgolaaDoor
