import Derived.Test.YtcfjkejaenmibaaDoorG2
import Derived.LaidEql
import Derived.Stop.Asserts
import Derived.RowKitTokens
/- errors.Is over a record's fault and a sentinel: Go's own text is walked. -/
namespace Go.Proofs.YtcfjkejaenmibaaDoor
open Go.ChangeShapes Go.WideShapes Go.ChangeAt Go.RowKit Go.Extern.Stop Go.Stop Go.Extern
set_option linter.unusedVariables false
open Lg

theorem isTypeOf (v : Value) (w : World) : (Extern.ReflectliteType.typeOf #[.iface 136 v]).run Tryd.prog w = .ok (.iface 108 (.agg #[.pointer (some ⟨6, 136, none⟩)])) w := by kernel_rfl
/-- The model's own word for Comparable. -/
def cmpE : Array Value → Sem Value := Extern.ReflectliteType.method fun t => do Extern.Rtype.noPackHeld "Comparable" t; pure (.bool (← typeInfo t).comparable)
theorem isComparable (w : World) : (cmpE #[.agg #[.pointer (some ⟨6, 136, none⟩)]]).run Tryd.prog w = .ok (.bool true) w := by kernel_rfl
theorem isMethodComparable (v : Value) (w : World) : (Go.method 269 108 v "Comparable").run Tryd.prog w = .ok (117, v) w := by kernel_rfl
theorem isComp : (Tryd.prog.info? 136).map (·.comparable) = some true := by kernel_rfl
theorem isSize : (Tryd.prog.info? 157).map (·.size) = some 1 := by kernel_rfl
theorem noIsE (v : Value) (xT : TypeId) (w : World) : (Instr.typeAssert (.iface 136 v) xT 110 true).run Tryd.prog w = .ok (.tuple #[.nilIface, .bool false]) w := run_typeAssert_lacksB Tryd.underlying110 (by kernel_rfl) (by kernel_rfl) v xT w
theorem noUnwrapE (v : Value) (xT : TypeId) (w : World) : (Instr.typeAssert (.iface 136 v) xT 113 true).run Tryd.prog w = .ok (.tuple #[.nilIface, .bool false]) w := run_typeAssert_lacksB Tryd.underlying113 (by kernel_rfl) (by kernel_rfl) v xT w
theorem noUnwrapsE (v : Value) (xT : TypeId) (w : World) : (Instr.typeAssert (.iface 136 v) xT 115 true).run Tryd.prog w = .ok (.tuple #[.nilIface, .bool false]) w := run_typeAssert_lacksB Tryd.underlying115 (by kernel_rfl) (by kernel_rfl) v xT w
theorem noIsR (v : Value) (xT : TypeId) (w : World) : (Instr.typeAssert (.iface 82 v) xT 110 true).run Tryd.prog w = .ok (.tuple #[.nilIface, .bool false]) w := run_typeAssert_lacksB Tryd.underlying110 (by kernel_rfl) (by kernel_rfl) v xT w
theorem hasUnwrapR (v : Value) (xT : TypeId) (w : World) : (Instr.typeAssert (.iface 82 v) xT 113 true).run Tryd.prog w = .ok (.tuple #[.iface 82 v, .bool true]) w := run_typeAssert_hasB Tryd.underlying113 (by kernel_rfl) v xT w
theorem methodUnwrap (v : Value) (w : World) : (Go.method 269 82 v "Unwrap").run Tryd.prog w = .ok (111, v) w := by kernel_rfl
/-- A fault of a record: its number and its kind. -/
abbrev fv (k : Int) (t : TypeId) (a : Addr) : Value := .agg #[.int .i64 k, .iface t (.pointer (some a))]
theorem unwrap_any (k : Int) (t : TypeId) (a : Addr) (w : World) : Calls Tryd.prog 111 #[fv k t a] w fun e w' => e = .returned (.iface t (.pointer (some a))) ∧ Below w.heap.size w w' := by
  go_enter Tryd.func111, Tryd.ntmps111
  go_wp2
  go_ret
  exact ⟨rfl, below_alloc _ _⟩
/-- errors.Is(nil, x). -/
theorem is_nil (b : Addr) (w : World) :
    Calls Tryd.prog 67 #[.nilIface, .iface 136 (.pointer (some b))] w fun e w' => e = .returned (.bool false) ∧ w' = w := by
  have hn := run_eql_iface_nil_left (P := Tryd.prog) w 136 (.pointer (some b)) Tryd.underlying77
  go_enter Tryd.func67, Tryd.ntmps67
  go_wp2
  go_ret
  exact ⟨rfl, rfl⟩
set_option maxRecDepth 20000 in
/-- errors.Is(e, x), e a record's fault of that kind. -/
theorem is_same (k : Int) (b : Addr) (w : World) :
    Calls Tryd.prog 67 #[.iface 82 (fv k 136 b), .iface 136 (.pointer (some b))] w fun e w' => e = .returned (.bool true) ∧ Below w.heap.size w w' := by
  obtain ⟨i, hi, hcmp⟩ := Option.map_eq_some_iff.1 isComp
  obtain ⟨j, hj, hjs⟩ := Option.map_eq_some_iff.1 isSize
  have h8 := run_callFunc_extern (P := Tryd.prog) (f := 73) (e := Extern.ReflectliteType.typeOf) Tryd.func73 (by kernel_rfl) (by kernel_rfl) (by kernel_rfl) (by kernel_rfl)
  have h32 := run_callFunc_extern (P := Tryd.prog) (f := 117) (e := cmpE) Tryd.func117 (by kernel_rfl) (by kernel_rfl) (by kernel_rfl) (by kernel_rfl)
  have tT := isTypeOf
  have cT := isComparable
  have mR := isMethodComparable
  have nW := noIsR
  have uW := hasUnwrapR
  have mU := methodUnwrap
  have heq := fun w => run_eql_iface_ptr_same (P := Tryd.prog) w b Tryd.underlying77 Tryd.underlying136 hi hcmp hj
  have hty := fun w => run_eql_iface_types (P := Tryd.prog) 82 136 (fv k 136 b) (.pointer (some b)) Tryd.underlying77 (by decide) w
  go_enter Tryd.func67, Tryd.ntmps67
  go_wp2
  refine wp_loop_rounds 2 ?_
  rw [rounds_succ]
  go_wp2
  rw [rounds_succ]
  go_wp2
  go_ret
  exact ⟨rfl, below_alloc _ _⟩
set_option maxRecDepth 20000 in
/-- errors.Is(e, x), e a record's fault of another kind. -/
theorem is_other (k : Int) (a b : Addr) (ca cb : Array Value) (ta tb : TypeId) (w : World) (hne : a ≠ b) (ha : w.heap[a.block]? = some (.cells ca ta (0, 0))) (hb : w.heap[b.block]? = some (.cells cb tb (0, 0))) :
    Calls Tryd.prog 67 #[.iface 82 (fv k 136 a), .iface 136 (.pointer (some b))] w fun e w' => e = .returned (.bool false) ∧ Below w.heap.size w w' := by
  obtain ⟨i, hi, hcmp⟩ := Option.map_eq_some_iff.1 isComp
  obtain ⟨j, hj, hjs⟩ := Option.map_eq_some_iff.1 isSize
  have h8 := run_callFunc_extern (P := Tryd.prog) (f := 73) (e := Extern.ReflectliteType.typeOf) Tryd.func73 (by kernel_rfl) (by kernel_rfl) (by kernel_rfl) (by kernel_rfl)
  have h32 := run_callFunc_extern (P := Tryd.prog) (f := 117) (e := cmpE) Tryd.func117 (by kernel_rfl) (by kernel_rfl) (by kernel_rfl) (by kernel_rfl)
  have tT := isTypeOf
  have cT := isComparable
  have mR := isMethodComparable
  have nE := noIsE
  have uE := noUnwrapE
  have vE := noUnwrapsE
  have nW := noIsR
  have uW := hasUnwrapR
  have mU := methodUnwrap
  have heq := run_eql_iface_ptr_other (P := Tryd.prog) (w.alloc (.cells #[.int .i64 k, .iface 136 (.pointer (some a))] 82)) Tryd.underlying77 Tryd.underlying136 hi hcmp hj (by rw [hjs]; decide) hne (box_on ha (below_alloc _ _)) (box_on hb (below_alloc _ _))
  have hty := fun w => run_eql_iface_types (P := Tryd.prog) 82 136 (fv k 136 a) (.pointer (some b)) Tryd.underlying77 (by decide) w
  go_enter Tryd.func67, Tryd.ntmps67
  go_wp2
  refine wp_loop_rounds 2 ?_
  rw [rounds_succ]
  go_wp2
  rw [rounds_succ]
  go_wp2
  go_ret
  exact ⟨rfl, below_alloc _ _⟩
/-- The two sentinels lie in their variables. -/
structure Sn (w : World) (a0 a1 : Addr) : Prop where
  g0 : w.cell? ⟨0, 0, none⟩ = some (.iface 136 (.pointer (some a0)))
  g1 : w.cell? ⟨1, 0, none⟩ = some (.iface 136 (.pointer (some a1)))
  ne : a0 ≠ a1
  b0 : ∃ c t, w.heap[a0.block]? = some (.cells c t (0, 0))
  b1 : ∃ c t, w.heap[a1.block]? = some (.cells c t (0, 0))
theorem Sn.on {w w' : World} {a0 a1 : Addr} (h : Sn w a0 a1) (hb : Below w.heap.size w w') : Sn w' a0 a1 := by
  obtain ⟨g0, g1, ne, ⟨c0, t0, b0⟩, ⟨c1, t1, b1⟩⟩ := h
  exact ⟨cell_on g0 hb, cell_on g1 hb, ne, ⟨c0, t0, box_on b0 hb⟩, ⟨c1, t1, box_on b1 hb⟩⟩
theorem Sn.out {B C : Nat} {w w' : World} {a0 a1 : Addr} (h : Sn w a0 a1) (ho : Out B C w w') (hB : 2 ≤ B) (h0 : a0.block < B) (h1 : a1.block < B) : Sn w' a0 a1 := by
  obtain ⟨g0, g1, ne, ⟨c0, t0, b0⟩, ⟨c1, t1, b1⟩⟩ := h
  have e0 := ho.block 0 (lt_of_cell g0) (by omega)
  have e1 := ho.block 1 (lt_of_cell g1) (by omega)
  refine ⟨?_, ?_, ne, ⟨c0, t0, box_out b0 ho (.inl h0)⟩, ⟨c1, t1, box_out b1 ho (.inl h1)⟩⟩
  · simp only [World.cell?, e0] at g0 ⊢; exact g0
  · simp only [World.cell?, e1] at g1 ⊢; exact g1
end Go.Proofs.YtcfjkejaenmibaaDoor
