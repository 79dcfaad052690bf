import Derived.Test.YtmijalmihfgolaaQD1c
import Derived.Laws.CopyOwn
namespace Go.Proofs.Ytmijalmihfgolaa
open Go.ChangeShapes Go.WideShapes Go.ChangeAt Go.RowKit
set_option linter.unusedVariables false
open Tx

attribute [local go_sem] Oper.semAt_some

/-- .. from a string, all of it. -/
theorem run_copy_str {P : Program} (w : World) (dT sT ty elem : TypeId) (g dl dcap : Nat) (s : ByteArray) (cur : Array Value) (t : TypeId)
    (hu : P.underlying dT = some (.slice elem)) (hs : (P.info? elem).map (·.size) = some 1) (hg : w.heap[g]? = some (.cells cur t (0, 0))) (hn : s.size = dl) (hfit : dl = cur.size) :
    (Builtin.copy_ #[dT, sT] ty #[.slice (some ⟨g, 0, none⟩) dl dcap, .string s]).run P w = .ok (goInt dl) (w.setRow g (s.data.map fun b => .int .u8 b.toNat)) := by
  subst hn
  have hlen : (s.data.toList.map fun b => Value.int .u8 b.toNat).length = s.size := by rw [List.length_map, Array.length_toList]; rfl
  have hst := run_storeCells_at P g 0 t (s.data.toList.map fun b => Value.int .u8 b.toNat) 0 cur w hg (by rw [hlen]; omega) (by intro v hv; rw [List.mem_map] at hv; obtain ⟨b, _, rfl⟩ := hv; rfl)
  rw [hlen] at hst
  have e2 : cur.toList.drop (0 + 0 + s.size) = [] := by apply List.drop_eq_nil_of_le; rw [Array.length_toList]; omega
  have e3 : List.take s.size (s.data.toList.map fun b => Value.int .u8 b.toNat) = s.data.toList.map fun b => Value.int .u8 b.toNat := List.take_of_length_le (by rw [hlen]; omega)
  have e4 : (s.data.toList.map fun b => Value.int .u8 b.toNat).toArray = s.data.map fun b => .int .u8 b.toNat := by rw [← List.map_toArray, Array.toArray_toList]
  rw [e2] at hst
  simp only [Nat.zero_add, List.take_zero, List.nil_append, List.append_nil] at hst
  rw [e4] at hst
  cases hq : P.info? elem with
  | none => simp [hq] at hs
  | some i => simp [Builtin.copy_, run_underlying hu, Builtin.lenOf, Builtin.firstCells, sizeOf, typeInfo, hq, e3, hst]
end Go.Proofs.Ytmijalmihfgolaa
