import Derived.Test.YtcfjkejaenmibaaDoorE1
/- errors.As over a record's fault: Go's own text is walked, the model's words for reflectlite's Value are opened. -/
namespace Go.Proofs.YtcfjkejaenmibaaDoor
open Go.ChangeShapes Go.WideShapes Go.ChangeAt Go.RowKit Go.Extern.Stop Go.Stop Go.Extern
set_option linter.unusedVariables false
open Lg

attribute [local go_sem] Oper.semAt_some

/-- A type's handle. -/
abbrev hd (t : Nat) : Value := .pointer (some ⟨6, t, none⟩)
/-- A reflectlite.Value of the pointer to the fault that lies in a block. -/
abbrev vP (b : Nat) : Value := .agg #[hd 84, .pointer (some ⟨b, 0, none⟩), .int .u64 150]
/-- One of the fault itself, to be set. -/
abbrev vS (b : Nat) : Value := .agg #[hd 82, .pointer (some ⟨b, 0, none⟩), .int .u64 409]
/-- One of a fault. -/
abbrev vF (b : Nat) : Value := .agg #[hd 82, .pointer (some ⟨b, 0, none⟩), .int .u64 153]
def vofE : Array Value → Sem Value := fun args => ReflectliteValue.unpack (args.getD 0 (.tuple #[]))
def vtyE : Array Value → Sem Value := ReflectliteValue.methodAny (ReflectliteValue.valueError "reflectlite.Value.Type" 0) fun t _ _ _ => ReflectliteType.toType t
def vnilE : Array Value → Sem Value := ReflectliteValue.method (ReflectliteValue.valueError "reflectlite.Value.IsNil" 0) ReflectliteValue.isNil
def velE : Array Value → Sem Value := ReflectliteValue.method (ReflectliteValue.valueError "reflectlite.Value.Elem" 0) ReflectliteValue.elem
def vsetE : Array Value → Sem Value := ReflectliteValue.set
def tofE : Array Value → Sem Value := ReflectliteType.typeOf
def telE : Array Value → Sem Value := ReflectliteType.method ReflectliteType.elem
def timE : Array Value → Sem Value := ReflectliteType.relation "Implements" ReflectliteType.implements_
def tasE : Array Value → Sem Value := ReflectliteType.relation "AssignableTo" ReflectliteType.assignableTo
def tkiE : Array Value → Sem Value := ReflectliteType.abiMethod fun t => do pure (.int .u8 (← Rtype.kind t))
theorem as_vof (D : Nat) (w : World) : (vofE #[.iface 84 (.pointer (some ⟨D, 0, none⟩))]).run Tryd.prog w = .ok (vP w.heap.size) (w.alloc (.cells #[.pointer (some ⟨D, 0, none⟩)] 84)) := by kernel_rfl
theorem as_vof2 (k : Int) (t : TypeId) (a : Addr) (w : World) : (vofE #[.iface 82 (fv k t a)]).run Tryd.prog w = .ok (vF w.heap.size) (w.alloc (.cells #[.int .i64 k, .iface t (.pointer (some a))] 82)) := by kernel_rfl
theorem as_vty (b : Nat) (w : World) : (vtyE #[vP b]).run Tryd.prog w = .ok (.iface 108 (.agg #[hd 84])) w := by kernel_rfl
theorem as_tof (v : Value) (w : World) : (tofE #[.iface 82 v]).run Tryd.prog w = .ok (.iface 108 (.agg #[hd 82])) w := by kernel_rfl
theorem as_tel (w : World) : (telE #[.agg #[hd 84]]).run Tryd.prog w = .ok (.iface 108 (.agg #[hd 82])) w := by kernel_rfl
theorem as_ki1 (w : World) : (tkiE #[hd 84]).run Tryd.prog w = .ok (.int .u8 22) w := by kernel_rfl
theorem as_ki2 (w : World) : (tkiE #[hd 82]).run Tryd.prog w = .ok (.int .u8 25) w := by kernel_rfl
theorem as_tim (w : World) : (timE #[.agg #[hd 82], .iface 108 (.agg #[hd 77])]).run Tryd.prog w = .ok (.bool true) w := by kernel_rfl
theorem as_tas (w : World) : (tasE #[.agg #[hd 82], .iface 108 (.agg #[hd 82])]).run Tryd.prog w = .ok (.bool true) w := by kernel_rfl
theorem as_mKi1 (w : World) : (Go.method 269 108 (.agg #[hd 84]) "Kind").run Tryd.prog w = .ok (107, hd 84) w := by kernel_rfl
theorem as_mKi2 (w : World) : (Go.method 269 108 (.agg #[hd 82]) "Kind").run Tryd.prog w = .ok (107, hd 82) w := by kernel_rfl
theorem as_mEl (v : Value) (w : World) : (Go.method 269 108 v "Elem").run Tryd.prog w = .ok (118, v) w := by kernel_rfl
theorem as_mIm (v : Value) (w : World) : (Go.method 269 108 v "Implements").run Tryd.prog w = .ok (119, v) w := by kernel_rfl
theorem as_mAs (v : Value) (w : World) : (Go.method 269 108 v "AssignableTo").run Tryd.prog w = .ok (116, v) w := by kernel_rfl
theorem method_one (z : Sem Value) (f : TypeId → Addr → Nat → Nat → Sem Value) (v : Value) : ReflectliteValue.method z f #[v] = (ReflectliteValue.parts v >>= fun o => match o with | none => z | some (t, a, fl) => f t a fl (fl % 32)) := rfl
theorem as_nil (b D : Nat) (w : World) (h : w.cell? ⟨b, 0, none⟩ = some (.pointer (some ⟨D, 0, none⟩))) : (vnilE #[vP b]).run Tryd.prog w = .ok (.bool false) w := by
  have hp : (ReflectliteValue.parts (vP b)).run Tryd.prog w = .ok (some (84, ⟨b, 0, none⟩, 150)) w := by kernel_rfl
  have hl : (loadVar 84 ⟨b, 0, none⟩).run Tryd.prog w = .ok (.pointer (some ⟨D, 0, none⟩)) w := by
    unfold loadVar
    simp [Tryd.isAgg84, h]
  unfold vnilE
  rw [method_one]
  simp [hp, ReflectliteValue.isNil, hl]
theorem as_vel (b D : Nat) (w : World) (h : w.cell? ⟨b, 0, none⟩ = some (.pointer (some ⟨D, 0, none⟩))) : (velE #[vP b]).run Tryd.prog w = .ok (vS D) w := by
  have hp : (ReflectliteValue.parts (vP b)).run Tryd.prog w = .ok (some (84, ⟨b, 0, none⟩, 150)) w := by kernel_rfl
  have he : (Rtype.elem? 84).run Tryd.prog w = .ok (some 82) w := by kernel_rfl
  have hm : (ReflectliteValue.mk 82 ⟨D, 0, none⟩ ReflectliteValue.flagAddr).run Tryd.prog w = .ok (vS D) w := by kernel_rfl
  have hl : (loadVar 84 ⟨b, 0, none⟩).run Tryd.prog w = .ok (.pointer (some ⟨D, 0, none⟩)) w := by
    unfold loadVar
    simp [Tryd.isAgg84, h]
  unfold velE
  rw [method_one]
  simp [hp, ReflectliteValue.elem, hl, he, hm]
theorem as_set (b D : Nat) (k : Int) (t : TypeId) (a : Addr) (u0 u1 : Value) (w : World) (h0 : w.cell? ⟨b, 0, none⟩ = some (.int .i64 k)) (h1 : w.cell? ⟨b, 1, none⟩ = some (.iface t (.pointer (some a))))
    (hD : w.heap[D]? = some (.cells #[u0, u1] 82 (0, 0))) :
    (vsetE #[vS D, vF b]).run Tryd.prog w = .ok (.tuple #[]) (w.setRow D #[.int .i64 k, .iface t (.pointer (some a))]) := by
  have hp : (ReflectliteValue.parts (vS D)).run Tryd.prog w = .ok (some (82, ⟨D, 0, none⟩, 409)) w := by kernel_rfl
  have hq : (ReflectliteValue.parts (vF b)).run Tryd.prog w = .ok (some (82, ⟨b, 0, none⟩, 153)) w := by kernel_rfl
  have ha : (Rtype.directlyAssignable 82 82).run Tryd.prog w = .ok true w := by kernel_rfl
  have hl : (loadVar 82 ⟨b, 0, none⟩).run Tryd.prog w = .ok (fv k t a) w := by
    have hc := run_loadCells_list (P := Tryd.prog) w ⟨b, 0, none⟩ [.int .i64 k, .iface t (.pointer (some a))] (fun j v hj => by
      match j, hj with
      | 0, hj => simp at hj; subst hj; exact h0
      | 1, hj => simp at hj; subst hj; exact h1)
    unfold loadVar
    simp [Tryd.isAgg82, Tryd.sizeOf82]
    simp at hc
    simp [hc]
  have hs : (storeVar 82 ⟨D, 0, none⟩ (fv k t a)).run Tryd.prog w = .ok () (w.setRow D #[.int .i64 k, .iface t (.pointer (some a))]) := by
    have hst := run_storeCells_at Tryd.prog D 0 82 [.int .i64 k, .iface t (.pointer (some a))] 0 #[u0, u1] w hD (by simp) (by simp [Value.oneCell'])
    simp only [Nat.zero_add, List.take_zero, List.nil_append] at hst
    unfold storeVar
    simp [Tryd.sizeOf82, Value.cells]
    simpa using hst
  unfold vsetE
  change (ReflectliteValue.parts (vS D) >>= fun o => ReflectliteValue.parts (vF b) >>= _).run Tryd.prog w = _
  simp [hp, hq, ReflectliteValue.flagAddr, hl, ha, hs]
end Go.Proofs.YtcfjkejaenmibaaDoor
