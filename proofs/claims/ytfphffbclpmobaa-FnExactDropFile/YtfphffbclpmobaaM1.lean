import Derived.Test.YtfphffbclpmobaaG1
import Derived.Test.YtfphffbclpmobaaB2
import Derived.Maps.OwnSet
import Derived.Maps.OwnOps
import Derived.Maps.RangeWalk
import Derived.DeepKeys4
import Derived.StringKeys
/- Maps of stocks, by what they tell of each text. -/
namespace Go.Proofs.Ytfphffbclpmobaa
open Go.ChangeShapes Go.WideShapes Go.ChangeAt Go.RowKit Go.Maps Go.WideMaps
set_option linter.unusedVariables false
open Hd

attribute [local go_sem] Oper.semAt_some

theorem lawS : Keyed Try.prog 9 := string_keyed Try.underlying9
/-- How a stock reads. -/
def stE (v : Value) : Option (DataW Unit × List MemPlace) := match v with
  | .agg cs => match cs.toList with
    | [.int .i64 a, .int .i64 b] => some (.agg [.lit (.int .i64 a), .lit (.int .i64 b)], [])
    | _ => none
  | _ => none
theorem stE_mk (a b : Int) : stE (.agg #[.int .i64 a, .int .i64 b]) = some (.agg [.lit (.int .i64 a), .lit (.int .i64 b)], []) := rfl
theorem stE_inv {v : Value} {y : DataW Unit × List MemPlace} (h : stE v = some y) : ∃ a b, v = .agg #[.int .i64 a, .int .i64 b] ∧ y = (.agg [.lit (.int .i64 a), .lit (.int .i64 b)], []) := by
  unfold stE at h
  split at h
  · rename_i cs
    split at h
    · rename_i a b e
      obtain rfl : cs = #[.int .i64 a, .int .i64 b] := by cases cs; simp_all
      exact ⟨a, b, rfl, by simpa using h.symm⟩
    · cases h
  · cases h
/-- What a map of stocks tells of a text: its place and its uses. -/
abbrev SG := ByteArray → Option (Int × Int)
/-- A stock as a value. -/
def sv : Option (Int × Int) → Value
  | none => .agg #[.int .i64 0, .int .i64 0]
  | some (p, q) => .agg #[.int .i64 p, .int .i64 q]
def sd : Option (Int × Int) → DataW Unit
  | none => .agg [.lit (.int .i64 0), .lit (.int .i64 0)]
  | some (p, q) => .agg [.lit (.int .i64 p), .lit (.int .i64 q)]
theorem sv_sd (o : Option (Int × Int)) : stE (sv o) = some (sd o, []) := by
  cases o with
  | none => rfl
  | some p => rfl
def kS (x : ByteArray) : Lit := .string x.data.toList
theorem key_S {x : ByteArray} (h : x.size ≤ maxLen) : keyOf Try.prog 9 (.string x) = some (kS x) := keyOf_string_mk Try.underlying9 h
theorem kS_inj {x y : ByteArray} (h : kS x = kS y) : x = y := by
  unfold kS at h
  simp only [Lit.string.injEq] at h
  exact bt_inj h
/-- A map of stocks that reads as g, with so many entries. -/
def GM (w : World) (b n : Nat) (g : SG) (N : Nat) : Prop :=
  ∃ D : DataW Unit, w.ownsMap Try.prog 9 stE b n D ∧ Maps.size D = N ∧ ∀ x : ByteArray, x.size ≤ maxLen → D.atKey (kS x) (sd none) = sd (g x) ∧ has D (kS x) = (g x).isSome
/-- One text's stock turned. -/
def upG (g : SG) (x : ByteArray) (v : Option (Int × Int)) : SG := fun y => if y = x then v else g y
theorem GM.made (w : World) : GM (w.alloc (.map #[] 0)) w.heap.size 0 (fun _ => none) 0 :=
  ⟨_, World.ownsMap_made w Try.prog 9 _, rfl, fun x _ => ⟨rfl, rfl⟩⟩
theorem GM.lt {w : World} {b n N : Nat} {g : SG} (h : GM w b n g N) : b < w.heap.size := by obtain ⟨D, h, _⟩ := h; exact h.lt
theorem GM.mono {w : World} {b n n' N : Nat} {g : SG} (h : GM w b n g N) (hn : n ≤ n') : GM w b n' g N := by obtain ⟨D, h, k⟩ := h; exact ⟨D, h.mono hn, k⟩
theorem GM.kept {w w' : World} {b n N : Nat} {g : SG} {row : Option Nat} (h : GM w b n g N) (hg : w.grownBy w' row) (hne : some b ≠ row) : GM w' b n g N := by obtain ⟨D, h, k⟩ := h; exact ⟨D, h.kept hg hne, k⟩
theorem GM.below {w w' : World} {b n N : Nat} {g : SG} (h : GM w b n g N) (hb : Below w.heap.size w w') : GM w' b n g N :=
  h.kept (row := none) ⟨hb.os, hb.tape, hb.output, hb.size, fun k hk _ => hb.block k hk⟩ (by simp)
theorem GM.out {w w' : World} {b n N : Nat} {g : SG} {B C : Nat} (h : GM w b n g N) (ho : Out B C w w') (hd : b < B ∨ C ≤ b) : GM w' b n g N := by
  obtain ⟨D, ⟨es, clock, hb, F, r⟩, k⟩ := h
  exact ⟨D, ⟨es, clock, by rw [ho.block b (box_lt hb) hd]; exact hb, F, r⟩, k⟩
theorem zero_S (w : World) : (zeroValue 71).run Try.prog w = .ok (sv none) w := by kernel_rfl
theorem GM.put {w : World} {b n N : Nat} {g : SG} (h : GM w b n g N) (hn : n < 1000000) (x : ByteArray) (hx : x.size ≤ maxLen) (p q : Int) :
    ∃ w', (Instr.mapUpdate 49 (.map (some b)) (.string x) (.agg #[.int .i64 p, .int .i64 q])).run Try.prog w = .ok () w' ∧ GM w' b (n + 1) (upG g x (some (p, q))) (if (g x).isSome then N else N + 1) ∧ w.mapTurned w' b := by
  obtain ⟨D, hown, hsz, hk⟩ := h
  obtain ⟨w', hrun, hown', ht⟩ := hown.store lawS Try.underlying49 (by unfold maxLen; omega) (key_S hx) (stE_mk p q)
  refine ⟨w', hrun, ⟨_, hown', ?_, fun y hy => ?_⟩, ht⟩
  · rw [size_put (hown.tidy lawS), (hk x hx).2, hsz]
  · by_cases e : y = x
    · subst e
      rw [atKey_put_same hown.isMap (lawS.key (key_S hy)), has_put_same hown.isMap (lawS.key (key_S hy))]
      simp [upG, sd]
    · have hne : kS y ≠ kS x := fun q => e (kS_inj q)
      rw [atKey_put_other hne, has_put_other hne]
      simp only [upG, if_neg e]
      exact hk y hy
theorem GM.drop {w : World} {b n N : Nat} {g : SG} (h : GM w b n g N) (x : ByteArray) (hx : x.size ≤ maxLen) (ty : TypeId) :
    ∃ w', (Builtin.delete_ #[49, 9] ty #[.map (some b), .string x]).run Try.prog w = .ok (.tuple #[]) w' ∧ GM w' b n (upG g x none) (if (g x).isSome then N - 1 else N) ∧ w.mapTurned w' b := by
  obtain ⟨D, hown, hsz, hk⟩ := h
  obtain ⟨w', hrun, hown', ht⟩ := hown.drop lawS Try.underlying49 (key_S hx) ty
  refine ⟨w', hrun, ⟨_, hown', ?_, fun y hy => ?_⟩, ht⟩
  · have := size_del (k := kS x) (hown.tidy lawS)
    rw [(hk x hx).2, hsz] at this
    split <;> simp_all <;> omega
  · by_cases e : y = x
    · subst e
      rw [atKey_del_same, has_del_same]
      simp [upG, sd]
    · have hne : kS y ≠ kS x := fun q => e (kS_inj q)
      rw [atKey_del_other hne, has_del_other hne]
      simp only [upG, if_neg e]
      exact hk y hy
theorem sv_of {v : Value} {ps : List MemPlace} {o : Option (Int × Int)} (h : stE v = some (sd o, ps)) : v = sv o := by
  obtain ⟨a, b, rfl, e⟩ := stE_inv h
  cases o with
  | none =>
    simp [sd] at e
    obtain ⟨⟨e1, e2⟩, -⟩ := e
    subst e1 e2
    rfl
  | some p =>
    obtain ⟨p, q⟩ := p
    simp [sd] at e
    obtain ⟨⟨e1, e2⟩, -⟩ := e
    subst e1 e2
    rfl
theorem GM.look {w : World} {b n N : Nat} {g : SG} (h : GM w b n g N) (x : ByteArray) (hx : x.size ≤ maxLen) :
    (Instr.lookup 49 (.map (some b)) (.string x) false).run Try.prog w = .ok (sv (g x)) w := by
  obtain ⟨D, hown, hsz, hk⟩ := h
  obtain ⟨v, ps, hrun, hR⟩ := hown.lookup lawS Try.underlying49 (zero_S w) (sv_sd none) (key_S hx)
  rw [(hk x hx).1] at hR
  rw [hrun, sv_of hR]
theorem GM.look2 {w : World} {b n N : Nat} {g : SG} (h : GM w b n g N) (x : ByteArray) (hx : x.size ≤ maxLen) :
    (Instr.lookup 49 (.map (some b)) (.string x) true).run Try.prog w = .ok (.tuple #[sv (g x), .bool (g x).isSome]) w := by
  obtain ⟨D, hown, hsz, hk⟩ := h
  obtain ⟨v, ps, hrun, hR⟩ := hown.look_ok lawS Try.underlying49 (zero_S w) (sv_sd none) (key_S hx)
  rw [(hk x hx).1] at hR
  rw [hrun, sv_of hR, (hk x hx).2]
theorem GM.len {w : World} {b n N : Nat} {g : SG} (h : GM w b n g N) (ty : TypeId) :
    (Builtin.len_ #[49] ty #[.map (some b)]).run Try.prog w = .ok (.int .i64 N) w := by
  obtain ⟨D, hown, hsz, hk⟩ := h
  rw [hown.len Try.underlying49 ty, hsz]
section
variable (w : World) {ops : Array Oper} {rest : List Oper} {o : Oper} {a : Act} {Q : Exit → Act → World → Prop}
theorem wpList_gput (hg : o.guard = none) (m x v : Operand) (hop : o.op = Op.mapUpdate 49 m x v) (b n N : Nat) (g : SG) (y : ByteArray) (p q : Int)
    (hm : a.eval m = .map (some b)) (h : GM w b n g N) (hn : n < 1000000) (hy : y.size ≤ maxLen) (hx : a.eval x = .string y) (hv : a.eval v = .agg #[.int .i64 p, .int .i64 q])
    (hK : ∀ w', GM w' b (n + 1) (upG g y (some (p, q))) (if (g y).isSome then N else N + 1) → w.mapTurned w' b → wpList Try.prog ops Q rest (a.put o.dst undef) w') : wpList Try.prog ops Q (o :: rest) a w := by
  obtain ⟨w', hrun, h1, h2⟩ := h.put hn y hy p q
  refine wpList_plain hg fun K hK' => ?_
  unfold Oper.wp
  simp [execOp, hop, hm, hx, hv, hrun, Result.andThen]
  exact hK' _ _ (hK w' h1 h2)
theorem wp_gput (m x v : Operand) (hop : o.op = Op.mapUpdate 49 m x v) (b n N : Nat) (g : SG) (y : ByteArray) (p q : Int) {K : Act → World → Prop}
    (hm : a.eval m = .map (some b)) (h : GM w b n g N) (hn : n < 1000000) (hy : y.size ≤ maxLen) (hx : a.eval x = .string y) (hv : a.eval v = .agg #[.int .i64 p, .int .i64 q])
    (hK : ∀ w', GM w' b (n + 1) (upG g y (some (p, q))) (if (g y).isSome then N else N + 1) → w.mapTurned w' b → K (a.put o.dst undef) w') : Oper.wp Try.prog o a w K Q := by
  obtain ⟨w', hrun, h1, h2⟩ := h.put hn y hy p q
  unfold Oper.wp
  simp [execOp, hop, hm, hx, hv, hrun, Result.andThen]
  exact hK w' h1 h2
end
/-- What a map's turning leaves. -/
theorem turned_out {w w' : World} {b : Nat} (h : w.mapTurned w' b) : Out b (b + 1) w w' := by
  have hg := h.grown
  exact ⟨hg.os, hg.tape, hg.output, hg.size, fun k hk hd => hg.block k hk (by simp; omega)⟩
theorem turned_frozen {w w' : World} {b : Nat} (h : w.mapTurned w' b) (a : Addr) : w'.frozen? a = w.frozen? a := h.frozen a
end Go.Proofs.Ytfphffbclpmobaa
