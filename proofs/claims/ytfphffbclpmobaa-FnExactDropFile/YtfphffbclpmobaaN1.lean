import Derived.Test.YtfphffbclpmobaaM1
import Derived.Test.YtfphffbclpmobaaP4
/- Maps of texts to numbers. -/
namespace Go.Proofs.Ytfphffbclpmobaa
open Go.ChangeShapes Go.WideShapes Go.ChangeAt Go.RowKit Go.Maps Go.WideMaps
set_option linter.unusedVariables false
open Hd

attribute [local go_sem] Oper.semAt_some

/-- How a number reads. -/
def nE (v : Value) : Option (DataW Unit × List MemPlace) := match v with
  | .int .i64 a => some (.lit (.int .i64 a), [])
  | _ => none
theorem nE_mk (a : Int) : nE (.int .i64 a) = some (.lit (.int .i64 a), []) := rfl
theorem nE_of {v : Value} {ps : List MemPlace} {a : Int} (h : nE v = some (.lit (.int .i64 a), ps)) : v = .int .i64 a := by
  unfold nE at h
  split at h
  · simp at h; rw [h.1]
  · cases h
/-- A map of numbers that reads as h. -/
def NM (w : World) (b n : Nat) (h : ByteArray → Int) : Prop :=
  ∃ D : DataW Unit, w.ownsMap Try.prog 9 nE b n D ∧ ∀ x : ByteArray, x.size ≤ maxLen → D.atKey (kS x) (.lit (.int .i64 0)) = .lit (.int .i64 (h x))
def upN (h : ByteArray → Int) (x : ByteArray) (v : Int) : ByteArray → Int := fun y => if y = x then v else h y
theorem NM.made (w : World) : NM (w.alloc (.map #[] 0)) w.heap.size 0 (fun _ => 0) :=
  ⟨_, World.ownsMap_made w Try.prog 9 _, fun x _ => rfl⟩
theorem NM.lt {w : World} {b n : Nat} {g : ByteArray → Int} (h : NM w b n g) : b < w.heap.size := by obtain ⟨D, h, _⟩ := h; exact h.lt
theorem NM.kept {w w' : World} {b n : Nat} {g : ByteArray → Int} {row : Option Nat} (h : NM w b n g) (hg : w.grownBy w' row) (hne : some b ≠ row) : NM w' b n g := by obtain ⟨D, h, k⟩ := h; exact ⟨D, h.kept hg hne, k⟩
theorem NM.below {w w' : World} {b n : Nat} {g : ByteArray → Int} (h : NM w b n g) (hb : Below w.heap.size w w') : NM w' b n g :=
  h.kept (row := none) ⟨hb.os, hb.tape, hb.output, hb.size, fun k hk _ => hb.block k hk⟩ (by simp)
theorem NM.out {w w' : World} {b n : Nat} {g : ByteArray → Int} {B C : Nat} (h : NM w b n g) (ho : Out B C w w') (hd : b < B ∨ C ≤ b) : NM w' b n g := by
  obtain ⟨D, ⟨es, clock, hb, F, r⟩, k⟩ := h
  exact ⟨D, ⟨es, clock, by rw [ho.block b (box_lt hb) hd]; exact hb, F, r⟩, k⟩
theorem zero_N (w : World) : (zeroValue 3).run Try.prog w = .ok (.int .i64 0) w := by kernel_rfl
theorem NM.put {w : World} {b n : Nat} {g : ByteArray → Int} (h : NM w b n g) (hn : n < 1000000) (x : ByteArray) (hx : x.size ≤ maxLen) (p : Int) :
    ∃ w', (Instr.mapUpdate 80 (.map (some b)) (.string x) (.int .i64 p)).run Try.prog w = .ok () w' ∧ NM w' b (n + 1) (upN g x p) ∧ w.mapTurned w' b := by
  obtain ⟨D, hown, hk⟩ := h
  obtain ⟨w', hrun, hown', ht⟩ := hown.store lawS Try.underlying80 (by unfold maxLen; omega) (key_S hx) (nE_mk p)
  refine ⟨w', hrun, ⟨_, hown', fun y hy => ?_⟩, ht⟩
  by_cases e : y = x
  · subst e
    rw [atKey_put_same hown.isMap (lawS.key (key_S hy))]
    simp [upN]
  · have hne : kS y ≠ kS x := fun q => e (kS_inj q)
    rw [atKey_put_other hne]
    simp only [upN, if_neg e]
    exact hk y hy
theorem NM.look {w : World} {b n : Nat} {g : ByteArray → Int} (h : NM w b n g) (x : ByteArray) (hx : x.size ≤ maxLen) :
    (Instr.lookup 80 (.map (some b)) (.string x) false).run Try.prog w = .ok (.int .i64 (g x)) w := by
  obtain ⟨D, hown, hk⟩ := h
  obtain ⟨v, ps, hrun, hR⟩ := hown.lookup lawS Try.underlying80 (zero_N w) (nE_mk 0) (key_S hx)
  rw [hk x hx] at hR
  rw [hrun, nE_of hR]
theorem wpList_nput (w : World) {ops : Array Oper} {rest : List Oper} {o : Oper} {a : Act} {Q : Exit → Act → World → Prop} (hg : o.guard = none) (m x v : Operand) (hop : o.op = Op.mapUpdate 80 m x v) (b n : Nat) (g : ByteArray → Int) (y : ByteArray) (p : Int)
    (hm : a.eval m = .map (some b)) (h : NM w b n g) (hn : n < 1000000) (hy : y.size ≤ maxLen) (hx : a.eval x = .string y) (hv : a.eval v = .int .i64 p)
    (hK : ∀ w', NM w' b (n + 1) (upN g y p) → w.mapTurned w' b → wpList Try.prog ops Q rest (a.put o.dst undef) w') : wpList Try.prog ops Q (o :: rest) a w := by
  obtain ⟨w', hrun, h1, h2⟩ := h.put hn y hy p
  refine wpList_plain hg fun K hK' => ?_
  unfold Oper.wp
  simp [execOp, hop, hm, hx, hv, hrun, Result.andThen]
  exact hK' _ _ (hK w' h1 h2)
/-- The number of a text, among the first so many pieces. -/
def nuF (P : List Nm) : Nat → ByteArray → Int
  | 0 => fun _ => 0
  | k + 1 => upN (nuF P k) (gm P k).nm (k : Int)
/-- What closed tells. -/
def clF (P : List Nm) (F : List (List ByteArray)) : List (List Int) := F.map fun l => l.map (nuF P P.length)
theorem clF_len (P : List Nm) (F : List (List ByteArray)) : (clF P F).length = F.length := by simp [clF]
end Go.Proofs.Ytfphffbclpmobaa
