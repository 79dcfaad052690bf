import Derived.Test.YtgapplfnlndckaaC1
import Derived.Maps.OwnSet
import Derived.Maps.OwnOps
import Derived.Maps.RangeWalk
import Derived.DeepKeys4
/- Maps of blocks to kinds, by what they tell of each block. -/
namespace Go.Proofs.Ytgapplfnlndckaa
open Go.ChangeShapes Go.WideShapes Go.ChangeAt Go.RowKit Go.Maps
set_option linter.unusedVariables false
open Room

attribute [local go_sem] Oper.semAt_some

theorem lawB : Keyed Try.prog 43 := Keyed.of_law (deep_law_laid (by kernel_rfl) (m := 3) (by omega) (by decide +kernel) (by kernel_rfl) (by kernel_rfl))
/-- A block of an int's size. -/
def FitX (x : Ex) : Prop := (Lit.int .i64 x.1).wf = true ∧ (Lit.int .i64 x.2).wf = true
/-- What a block reads as, as a key. -/
def kl (x : Ex) : Lit := .string (keyBytes [.int .i64 x.1, .int .i64 x.2])
theorem key_of {x : Ex} (h : FitX x) : keyOf Try.prog 43 (xv x) = some (kl x) := by
  obtain ⟨p, q⟩ := x
  obtain ⟨h1, h2⟩ := h
  simp only at h1 h2
  have hk : Try.prog.keyType 43 = true := by kernel_rfl
  have ht : ∃ n, Try.prog.types.size + 1 = n + 1 + 1 := ⟨Try.prog.types.size - 1, by decide +kernel⟩
  have c43 : Try.prog.cellsOf 43 = 2 := by kernel_rfl
  have c3 : Try.prog.cellsOf 3 = 1 := by kernel_rfl
  obtain ⟨n, hn⟩ := ht
  unfold keyOf
  rw [Try.underlying43, hn]
  simp only [hk, Bool.true_and]
  have hf : Value.formed Try.prog 43 (.agg #[.int .i64 p, .int .i64 q]) = true := by
    simp [Value.formed, Try.underlying43, c43]
  rw [show xv (p, q) = .agg #[.int .i64 p, .int .i64 q] from rfl, hf]
  simp [Program.keyLits, Try.underlying43, Try.underlying3, c43, c3, h1, h2, kl, Value.cells]
theorem key_inv {key : Value} {l : Lit} (h : keyOf Try.prog 43 key = some l) : ∃ x, key = xv x := by
  have c43 : Try.prog.cellsOf 43 = 2 := by kernel_rfl
  have c3 : Try.prog.cellsOf 3 = 1 := by kernel_rfl
  have ht : ∃ n, Try.prog.types.size + 1 = n + 1 + 1 := ⟨Try.prog.types.size - 1, by decide +kernel⟩
  obtain ⟨n, hn⟩ := ht
  unfold keyOf at h
  rw [Try.underlying43, hn] at h
  simp only at h
  split at h
  · rename_i hf
    rw [Bool.and_eq_true] at hf
    have hf2 := hf.2
    cases key with
    | agg cs =>
      simp [Value.formed, Try.underlying43, c43] at hf2
      obtain ⟨cl⟩ := cs
      match cl, hf2 with
      | [c0, c1], _ =>
        cases c0 with
        | int k0 p0 =>
          by_cases hk0 : k0 = .i64 ∧ (Lit.int .i64 p0).wf = true
          · obtain ⟨rfl, hw0⟩ := hk0
            cases c1 with
            | int k1 p1 =>
              by_cases hk1 : k1 = .i64
              · subst hk1
                exact ⟨(p0, p1), rfl⟩
              · simp [Program.keyLits, Try.underlying43, Try.underlying3, c43, c3, Value.cells, hw0, hk1] at h
            | _ => simp [Program.keyLits, Try.underlying43, Try.underlying3, c43, c3, Value.cells, hw0] at h
          · simp [Program.keyLits, Try.underlying43, Try.underlying3, c43, c3, Value.cells, hk0] at h
        | _ => simp [Program.keyLits, Try.underlying43, Try.underlying3, c43, c3, Value.cells] at h
    | _ => simp [Value.formed, Try.underlying43] at hf2
  · cases h
theorem kl_inj {x y : Ex} (hx : FitX x) (hy : FitX y) (h : kl x = kl y) : x = y := by
  have e := lawB.inj (key_of hx) (h ▸ key_of hy)
  obtain ⟨p, q⟩ := x
  obtain ⟨p', q'⟩ := y
  simp at e
  exact Prod.ext e.1 e.2
theorem fit_of_key {x : Ex} {l : Lit} (h : keyOf Try.prog 43 (xv x) = some l) : FitX x := by
  have c43 : Try.prog.cellsOf 43 = 2 := by kernel_rfl
  have c3 : Try.prog.cellsOf 3 = 1 := by kernel_rfl
  have ht : ∃ n, Try.prog.types.size + 1 = n + 1 + 1 := ⟨Try.prog.types.size - 1, by decide +kernel⟩
  obtain ⟨n, hn⟩ := ht
  obtain ⟨p, q⟩ := x
  unfold keyOf at h
  rw [Try.underlying43, hn] at h
  simp only at h
  split at h
  · simp [Program.keyLits, Try.underlying43, Try.underlying3, c43, c3, Value.cells] at h
    by_cases h1 : (Lit.int .i64 p).wf = true
    · by_cases h2 : (Lit.int .i64 q).wf = true
      · exact ⟨h1, h2⟩
      · simp [h1, h2] at h
    · simp [h1] at h
  · cases h
/-- A map of kinds: of each block its kind, 0 where it has none. -/
def KM (w : World) (b n : Nat) (g : Ex → Int) : Prop :=
  ∃ D : DataW Unit, w.ownsMap Try.prog 43 (plainElem Try.prog 3) b n D ∧ ∀ x, FitX x → D.atKey (kl x) (.lit (.int .i64 0)) = .lit (.int .i64 (g x)) ∧ has D (kl x) = decide (g x ≠ 0)
/-- One block's kind turned. -/
def upd (g : Ex → Int) (x : Ex) (v : Int) : Ex → Int := fun y => if y = x then v else g y
theorem KM.made (w : World) : KM (w.alloc (.map #[] 0)) w.heap.size 0 (fun _ => 0) :=
  ⟨_, World.ownsMap_made w Try.prog 43 _, fun x _ => ⟨rfl, by simp [has_eq]⟩⟩
theorem KM.lt {w : World} {b n : Nat} {g : Ex → Int} (h : KM w b n g) : b < w.heap.size := by obtain ⟨D, h, _⟩ := h; exact h.lt
theorem KM.mono {w : World} {b n n' : Nat} {g : Ex → Int} (h : KM w b n g) (hn : n ≤ n') : KM w b n' g := by obtain ⟨D, h, k⟩ := h; exact ⟨D, h.mono hn, k⟩
theorem KM.kept {w w' : World} {b n : Nat} {g : Ex → Int} {row : Option Nat} (h : KM w b n g) (hg : w.grownBy w' row) (hne : some b ≠ row) : KM w' b n g := by obtain ⟨D, h, k⟩ := h; exact ⟨D, h.kept hg hne, k⟩
theorem KM.below {w w' : World} {b n : Nat} {g : Ex → Int} (h : KM w b n g) (hb : Below w.heap.size w w') : KM w' b n g :=
  h.kept (row := none) ⟨hb.os, hb.tape, hb.output, hb.size, fun k hk _ => hb.block k hk⟩ (by simp)
theorem KM.out {w w' : World} {b n : Nat} {g : Ex → Int} {B C : Nat} (h : KM w b n g) (ho : Out B C w w') (hd : b < B ∨ C ≤ b) : KM w' b n g := by
  obtain ⟨D, ⟨es, clock, hb, F, r⟩, k⟩ := h
  exact ⟨D, ⟨es, clock, by rw [ho.block b (box_lt hb) hd]; exact hb, F, r⟩, k⟩
theorem KM.put {w : World} {b n : Nat} {D : DataW Unit} {g : Ex → Int} {x : Ex} {v : Int} (hD : IsMap D) (hf : FitX x) (hv : v ≠ 0) (k : ∀ x, FitX x → D.atKey (kl x) (.lit (.int .i64 0)) = .lit (.int .i64 (g x)) ∧ has D (kl x) = decide (g x ≠ 0))
    (h : w.ownsMap Try.prog 43 (plainElem Try.prog 3) b n (D.put (kl x) (.lit (.int .i64 v)))) : KM w b n (upd g x v) :=
  ⟨_, h, fun y hy => by
    by_cases e : y = x
    · subst e
      rw [atKey_put_same hD (lawB.key (key_of hf)), has_put_same hD (lawB.key (key_of hf))]
      simp [upd, hv]
    · have hne : kl y ≠ kl x := fun q => e (kl_inj hy hf q)
      rw [atKey_put_other hne, has_put_other hne]
      simp only [upd, if_neg e]
      exact k y hy⟩
theorem KM.del {w : World} {b n : Nat} {D : DataW Unit} {g : Ex → Int} {x : Ex} (hf : FitX x) (k : ∀ x, FitX x → D.atKey (kl x) (.lit (.int .i64 0)) = .lit (.int .i64 (g x)) ∧ has D (kl x) = decide (g x ≠ 0))
    (h : w.ownsMap Try.prog 43 (plainElem Try.prog 3) b n (D.del (kl x))) : KM w b n (upd g x 0) :=
  ⟨_, h, fun y hy => by
    by_cases e : y = x
    · subst e
      rw [atKey_del_same, has_del_same]
      simp [upd]
    · have hne : kl y ≠ kl x := fun q => e (kl_inj hy hf q)
      rw [atKey_del_other hne, has_del_other hne]
      simp only [upd, if_neg e]
      exact k y hy⟩
section
variable (w : World) {ops : Array Oper} {rest : List Oper} {o : Oper} {a : Act} {Q : Exit → Act → World → Prop}
theorem wpList_put (hg : o.guard = none) (m x v : Operand) (hop : o.op = Op.mapUpdate 67 m x v) (b n : Nat) (g : Ex → Int) (y : Ex) (z : Int)
    (hm : a.eval m = .map (some b)) (h : KM w b n g) (hn : n < 1000000) (hf : FitX y) (hz : z ≠ 0) (hw : (Lit.int .i64 z).wf = true) (hx : a.eval x = xv y) (hv : a.eval v = .int .i64 z)
    (hK : ∀ w', KM w' b (n + 1) (upd g y z) → w.grownBy w' (some b) → wpList Try.prog ops Q rest (a.put o.dst undef) w') : wpList Try.prog ops Q (o :: rest) a w := by
  obtain ⟨D, h, k⟩ := h
  exact wpList_mapUpdate_own w hg m x v 67 hop 43 3 lawB Try.underlying67 (plainElem (H := Unit) Try.prog 3) b n D hm h (by unfold maxLen; omega) (xv y) (.int .i64 z) (kl y) hx hv (key_of hf) _ [] (plainElem_int Try.underlying3 hw)
    fun w' h1 h2 => hK w' (KM.put h.isMap hf hz k h1) h2
theorem wpList_del (hg : o.guard = none) (m x : Operand) (hop : o.op = Op.call { callee := Callee.builtin Builtin.delete, args := #[m, x], argTypes := #[67, 43] }) (b n : Nat) (g : Ex → Int) (y : Ex)
    (hm : a.eval m = .map (some b)) (h : KM w b n g) (hf : FitX y) (hx : a.eval x = xv y)
    (hK : ∀ w', KM w' b n (upd g y 0) → w.grownBy w' (some b) → wpList Try.prog ops Q rest (a.put o.dst (.tuple #[])) w') : wpList Try.prog ops Q (o :: rest) a w := by
  obtain ⟨D, h, k⟩ := h
  exact wpList_delete_own w hg m x 67 43 hop 3 lawB Try.underlying67 (plainElem (H := Unit) Try.prog 3) b n D hm h (xv y) (kl y) hx (key_of hf)
    fun w' h1 h2 => hK w' (KM.del hf k h1) h2.grown
end
/-- What a map tells of a block. -/
theorem KM.look {w : World} {b n : Nat} {g : Ex → Int} (h : KM w b n g) {x : Ex} (hf : FitX x) : (Instr.lookup 67 (.map (some b)) (xv x) false).run Try.prog w = .ok (.int .i64 (g x)) w := by
  obtain ⟨D, h, k⟩ := h
  obtain ⟨c, hrun, hat, _⟩ := h.lookup_int lawB Try.underlying67 Try.underlying3 (by kernel_rfl) (key_of hf)
  have e := (k x hf).1
  rw [hat] at e
  simp at e
  rw [← e]
  exact hrun
end Go.Proofs.Ytgapplfnlndckaa
