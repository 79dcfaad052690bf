import Derived.Test.YtggkpcgjmanelaaI5
import Derived.RangeFuncNested
import Derived.RangeFuncBound
import Derived.RangeFuncCalls
import Derived.RangeFuncLeaves
import Derived.RangeFuncWrites
import Derived.RangeFuncFrom
import Derived.Shelf.RegionOpen
import Derived.OwnWalkIn
import Derived.TacticsInMore
import Derived.LoopNIn
import Derived.LoopIn
import Derived.ScopeJumps
/- The program: keys gone through from side to side. -/
namespace Go.Proofs.Ytggkpcgjmanelaa
open Go.ChangeShapes Go.WideShapes Go.ChangeAt Go.RowKit Go.Shelf
set_option linter.unusedVariables false
open Bt

attribute [local go_sem] Oper.semAt_some

/-- A call of yield, whatever depth is asked. -/
theorem yield_any {m m' : Nat} {P : Program} {l : Nat} {args : Array Value} {W : World} {R : Ending → World → Prop} (h : YieldAt Fence.wide m P l args W R) : YieldAt Fence.wide m' P l args W R := by
  obtain ⟨fn, tmps, assign, body, h1, h2, h3⟩ := h
  exact ⟨fn, tmps, assign, body, h1, h2, fun c cs _ => h3 c cs (room_wide _)⟩
/-- Below a mark all is kept, and all boxes of forks are. -/
def Kc (n₀ : Nat) (A B : World) : Prop := Below n₀ A B ∧ ∀ (k : Nat) (c : Array Value) (z : Nat × Nat), A.heap[k]? = some (Obj.cells c 101 z) → B.heap[k]? = some (Obj.cells c 101 z)
theorem Kc.refl (n₀ : Nat) (A : World) : Kc n₀ A A := ⟨Below.refl _ _, fun _ _ _ h => h⟩
theorem Kc.trans {n₀ : Nat} {A B C : World} (h : Kc n₀ A B) (k : Kc n₀ B C) : Kc n₀ A C := ⟨h.1.trans k.1, fun i c z e => k.2 i c z (h.2 i c z e)⟩
theorem Kc.of_below {n₀ : Nat} {A B : World} (h : Below A.heap.size A B) (hn : n₀ ≤ A.heap.size) : Kc n₀ A B := ⟨h.mono hn, fun k c z e => box_on e h⟩
theorem Kc.alloc {n₀ : Nat} {A B : World} (h : Kc n₀ A B) (hn : n₀ ≤ B.heap.size) (o : Obj) : Kc n₀ A (B.alloc o) := h.trans (Kc.of_below (below_alloc _ _) hn)
theorem Kc.set {n₀ : Nat} {A : World} {b o : Nat} {v : Value} {c : Array Value} {t : TypeId} {z : Nat × Nat} (hb : A.heap[b]? = some (.cells c t z)) (ht : t ≠ 101) (hn : n₀ ≤ b) : Kc n₀ A (A.setCell ⟨b, o, none⟩ v) :=
  ⟨(Below.refl _ _).setCell (by simpa using hn) _, fun k c' z' e => by
    have hne : k ≠ b := by
      rintro rfl
      rw [hb] at e
      simp at e
      exact ht e.2.1
    exact box_out e (out_setCell A b o v) (by omega)⟩
theorem Kc.put {n₀ : Nat} {w : World} (hn : n₀ ≤ w.heap.size) (W : World) (l : Nat) (o o' : Obj) (hl : w.heap.size ≤ l) (h : W.heap[l]? = some o) (ho : o.isCells = false) (hw : o.isWalk = false) : Kc n₀ W (W.putObj l o') :=
  ⟨belowK_b hn W l o o' hl h ho hw, fun k c z e => by
    have hne : k ≠ l := by
      rintro rfl
      rw [h] at e
      simp only [Option.some.injEq] at e
      subst e
      simp [Obj.isCells] at ho
    exact ((grownBy_putObj' W l o').block k (box_lt e) (fun q => hne (by simpa using q))).trans e⟩
theorem Kc.grown {n₀ : Nat} {A B : World} {row : Option Nat} (h : A.grownBy B row) (hn : n₀ ≤ A.heap.size) (hr : ∀ k, row = some k → n₀ ≤ k) (ht : ∀ k, row = some k → ∀ (c : Array Value) (z : Nat × Nat), A.heap[k]? ≠ some (Obj.cells c 101 z)) : Kc n₀ A B :=
  ⟨Grown.below h hn hr, fun k c z e => (h.block k (box_lt e) (fun q => ht k q.symm c z e)).trans e⟩
/-- What going through a node's keys tells. -/
def EachA (n₀ : Nat) (W : World) (J Jx : List Int → World → Prop) (pre : List Int) (l : List Int) (e : Ending) (W' : World) : Prop :=
  (e = .returned (.bool true) ∧ J (pre ++ l) W' ∧ Kc n₀ W W') ∨ (e = .returned (.bool false) ∧ ∃ q, q <+: l ∧ Jx (pre ++ q) W')

set_option maxRecDepth 100000 in
set_option maxHeartbeats 4000000 in
theorem each_leaf (l : Nat) (w0 : World) (J Jx : List Int → World → Prop) (N : Nat) (hJ : ∀ s W o, J s W → J s (W.alloc o))
    (hY : ∀ m pre x W1, J pre W1 → pre.length < N → YieldAt Fence.wide m Try.prog l #[iv x] W1 fun e W' => (e = .returned (.bool true) ∧ J (pre ++ [x]) W' ∧ Kc w0.heap.size W1 W') ∨ (e = .returned (.bool false) ∧ Jx (pre ++ [x]) W'))
    (a : Option Addr) (ks : List Int) (c : Nat) (pre : List Int) (W : World) (m : Nat) (hi : Ints w0 a ks) (hW : Below w0.heap.size w0 W) (hJ0 : J pre W) (hN : pre.length + ks.length ≤ N) (hk : ks.length ≤ 100000000) :
    CallsIn Fence.wide m Try.prog 83 #[.iface 91 (.agg #[.slice a ks.length c]), .func (.yield l) #[] #[]] W (EachA w0.heap.size W J Jx pre ks) := by
  refine callsIn_of_wp Try.func83 rfl trivial ?_ rfl
  simp only [Try.ntmps83, List.size_toArray, List.length_cons, List.length_nil, Nat.reduceAdd, Nat.reduceSub, Array.replicate_succ, Array.replicate_zero, List.push_toArray, List.append_toArray, List.nil_append, List.cons_append]
  have hJ1 := hJ _ _ (.cells #[.slice a ks.length c] 91) hJ0
  have hW1 : Kc w0.heap.size W (W.alloc (.cells #[.slice a ks.length c] 91)) := (Kc.refl _ _).alloc hW.size _
  gi_wp2
  have H2 : Hid _ := hi
  obtain ⟨n, hn⟩ : ∃ n, ks.length = n := ⟨_, rfl⟩
  rw [hn] at hN hk hJ1 hW1 ⊢
  have Hn : Hid _ := hn
  clear hn hi hJ0
  gi_loopw [18] (fun i wr => ∃ k : Nat, k ≤ n ∧ i = .int .i64 k ∧ J (pre ++ ks.take k) wr ∧ Kc w0.heap.size W wr) (fun i _ => n - (intOf i).toNat)
  case atStart => exact ⟨0, Nat.zero_le _, rfl, by simpa using hJ1, hW1⟩
  case round =>
    obtain ⟨k, hk', rfl, hJs, hb⟩ := hrel
    by_cases hlt : k < n
    · obtain ⟨b, off, rfl, hcell⟩ := H2.out (by rw [Hn.out]; omega)
      have kc : w0.cell? ⟨b, off + k, none⟩ = some (iv (gi ks k)) := hcell k (by rw [Hn.out]; exact hlt)
      have kc' := cell_on kc (hW.trans hb.1)
      obtain ⟨fn, tmps, assign, body, hy, hR⟩ := hY 0 _ (gi ks k) wr hJs (by simp; omega)
      have hR' : ∀ m', RoundIn Fence.wide m' Try.prog l fn tmps assign body wr _ := fun m' => ⟨hR.1, fun c cs _ => hR.2 c cs (room_wide _)⟩
      have hsn : pre ++ ks.take k ++ [gi ks k] = pre ++ ks.take (k + 1) := by
        rw [List.append_assoc]
        congr 1
        rw [List.take_add_one, List.getElem?_eq_getElem (by rw [Hn.out]; exact hlt), gi_eq (by rw [Hn.out]; exact hlt)]; rfl
      have Hsn : Hid _ := hsn
      have hlt' : (k : Int) < (n : Int) := by omega
      clear hcell hY hR kc hsn
      generalize gi ks k = K at *
      gi_wp2
      refine ⟨fun h => absurd h (by simp [Fence.wide]), (hR' _).mono ?_⟩
      rintro e W3 (⟨rfl, hJ3, hk3⟩ | ⟨rfl, hJx3⟩)
      · gi_wp2
        go_roundw
        case rel => exact ⟨k + 1, by omega, by go_num, by rw [← Hsn.out]; exact hJ3, hb.trans hk3⟩
        case measure => simp [intOf]; omega
      · gi_wp2
        go_ret
        exact .inr ⟨rfl, ks.take (k + 1), List.take_prefix _ _, by rw [← Hsn.out]; exact hJx3⟩
    · have hkn : k = n := by omega
      have hlt' : ¬ (k : Int) < (n : Int) := by omega
      gi_wp2
      go_ret
      rw [hkn, ← Hn.out, List.take_length] at hJs
      exact .inl ⟨rfl, hJs, hb⟩
end Go.Proofs.Ytggkpcgjmanelaa
