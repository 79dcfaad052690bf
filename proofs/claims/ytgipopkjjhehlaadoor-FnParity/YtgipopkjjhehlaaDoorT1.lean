import Derived.RangeFuncNested
import Derived.RangeFuncBound
import Derived.RangeFuncCalls
import Derived.RangeFuncLeaves
import Derived.RangeFuncWrites
import Derived.Shelf.Abstract
import Derived.Shelf.RegionOpen
import Derived.WalkKit
import Derived.OwnWalkIn
import Derived.TacticsInMore
import Derived.LoopNIn
import Derived.LoopIn
import Derived.WalkSmall
import Derived.ProofKit
import Derived.OpenShut
import Derived.Below
import Derived.WalkMore
import Derived.ScopeJumps
import Derived.Test.YtgipopkjjhehlaaDoorRows
namespace Go.Proofs.YtgipopkjjhehlaaDoor
open Go.ChangeShapes Go.WideShapes Go.ChangeAt Go.RowKit Go.Shelf
set_option linter.unusedVariables false
attribute [local go_sem] Oper.semAt_some

/-- A slice value that can be read: its length, and where its cells lie. -/
def At (w : World) (a : Option Addr) (n : Nat) (f : Nat → Value) : Prop :=
  n ≠ 0 → ∃ b off, a = some ⟨b, off, none⟩ ∧ ∀ i, i < n → w.cell? ⟨b, off + i, none⟩ = some (f i)
theorem lt_of_cell {w : World} {b o : Nat} {v : Value} (h : w.cell? ⟨b, o, none⟩ = some v) : b < w.heap.size := World.block_lt_of_cell? w ⟨b, o, none⟩ h
theorem At.below {w w' : World} {a : Option Addr} {n : Nat} {f : Nat → Value} (h : At w a n f) (hb : Below w.heap.size w w') : At w' a n f := by
  intro hn
  obtain ⟨b, off, rfl, hc⟩ := h hn
  refine ⟨b, off, rfl, fun i hi => ?_⟩
  have h1 := hc i hi
  rw [hb.cell (p := ⟨b, off + i, none⟩) (lt_of_cell h1)]; exact h1

/-- The text of a disk. -/
def dt (n : Nat) (D : Nat → ByteArray) (P Q : ByteArray) (i : Nat) : ByteArray := if i < n then D i else if i = n then P else Q
theorem dt_d {n : Nat} {D : Nat → ByteArray} {P Q : ByteArray} {i : Nat} (h : i < n) : dt n D P Q i = D i := if_pos h
theorem dt_p (n : Nat) (D : Nat → ByteArray) (P Q : ByteArray) : dt n D P Q n = P := by unfold dt; rw [if_neg (by omega), if_pos rfl]
theorem dt_q (n : Nat) (D : Nat → ByteArray) (P Q : ByteArray) : dt n D P Q (n + 1) = Q := by unfold dt; rw [if_neg (by omega), if_neg (by omega)]

/-- All blocks below n₀ but R are as they were. -/
def Kq (n₀ R : Nat) (W W' : World) : Prop := ∀ k, k < n₀ → k ≠ R → W'.heap[k]? = W.heap[k]?
theorem Kq.refl (n₀ R : Nat) (W : World) : Kq n₀ R W W := fun _ _ _ => rfl
theorem Kq.trans {n₀ R : Nat} {A B C : World} (h : Kq n₀ R A B) (k : Kq n₀ R B C) : Kq n₀ R A C := fun i hi hr => (k i hi hr).trans (h i hi hr)
theorem Kq.put {n₀ R : Nat} {w : World} (hn : n₀ ≤ w.heap.size) (W : World) (l : Nat) (o o' : Obj) (hl : w.heap.size ≤ l) (h : W.heap[l]? = some o) (_ : o.isCells = false) (_ : o.isWalk = false) : Kq n₀ R W (W.putObj l o') :=
  fun k hk _ => (belowK_b (w := w) hn W l o o' hl h ‹_› ‹_›).block k hk
theorem Kq.of_below {n₀ R : Nat} {A B : World} (h : Below n₀ A B) : Kq n₀ R A B := fun k hk _ => h.block k hk
theorem Kq.cell {n₀ R : Nat} {A B : World} (h : Kq n₀ R A B) {b o : Nat} (hb : b < n₀) (hr : b ≠ R) : B.cell? ⟨b, o, none⟩ = A.cell? ⟨b, o, none⟩ := by
  unfold World.cell?; simp only [h b hb hr]

theorem fin_take {m k : Nat} (h : k < m) : (List.finRange m).take (k + 1) = (List.finRange m).take k ++ [⟨k, h⟩] := by
  rw [List.take_add_one]
  congr 1
  simp [List.getElem?_eq_getElem (l := List.finRange m) (i := k) (by simpa using h)]

/-- Where the box of a stripe lies, and what the row of its data holds, none in block R. -/
structure Sb (W : World) (n₀ R Bs : Nat) (a : Option Addr) (n cap : Nat) (D : Nat → ByteArray) (P Q : ByteArray) : Prop where
  lt : Bs < n₀
  ne : Bs ≠ R
  c0 : W.cell? ⟨Bs, 0, none⟩ = some (.slice a n cap)
  c1 : W.cell? ⟨Bs, 1, none⟩ = some (.string P)
  c2 : W.cell? ⟨Bs, 2, none⟩ = some (.string Q)
  row : n ≠ 0 → ∃ b off, a = some ⟨b, off, none⟩ ∧ b < n₀ ∧ b ≠ R ∧ ∀ i, i < n → W.cell? ⟨b, off + i, none⟩ = some (.string (D i))
theorem Sb.kept {W W' : World} {n₀ R Bs : Nat} {a : Option Addr} {n cap : Nat} {D : Nat → ByteArray} {P Q : ByteArray} (h : Sb W n₀ R Bs a n cap D P Q) (k : Kq n₀ R W W') : Sb W' n₀ R Bs a n cap D P Q :=
  ⟨h.lt, h.ne, (k.cell h.lt h.ne).trans h.c0, (k.cell h.lt h.ne).trans h.c1, (k.cell h.lt h.ne).trans h.c2, fun hn => by
    obtain ⟨b, off, e, h1, h2, h3⟩ := h.row hn
    exact ⟨b, off, e, h1, h2, fun i hi => (k.cell h1 h2).trans (h3 i hi)⟩⟩

abbrev encs (n : Nat) (D : Nat → ByteArray) (P Q : ByteArray) (x : Fin (n + 2)) : Array Value := #[.int .i64 (x.1 : Int), .string (dt n D P Q x.1)]

set_option maxRecDepth 100000 in
set_option maxHeartbeats 2000000 in
theorem disks_stops (F : Fence) (fu : Nat) (h61 : F.fn 52) (hro : F.round = none) (hfu : 1 ≤ fu) (n₀ R Bs : Nat) (a : Option Addr) (n cap : Nat) (D : Nat → ByteArray) (P Q : ByteArray) (hn : n ≤ 1048576) (w : World) (hn₀ : n₀ ≤ w.heap.size) (hS : Sb w n₀ R Bs a n cap D P Q) :
    SeqStopsK F fu Tryd.prog 52 #[.pointer (some ⟨Bs, 0, none⟩)] (encs n D P Q) (Kq n₀ R) (fun xs => xs = List.finRange (n + 2)) (fun pre => pre <+: List.finRange (n + 2)) (n + 2) w := fun l J Jx W hW _ _ hY h0 => by
  have hS' : Sb W n₀ R Bs a n cap D P Q := hS.kept (Kq.of_below (hW.mono hn₀))
  clear hS
  have b0 := hS'.c0
  refine callsIn_of_wp Tryd.func52 rfl h61 ?_ hro
  simp only [Tryd.ntmps52, List.size_toArray, List.length_cons, List.length_nil, Nat.reduceAdd, Nat.reduceSub, Array.replicate_succ, Array.replicate_zero, List.push_toArray, List.append_toArray, List.nil_append, List.cons_append]
  gi_wp2
  gi_loopw [8] (fun i wr => ∃ k : Nat, k ≤ n ∧ i = .int .i64 k ∧ J ((List.finRange (n + 2)).take k) wr ∧ Kq n₀ R W wr)
    (fun i _ => n - (intOf i).toNat)
  case atStart => exact ⟨0, Nat.zero_le _, rfl, h0, Kq.refl _ _ _⟩
  case round =>
    obtain ⟨k, hk, rfl, hJs, hnx⟩ := hrel
    have hSr := hS'.kept hnx
    by_cases hlt : k < n
    · obtain ⟨b, off, rfl, hb1, hb2, hcs⟩ := hSr.row (by omega)
      obtain ⟨fn, tmps, assign, body, hy, hR⟩ := hY _ (⟨k, by omega⟩ : Fin (n + 2)) wr hJs (by simp; omega)
      dsimp only [encs] at hy
      rw [dt_d hlt] at hy
      have hcx := hcs k hlt
      clear hcs hY
      have hlt' : (k : Int) < (n : Int) := by omega
      gi_wp2
      refine hR.mono ?_
      rintro e W3 (⟨rfl, hJ3, hk3⟩ | ⟨rfl, hJx3⟩)
      · gi_wp2
        go_roundw
        case rel => exact ⟨k + 1, by omega, by go_num, by rw [fin_take (by omega)]; exact hJ3, hnx.trans hk3⟩
        case measure => simp [intOf]; omega
      · gi_wp2
        refine bodyPost_ret (results_none rfl _ _ _) rfl ?_
        exact ⟨⟨_, rfl⟩, .inr ⟨_, by rw [← fin_take (by omega)]; exact List.take_prefix _ _, hJx3⟩⟩
    · obtain rfl : k = n := by omega
      have d0 := hSr.c0
      have d1 := hSr.c1
      obtain ⟨f1, t1, a1, bd1, hy1, hR1⟩ := hY _ (⟨k, by omega⟩ : Fin (k + 2)) wr hJs (by simp)
      dsimp only [encs] at hy1
      rw [dt_p] at hy1
      have hlt' : ¬ (k : Int) < (k : Int) := by omega
      gi_wp2
      refine hR1.mono ?_
      rintro e W3 (⟨rfl, hJ3, hk3⟩ | ⟨rfl, hJx3⟩)
      · have hS3 := hSr.kept hk3
        have e0 := hS3.c0
        have e2 := hS3.c2
        obtain ⟨f2, t2, a2, bd2, hy2, hR2⟩ := hY _ (⟨k + 1, by omega⟩ : Fin (k + 2)) W3 hJ3 (by simp)
        dsimp only [encs] at hy2
        have ek : ((k + 1 : Nat) : Int) = (k : Int) + 1 := by omega
        rw [dt_q, ek] at hy2
        clear ek
        gi_wp2
        refine hR2.mono ?_
        rintro e W4 (⟨rfl, hJ4, hk4⟩ | ⟨rfl, hJx4⟩)
        · gi_wp2
          go_end0
          refine ⟨⟨_, rfl⟩, .inl ⟨_, rfl, ?_⟩⟩
          rw [← fin_take (by omega), ← fin_take (by omega), List.take_of_length_le (by simp)] at hJ4
          exact hJ4
        · gi_wp2
          go_end0
          refine ⟨⟨_, rfl⟩, .inr ⟨_, ?_, hJx4⟩⟩
          rw [← fin_take (by omega), ← fin_take (by omega)]
          exact List.take_prefix _ _
      · gi_wp2
        go_end0
        refine ⟨⟨_, rfl⟩, .inr ⟨_, ?_, hJx3⟩⟩
        rw [← fin_take (by omega)]
        exact List.take_prefix _ _

theorem disksOf_any (F : Fence) (fu : Nat) (h47 : F.fn 28) (hro : F.round = none) (a : Option Addr) (n cap : Nat) (P Q : ByteArray) (w : World) :
    CallsIn F fu Tryd.prog 28 #[.agg #[.slice a n cap, .string P, .string Q]] w fun e w' => e = .returned (.func (.func 52) #[] #[.pointer (some ⟨w.heap.size, 0, none⟩)]) ∧ w' = w.alloc (.cells #[.slice a n cap, .string P, .string Q] 26) := by
  refine callsIn_of_wp Tryd.func28 rfl h47 ?_ hro
  simp only [Tryd.ntmps28, List.size_toArray, List.length_cons, List.length_nil, Nat.reduceAdd, Nat.reduceSub, Array.replicate_succ, Array.replicate_zero, List.push_toArray, List.append_toArray, List.nil_append, List.cons_append]
  gi_wp2
  go_ret
  exact ⟨rfl, rfl⟩
end Go.Proofs.YtgipopkjjhehlaaDoor
