import Derived.Test.YtfmgaenedkjmkaaA6
import Derived.Laws.Cover1
/- The specification: good directories. -/
namespace Go.Proofs.Ytfmgaenedkjmkaa
open Go.ChangeShapes Go.WideShapes Go.ChangeAt Go.RowKit
set_option linter.unusedVariables false
open Hd

attribute [local go_sem] Oper.semAt_some

theorem slice24_to (b off n c k : Nat) (h : k ≤ c) (w : World) : (Instr.slice 22 (.slice (some ⟨b, off, none⟩) n c) none (some (.int .i64 (k : Int))) none).run Try.prog w = .ok (.slice (some ⟨b, off, none⟩) k c) w := by
  rw [run_slice_h w 22 (some ⟨b, off, none⟩) n c (by kernel_rfl) .i64 k (by omega) (by omega), show Try.prog.elem 22 = 3 from by kernel_rfl, Try.sizeOf3]
  simp only [Result.andThen, sliced]
  split
  · simp
  · simp [addN]
theorem les_is (a b : ByteArray) : Op.bytesLess a.toList b.toList = les a b := by
  rw [Proofs.bytesLess_eq, Lib.toList_data, Lib.toList_data]
  rfl
/-- A call that leaves the world as it was, in a world that is drawn on. -/
theorem same_regrown {P : Program} {f : Nat} {args : Array Value} {W : World} {v : Value} (h : ∀ u, Calls P f args u fun e w' => e = .returned v ∧ w' = u) (d : _) (os : _) :
    Calls P f args (Go.Sort.grow (redrawn W d) os) fun e w'' => e = .returned v ∧ ∃ p : Regrown, w'' = Go.Sort.grow (redrawn W p.d) p.os :=
  Calls.regrown_of ((h _).mono fun e w' q => ⟨q.1, by rw [q.2]; exact Below.refl _ _⟩)
theorem low_regrown (W : World) {n d : Nat} (hn : n < 9223372036854775808) (hd : d ≤ 62) (dd : _) (os : _) :
    Calls Try.prog 57 #[.int .i64 (n : Int), .int .i64 (d : Int)] (Go.Sort.grow (redrawn W dd) os) fun e w'' => e = .returned (.int .i64 (low n d : Nat)) ∧ ∃ p : Regrown, w'' = Go.Sort.grow (redrawn W p.d) p.os :=
  same_regrown (fun u => l8Low_any n d u hn hd) dd os
/-- What is asked of a slot and one ahead of it. -/
def prS (d : Dr) (i j : Nat) : Prop := (gi d.sl j = gi d.sl i ↔ low i (dq d i).toNat = low j (dq d i).toNat) ∧ (gi d.sl j = gi d.sl i ↔ low i (dq d j).toNat = low j (dq d j).toNat)
theorem bne_iff {A B : Bool} {p q : Prop} (hA : A = true ↔ p) (hB : B = true ↔ q) : (!(A == B)) = false ↔ (p ↔ q) := by
  rw [← hA, ← hB]
  cases A <;> cases B <;> simp
end Go.Proofs.Ytfmgaenedkjmkaa
