import Derived.Test.YtienhdlhlddemaaL5
import Derived.Test.YtienhdlhlddemaaL5
import Derived.Test.YtienhdlhlddemaaL2
import Derived.Laws.IdiomStrings
/- What the laws do with rows of names: mark and hold. -/
namespace Go.Proofs.Ytienhdlhlddemaa
open Go.ChangeShapes Go.WideShapes Go.ChangeAt Go.RowKit
set_option linter.unusedVariables false
open Hd

def dgs : Nat → Nat → List UInt8 → List UInt8
  | 0, _, acc => acc
  | f + 1, k, acc => if k = 0 then acc else dgs f (k / 10) ((48 + UInt8.ofNat (k % 10)) :: acc)
def mkText (k : Nat) : ByteArray := ⟨(109 :: dgs k k []).toArray⟩

theorem str_cons (d : UInt8) (l : List UInt8) : ((⟨#[d]⟩ : ByteArray) ++ ⟨l.toArray⟩) = ⟨(d :: l).toArray⟩ := by
  apply ByteArray.ext
  simp

set_option maxHeartbeats 400000 in
theorem markText_any (K : Nat) (w : World) (h0 : 1 ≤ K) (h1 : K ≤ 1000000000) :
    Calls Try.prog 44 #[.int .i64 K] w fun e w' => e = .returned (.string (mkText K)) ∧ Below w.heap.size w w' := by
  have HM : Hid (mkText K = ⟨(109 :: dgs K K []).toArray⟩) := rfl
  generalize mkText K = r at HM ⊢
  go_enter Try.func44, Try.ntmps44
  go_wp2
  go_loopw [0, 3] (fun i o wr => ∃ (k f : Nat) (l : List UInt8), i = .int .i64 k ∧ o = .string ⟨l.toArray⟩ ∧ k ≤ f ∧ k ≤ K ∧ l.length + f ≤ K ∧ dgs f k l = dgs K K [] ∧ Below w.heap.size w wr) (fun i _ _ => (intOf i).toNat)
  case atStart => exact ⟨K, K, [], rfl, rfl, Nat.le_refl _, Nat.le_refl _, by simp, rfl, Below.refl _ _⟩
  case round =>
    obtain ⟨k, f, l, rfl, rfl, hf, hkK, hl, hd, hb⟩ := hrel
    have HD : Hid _ := hd
    clear hd
    by_cases hk : 0 < k
    · have hk' : (0 : Int) < (k : Int) := by omega
      have hconv : ∀ (wx : World), (convert 79 9 (.slice (some ⟨wx.heap.size, 0, none⟩) 1 1)).run Try.prog (wx.alloc (.cells #[.int .u8 (48 + (k : Int) % 10)] 5)) = .ok (.string ⟨#[UInt8.ofNat (48 + k % 10)]⟩) (wx.alloc (.cells #[.int .u8 (48 + (k : Int) % 10)] 5)) := fun wx =>
        run_convert_bytes_back (P := Try.prog) (wx.alloc (.cells #[.int .u8 (48 + (k : Int) % 10)] 5)) 79 9 5 ⟨wx.heap.size, 0, none⟩ 1 [UInt8.ofNat (48 + k % 10)] Try.underlying79 Try.underlying5 Try.underlying9 (fun j hj => by
          have hj0 : j = 0 := by simp at hj; omega
          subst hj0
          simp [go_sem, Addr.add]
          omega)
      have hl' : l.length ≤ 1000000000 := by omega
      go_wp2
      go_roundw
      case rel =>
        refine ⟨k / 10, f - 1, (48 + UInt8.ofNat (k % 10)) :: l, by go_num, congrArg Value.string (str_cons _ _), by omega, by omega, by simp; omega, ?_, Below.comp hb (below_alloc _ _)⟩
        have hd := HD.out
        obtain ⟨f', rfl⟩ : ∃ f', f = f' + 1 := ⟨f - 1, by omega⟩
        rw [← hd]
        show _ = dgs (f' + 1) k l
        rw [dgs, if_neg (by omega)]
        rfl
      case measure => simp [intOf]; omega
    · have hk0 : k = 0 := by omega
      subst hk0
      have hd : l = dgs K K [] := by
        rw [← HD.out]
        cases f with
        | zero => rfl
        | succ f => rw [dgs, if_pos rfl]
      have hl' : l.length ≤ 1000000000 := by omega
      have HD' : Hid _ := hd
      clear hd HD
      go_wp2
      go_ret
      refine ⟨?_, hb⟩
      rw [HM.out, ← HD'.out]
      exact congrArg (fun x => Ending.returned (Value.string x)) (str_cons _ _)

/-- Marked names. -/
def mkN (k n : Nat) : List Nm := (List.range n).map fun i => ⟨mkText (k + 2 * i), ((k + 2 * i + 1 : Nat) : Int)⟩
theorem mkN_len (k n : Nat) : (mkN k n).length = n := by simp [mkN]
theorem mkN_at {k n i : Nat} (h : i < n) : gm (mkN k n) i = ⟨mkText (k + 2 * i), ((k + 2 * i + 1 : Nat) : Int)⟩ := by simp [mkN, gm, h]
end Go.Proofs.Ytienhdlhlddemaa
