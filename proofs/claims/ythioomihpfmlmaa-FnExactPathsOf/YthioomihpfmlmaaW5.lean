import Derived.Test.YthioomihpfmlmaaS3
import Derived.Test.YthioomihpfmlmaaI4
import Derived.Test.YthioomihpfmlmaaZ0
import Derived.Test.YthioomihpfmlmaaL4s
import Derived.Sort.OwnSorted
/- All paths, on both sides. -/
namespace Go.Proofs.Ythioomihpfmlmaa
open Go.ChangeShapes Go.WideShapes Go.ChangeAt Go.RowKit
set_option linter.unusedVariables false
open Hd

attribute [local go_sem] Oper.semAt_some

/-- A text as Go's sort has it. -/
def ub (l : List UInt8) : ByteArray := ⟨l.toArray⟩
theorem ub_bt (s : ByteArray) : ub (bt s) = s := by
  apply ByteArray.ext
  simp [ub]
theorem bt_ub (l : List UInt8) : bt (ub l) = l := by simp [ub]
theorem css_enc (l : List ByteArray) : css l = (l.map bt).map encStr := by
  unfold css
  rw [List.map_map]
  refine List.map_congr_left fun s _ => ?_
  have := ub_bt s
  unfold ub at this
  show Value.string s = Value.string ⟨(bt s).toArray⟩
  rw [this]
theorem sort_is {l R : List ByteArray} (hs : R.Pairwise le1) (hp : R.Perm l) : ((l.map bt).mergeSort fun x y => decide (x ≤ y)) = R.map bt := by
  have h1 : ((l.map bt).mergeSort fun x y => decide (x ≤ y)).Pairwise (fun a b => decide (a ≤ b) = true) := List.pairwise_mergeSort (fun a b c h k => by rw [decide_eq_true_eq] at *; exact List.le_trans h k) (fun a b => by rw [Bool.or_eq_true, decide_eq_true_eq, decide_eq_true_eq]; exact List.le_total _ _) _
  have h2 := List.mergeSort_perm (l.map bt) (fun x y => decide (x ≤ y))
  generalize ((l.map bt).mergeSort fun x y => decide (x ≤ y)) = ts at *
  have e1 : ts = (ts.map ub).map bt := by rw [List.map_map]; conv => lhs; rw [← List.map_id ts]
                                          exact List.map_congr_left fun x _ => (bt_ub x).symm
  have e2 : (l.map bt).map ub = l := by rw [List.map_map]; conv => rhs; rw [← List.map_id l]
                                        exact List.map_congr_left fun x _ => ub_bt x
  have h3 : (ts.map ub).Perm l := by have := h2.map ub; rwa [e2] at this
  have h4 : (ts.map ub).Pairwise le1 := by
    rw [List.pairwise_map]
    refine h1.imp fun {a b} h => ?_
    unfold le1
    rw [bt_ub, bt_ub]
    simpa using h
  rw [e1, sorted_uniq h4 hs (h3.trans hp.symm)]
/-- All paths of names. -/
def paR (B : Bool) (T : List Ino) : List ByteArray := if B then isr (pb T 9 0 ⟨#[]⟩) [sl1] else []
theorem paR_few {B : Bool} {T : List Ino} (hB : B = true ↔ TS T) : (paR B T).length ≤ 2000 := by
  unfold paR
  split
  · rename_i h
    rw [isr_len]
    have := pb_few (hB.1 h) ⟨#[]⟩
    simp
    omega
  · simp
set_option maxHeartbeats 1000000 in
theorem specPaths_any (B : Bool) (T : List Ino) (hB : B = true ↔ TS T) (v : Value) (w : World) (hf : FewI T) (hc : NamAt w v T) :
    Calls Try.prog 15 #[v] w fun e w' => Below w.heap.size w w' ∧ ∃ u, e = .returned (.tuple #[u, .bool B]) ∧ RowS w' u (paR B T) := by
  obtain ⟨a, ca, rfl, hca, hI⟩ := hc
  obtain ⟨W0, hW0⟩ : ∃ W0, w.alloc (.cells #[.slice a T.length ca] 24) = W0 := ⟨_, rfl⟩
  have q0 : Below w.heap.size w W0 := by subst hW0; exact below_alloc _ _
  have HX : Hid (W0.heap[w.heap.size]? = some (.cells #[.slice a T.length ca] 24 (0, 0))) := by subst hW0; exact al1 _ _
  obtain ⟨x0, -⟩ := box1_cells HX.out
  have cG : Calls Try.prog 12 #[tv a T.length ca] W0 (fun e w' => e = .returned (.bool B) ∧ Below W0.heap.size W0 w') := (specGood_any _ T W0 hf ⟨a, ca, rfl, hca, hI.below q0⟩).mono (fun e w' q => ⟨q.1.is hB, q.2⟩)
  have HP : Hid (B = true → ∀ v W, Below W0.heap.size W0 W → RowS W v [sl1] → Calls Try.prog 31 #[tv a T.length ca, .int .i64 0, .string ⟨#[]⟩, v] W fun e w' => Below W.heap.size W w' ∧ ∃ v', e = .returned v' ∧ RowS w' v' (isr (pb T 9 0 ⟨#[]⟩) [sl1])) := fun hb v W hW hv => by
    have hT := hB.1 hb
    have hS := Sk_of hT.2.2.2.2.1
    exact paths_all hT.2.2.2.2.1 W0 a ca (hI.below q0) hT.1 hT.2.1 8 0 ⟨#[]⟩ v [sl1] W (by have := hT.1; omega) (dz_of hS 8 0 (by have := hT.1; omega) hT.2.2.2.2.2.1) (by simp [ByteArray.size]) (by simp) (by have := pb_few hT ⟨#[]⟩; simp; omega) hW hv
  unfold paR
  clear hB hf hI hca
  unfold tv at *
  generalize T.length = n at *
  cases B with
  | false =>
    simp only [Bool.false_eq_true, if_false]
    go_enter Try.func15, Try.ntmps15
    go_wp2_with fail
    refine cG.mono ?_
    rintro e w1 ⟨rfl, b1⟩
    clear x0 hW0 cG
    go_wp2_with fail
    go_ret2
    exact ⟨Below.comp q0 b1, .slice none 0 0, rfl, none, 0, rfl, Nat.le_refl _, Strs.nil⟩
  | true =>
    simp only [if_true]
    have HP2 : Hid _ := HP.out rfl
    go_enter Try.func15, Try.ntmps15
    go_wp2_with fail
    refine cG.mono ?_
    rintro e w1 ⟨rfl, b1⟩
    clear x0 hW0 cG
    obtain ⟨x0, -⟩ := box1_cells (box_on HX.out b1)
    obtain ⟨W2, hW2⟩ : ∃ W2, w1.alloc (.cells #[.string ⟨#[47]⟩] 9) = W2 := ⟨_, rfl⟩
    have b2 : Below w1.heap.size w1 W2 := by subst hW2; exact below_alloc _ _
    have hrow : RowS W2 (.slice (some ⟨w1.heap.size, 0, none⟩) 1 1) [sl1] := ⟨some ⟨w1.heap.size, 0, none⟩, 1, rfl, Nat.le_refl _, fun _ => ⟨w1.heap.size, 0, rfl, fun i hi => by
      have : i = 0 := by simp at hi; omega
      subst this
      subst hW2
      exact cell_of_block (al1 _ _) rfl⟩⟩
    have cP := HP2.out _ W2 (Below.comp b1 b2) hrow
    clear hrow
    go_wp2_with fail
    refine cP.mono ?_
    rintro e w3 ⟨b3, v3, rfl, r3⟩
    have HR : Hid _ := r3
    obtain ⟨x3, c3, hv3, -, -⟩ := r3
    subst hv3
    clear x0 hW2 cP
    go_wp2_with fail
    go_ret2
    exact ⟨Below.comp q0 (Below.comp b1 (Below.comp b2 b3)), _, rfl, HR.out⟩
end Go.Proofs.Ythioomihpfmlmaa
