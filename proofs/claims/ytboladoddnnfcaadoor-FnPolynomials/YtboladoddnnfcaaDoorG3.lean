import Derived.Test.YtboladoddnnfcaaDoorG2
namespace Go.Proofs.YtboladoddnnfcaaDoor
open Go.ChangeShapes Go.WideShapes Go.ChangeAt Go.RowKit
set_option linter.unusedVariables false
open GF

set_option maxHeartbeats 400000 in
theorem toByteS_cap (a : Option Addr) (n cap : Nat) (S : Nat → Nat) (w : World) (hn : n ≤ 1048576) (hc : At w a n (by' S)) :
    Calls Tryd.prog 38 #[.slice a n cap] w fun e w' => Below w.heap.size w w' ∧ ∃ b, e = .returned (.slice (some ⟨b, 0, none⟩) n n) ∧ Mine w' w.heap.size w'.heap.size n (some ⟨b, 0, none⟩) (bys n S) := by
  have hmk := make_any (P := Tryd.prog) 22 5 _ 1 1 Tryd.underlying22 info5 .i64 .i64 n (by omega) (by omega)
  go_enter Tryd.func38, Tryd.ntmps38
  go_wp2
  go_loopw [4] (fun i wr => ∃ (k : Nat) (c : Array Value), k ≤ n ∧ i = .int .i64 k ∧ wr.heap[w.heap.size]? = some (.cells c 5 (0, 0)) ∧ c.size = n ∧ bys k S c ∧ Below w.heap.size w wr) (fun i _ => n - (intOf i).toNat)
  case atStart => exact ⟨0, _, Nat.zero_le _, rfl, heap_new w _, by simp [size_made], fun i hi => absurd hi (by omega), below_alloc _ _⟩
  case round =>
    obtain ⟨k, c, hk, rfl, hB, hcs, hst, hb⟩ := hrel
    by_cases hlt : k < n
    · obtain ⟨b, off, rfl, hcell⟩ := (hc.below hb) (by omega)
      have hck := hcell k hlt
      unfold by' at hck
      have hold : wr.cell? ⟨w.heap.size, k, none⟩ = some c[k] := cell_of_block hB (by simp)
      have hfree := free_of_block (i := k) hB
      clear hcell hc
      have HB : Hid (wr.heap[w.heap.size]? = some (.cells c 5 (0, 0))) := hB
      clear hB
      go_wp2
      go_roundw
      case rel =>
        refine ⟨k + 1, _, by omega, by go_num, block_set HB.out, by simpa using hcs, ?_, hb.setCell (Nat.le_refl _) _⟩
        intro i hi
        by_cases e : i = k
        · rw [e]; exact set_at (by omega) _
        · rw [set_ne e]; exact hst i (by omega)
      case measure => simp [intOf]; omega
    · go_wp2
      go_ret
      have hkn : k = n := by omega
      subst hkn
      exact ⟨hb, _, rfl, .inr ⟨_, c, Nat.le_refl _, (Array.getElem?_eq_some_iff.1 hB).1, rfl, hB, hst⟩⟩


set_option maxHeartbeats 400000 in
theorem implTh_out (a a' : Option Addr) (n m cap cap' : Nat) (xs ys : List Nat) (w : World) (hn : xs.length = n) (hm : ys.length = m) (hn2 : n ≤ 1048576) (hm2 : m ≤ 1048576) (h : ¬ (n = m ∧ n ≤ 20)) :
    Calls Tryd.prog 26 #[.slice a n cap, .slice a' m cap'] w fun e w' => ThRes w w' e xs ys := by
  have hno : ¬ goodT xs ys := fun hg => h ⟨by have := hg.1; omega, by have := hg.2.1; omega⟩
  have RN : Hid _ := ThRes.no (w := w) hno (Below.refl _ _)
  by_cases h1 : n = m
  · subst h1
    have h2 : (20 : Int) < (n : Int) := by omega
    clear h hno
    go_enter Tryd.func26, Tryd.ntmps26
    go_wp2
    refine bodyPost_ret (v := .tuple #[.slice none 0 0, .bool false]) (by simp [results, Tryd.results26, go_sem]) rfl RN.out
  · have h2 : ¬ (n : Int) = (m : Int) := by omega
    clear h hno
    go_enter Tryd.func26, Tryd.ntmps26
    go_wp2
    refine bodyPost_ret (v := .tuple #[.slice none 0 0, .bool false]) (by simp [results, Tryd.results26, go_sem]) rfl RN.out
set_option maxHeartbeats 400000 in
theorem specTh_out (a a' : Option Addr) (n m cap cap' : Nat) (xs ys : List Nat) (w : World) (hn : xs.length = n) (hm : ys.length = m) (hn2 : n ≤ 1048576) (hm2 : m ≤ 1048576) (h : ¬ (n = m ∧ n ≤ 20)) :
    Calls Tryd.prog 27 #[.slice a n cap, .slice a' m cap'] w fun e w' => ThRes w w' e xs ys := by
  have hno : ¬ goodT xs ys := fun hg => h ⟨by have := hg.1; omega, by have := hg.2.1; omega⟩
  have RN : Hid _ := ThRes.no (w := w) hno (Below.refl _ _)
  by_cases h1 : n = m
  · subst h1
    have h2 : (20 : Int) < (n : Int) := by omega
    clear h hno
    go_enter Tryd.func27, Tryd.ntmps27
    go_wp2
    refine bodyPost_ret (v := .tuple #[.slice none 0 0, .bool false]) (by simp [results, Tryd.results27, go_sem]) rfl RN.out
  · have h2 : ¬ (n : Int) = (m : Int) := by omega
    clear h hno
    go_enter Tryd.func27, Tryd.ntmps27
    go_wp2
    refine bodyPost_ret (v := .tuple #[.slice none 0 0, .bool false]) (by simp [results, Tryd.results27, go_sem]) rfl RN.out
end Go.Proofs.YtboladoddnnfcaaDoor
