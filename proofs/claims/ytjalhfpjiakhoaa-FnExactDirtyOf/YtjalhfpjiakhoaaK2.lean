import Derived.Test.YtjalhfpjiakhoaaK1
namespace Go.Proofs.Ytjalhfpjiakhoaa
open Go.ChangeShapes Go.WideShapes Go.ChangeAt Go.RowKit
set_option linter.unusedVariables false

def upd (S : Nat → ByteArray) (t : Int) (u : ByteArray) : Nat → ByteArray := fun j => if (j : Int) = t then u else S j
def doneS (S : Nat → ByteArray) (T : Nat → Int) (U : Nat → ByteArray) : Nat → Nat → ByteArray
  | 0 => S
  | k + 1 => upd (doneS S T U k) (T k) (U k)

theorem fitB_spec {n : Nat} {t : Int} {u : ByteArray} (h : fitB n t u = true) : 0 ≤ t ∧ t < n ∧ u.size = 8 := of_decide_eq_true h
theorem goodB_spec {n m : Nat} {S : Nat → ByteArray} {T : Nat → Int} {U : Nat → ByteArray} (h : goodB n m S T U = true) :
    1 ≤ n ∧ n ≤ 32 ∧ m ≤ 60 ∧ (∀ i, i < n → (S i).size = 8) ∧ ∀ i, i < m → fitB n (T i) (U i) = true := of_decide_eq_true h

theorem strs_set {n : Nat} {S : Nat → ByteArray} {c : Array Value} (h : strs n S c) (hc : n ≤ c.size) {t : Nat} (ht : t < n) (u : ByteArray) : strs n (upd S t u) (c.setIfInBounds t (.string u)) := by
  intro i hi
  by_cases e : i = t
  · subst e; rw [set_at (by omega)]; simp [upd]
  · rw [set_ne e, h i hi]; simp [upd]; omega

/-- The cells of n strings, as a list. -/
def strCells (n : Nat) (S : Nat → ByteArray) : List Value := (List.range n).map fun i => .string (S i)
theorem strCells_len (n : Nat) (S : Nat → ByteArray) : (strCells n S).length = n := by simp [strCells]
theorem strCells_at (n : Nat) (S : Nat → ByteArray) {i : Nat} (h : i < n) : (strCells n S)[i]? = some (.string (S i)) := by simp [strCells, h]
theorem strCells_one (n : Nat) (S : Nat → ByteArray) : ∀ v ∈ strCells n S, v.oneCell' = true := by intro v hv; rw [strCells, List.mem_map] at hv; obtain ⟨i, _, rfl⟩ := hv; rfl
theorem strCells_src {w : World} {b off n : Nat} {S : Nat → ByteArray} (h : ∀ i, i < n → w.cell? ⟨b, off + i, none⟩ = some (.string (S i))) : ∀ j v, (strCells n S)[j]? = some v → w.cell? ((⟨b, off, none⟩ : Addr).add j) = some v := by
  intro j v hj
  have hlt : j < n := by have := (List.getElem?_eq_some_iff.1 hj).1; rw [strCells_len] at this; exact this
  rw [strCells_at n S hlt] at hj
  have e : (⟨b, off, none⟩ : Addr).add j = ⟨b, off + j, none⟩ := by unfold Addr.add; split <;> simp_all
  rw [e, h j hlt]; exact hj
theorem Grown.below {w w' : World} {row : Option Nat} {B : Nat} (h : w.grownBy w' row) (hB : B ≤ w.heap.size) (hr : ∀ k, row = some k → B ≤ k) : Below B w w' := (Below.refl _ _).grown h hB hr

set_option maxHeartbeats 800000 in
theorem l1Done_any (a a' : Option Addr) (n m ca ca' : Nat) (S : Nat → ByteArray) (T : Nat → Int) (U : Nat → ByteArray) (w : World) (hn0 : 1 ≤ n) (hn : n ≤ 32) (hm : m ≤ 60)
    (ha : At w a n fun i => .string (S i)) (ha' : At2 w a' m T U) (hf : ∀ i, i < m → fitB n (T i) (U i) = true) :
    Calls Try.prog 59 #[.slice a n ca, .slice a' m ca'] w fun e w' => Below w.heap.size w w' ∧ ∃ x cx, e = .returned (.slice x n cx) ∧ Mine w' w.heap.size w'.heap.size 9 n x (strs n (doneS S T U m)) := by
  obtain ⟨i0, hi, hz0, hz1, hz2⟩ := info_parts info9
  obtain ⟨b, off, rfl, hcell⟩ := (ha.below (below_alloc w (.cells #[] 9))) (by omega)
  have hsrc := strCells_src hcell
  have hown := World.ownsRow_made (e := 9) (size := 1) (base := w.heap.size) w #[] 0 (Nat.le_refl _) (by decide) (by simp)
  have Hf : Hid _ := hf
  clear ha hf
  go_enter Try.func59, Try.ntmps59
  go_wp2_with (at_builtin; refine wpList_append_own _ rfl _ _ 22 rfl w.heap.size 9 i0 _ 1 16 Try.underlying22 hi hz0 hz1 hz2 rfl (by decide) (.slice (some ⟨w.heap.size, 0, none⟩) 0 0) 0 [] rfl hown ⟨b, off, none⟩ n ca (strCells n S) rfl (by rw [strCells_len]; omega) hsrc (strCells_one _ _) (by unfold maxLen; omega) (by omega) (by simp) ?_; intro v' w1 hown1 hgrow1 _; obtain ⟨g, cg, cur, hv, hg0, hg1, hg2, hg3⟩ := owns_mine hown1 (by omega); subst hv; clear hown1)
  have g1 : Below w.heap.size w w1 := (below_alloc w _).trans (Grown.below hgrow1 (by simp) (by intro k hk; simp [Value.ownBlock] at hk; omega))
  have hst0 : strs n S cur := fun i hi => by rw [hg3 i (by omega)]; exact strCells_at n S hi
  have Hg : Hid (w1.heap[g]? = some (.cells cur 9 (0, 0))) := hg1
  have hg2' : n ≤ cur.size := by omega
  clear hgrow1 hown hsrc hcell hi hz0 hz1 hz2 hg1 hg2 hg3
  go_loopw [13] (fun i wr => ∃ (k : Nat) (c : Array Value), k ≤ m ∧ i = .int .i64 k ∧ wr.heap[g]? = some (.cells c 9 (0, 0)) ∧ n ≤ c.size ∧ strs n (doneS S T U k) c ∧ Below w.heap.size w wr) (fun i _ => m - (intOf i).toNat)
  case atStart => exact ⟨0, cur, Nat.zero_le _, rfl, Hg.out, hg2', hst0, g1⟩
  case round =>
    obtain ⟨k, c, hk, rfl, hB, hcs, hst, hb⟩ := hrel
    by_cases hlt : k < m
    · obtain ⟨b', off', rfl, hcell⟩ := (ha'.below hb) (by omega)
      obtain ⟨hck, hck2⟩ := hcell k hlt
      obtain ⟨ht0, ht1, ht2⟩ := fitB_spec (Hf.out k hlt)
      obtain ⟨t, ht⟩ : ∃ t : Nat, T k = t := ⟨(T k).toNat, by omega⟩
      have htn : t < n := by omega
      have HT : Hid (T k = t) := ht
      rw [ht] at hck
      obtain ⟨x0, hx0⟩ : ∃ v, c[t]? = some v := ⟨c[t]'(by omega), by simp⟩
      have hold := cell_of_block hB hx0
      have hfree := free_of_block (i := t) hB
      have hgl := lt_of_cell hold
      have HB : Hid _ := hB
      clear hcell hB hx0 ht ht0 ht1 ht2 ha'
      go_wp2
      go_roundw
      case rel =>
        refine ⟨k + 1, _, by omega, by go_num, ((below_alloc _ _).block _ (by simpa using hgl)).trans (block_set HB.out), by simpa using hcs, ?_, (hb.setCell (p := ⟨g, t, none⟩) hg0 _).alloc (by simp; exact hb.size) _⟩
        show strs n (upd (doneS S T U k) (T k) (U k)) _
        rw [HT.out]
        exact strs_set hst hcs htn _
      case measure => simp [intOf]; omega
    · go_wp2
      go_ret
      have hkn : k = m := by omega
      subst hkn
      exact ⟨hb, _, _, rfl, .inr ⟨g, c, hg0, (Array.getElem?_eq_some_iff.1 hB).1, rfl, hB, hst⟩⟩
end Go.Proofs.Ytjalhfpjiakhoaa
