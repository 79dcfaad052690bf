import Derived.Test.YtmijalmihfgolaaDoorT1
/- Rows of writes that the laws make, with their room; a row by its places is a row by its list. -/
namespace Go.Proofs.YtmijalmihfgolaaDoor
open Go.ChangeShapes Go.WideShapes Go.ChangeAt Go.RowKit
set_option linter.unusedVariables false
open Tx

attribute [local go_sem] Oper.semAt_some

set_option maxHeartbeats 400000 in
theorem toWriteC_any (a : Option Addr) (n cap : Nat) (T : Nat → Int) (U : Nat → ByteArray) (w : World) (hn : n ≤ 1048576) (hc : At2 w a n T U) :
    Calls Tryd.prog 18 #[.slice a n cap] w fun e w' => Below w.heap.size w w' ∧ ∃ a', e = .returned (.slice a' n n) ∧ Mine w' w.heap.size w'.heap.size 63 n a' (wrts n T U) := by
  have hmk := make_any (P := Tryd.prog) 30 63 _ 2 24 Tryd.underlying30 info42 .i64 .i64 n (by omega) (by omega)
  go_enter Tryd.func18, Tryd.ntmps18
  go_wp2
  go_loopw [4] (fun i wr => ∃ (k : Nat) (c : Array Value), k ≤ n ∧ i = .int .i64 k ∧ wr.heap[w.heap.size]? = some (.cells c 63 (0, 0)) ∧ c.size = n * 2 ∧ wrts k T U c ∧ Below w.heap.size w wr) (fun i _ => n - (intOf i).toNat)
  case atStart => exact ⟨0, _, Nat.zero_le _, rfl, heap_alloc_new w _, by simp [size_made], fun i hi => absurd hi (by omega), below_alloc _ _⟩
  case round =>
    obtain ⟨k, c, hk, rfl, hB, hcs, hst, hb⟩ := hrel
    by_cases hlt : k < n
    · obtain ⟨b, off, rfl, hcell⟩ := (hc.below hb) (by omega)
      obtain ⟨hck, hck2⟩ := hcell k hlt
      clear hcell hc
      have HB : Hid (wr.heap[w.heap.size]? = some (.cells c 63 (0, 0))) := hB
      clear hB
      obtain ⟨x0, hx0⟩ : ∃ v, c[k * 2]? = some v := ⟨c[k * 2]'(by omega), by simp⟩
      obtain ⟨x1, hx1⟩ : ∃ v, c[k * 2 + 1]? = some v := ⟨c[k * 2 + 1]'(by omega), by simp⟩
      go_wp2_with fail
      refine (toWrite_any _ _ _).mono ?_
      rintro e w1 ⟨hb1, rfl⟩
      have HB1 : Hid (w1.heap[w.heap.size]? = some (.cells c 63 (0, 0))) := ((hb1.block _ (Array.getElem?_eq_some_iff.1 HB.out).1).trans HB.out)
      have g0 := cell_of_block HB1.out hx0
      have g1 := cell_of_block HB1.out hx1
      have f0 := free_of_block (i := k * 2) HB1.out
      have f1 := free_of_block (i := k * 2 + 1) HB1.out
      clear hx0 hx1 hck hck2
      go_wp2
      go_roundw
      case rel =>
        refine ⟨k + 1, _, by omega, by go_num, block_set (block_set HB1.out), by simpa using hcs, ?_, ((Below.comp hb hb1).setCell (Nat.le_refl _) _).setCell (Nat.le_refl _) _⟩
        intro i hi
        by_cases e : i = k
        · subst e
          exact ⟨by rw [set_ne (by omega)]; exact set_at (by omega) _, set_at (by simp; omega) _⟩
        · have := hst i (by omega)
          rw [set_ne (by omega), set_ne (by omega), set_ne (by omega), set_ne (by omega)]; exact this
      case measure => simp [intOf]; omega
    · go_wp2
      go_ret
      have hkn : k = n := by omega
      subst hkn
      exact ⟨hb, _, rfl, .inr ⟨_, c, Nat.le_refl _, (Array.getElem?_eq_some_iff.1 hB).1, rfl, hB, hst⟩⟩


theorem row_lw {w : World} {a : Option Addr} {n : Nat} {T : Nat → Int} {U : Nat → ByteArray} (h : At2 w a n T U) : RowW w a (lw n T U) := by
  intro hn
  rw [lw_len] at hn
  obtain ⟨b, off, e, hc⟩ := h hn
  refine ⟨b, off, e, fun i hi => ?_⟩
  rw [lw_len] at hi
  have := hc i hi
  unfold Tl Ul
  rw [lw_at hi]
  exact this
theorem few_lw {n : Nat} {T : Nat → Int} {U : Nat → ByteArray} (h : ∀ i, i < n → (U i).size ≤ 9223372036854775807) : Few (lw n T U) := fun i hi => by
  rw [lw_len] at hi
  rw [lw_at hi]
  exact h i hi
end Go.Proofs.YtmijalmihfgolaaDoor
