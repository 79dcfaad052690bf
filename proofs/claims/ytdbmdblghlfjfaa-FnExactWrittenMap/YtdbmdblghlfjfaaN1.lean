import Derived.Test.YtdbmdblghlfjfaaP9
import Derived.Test.YtdbmdblghlfjfaaV4
import Derived.Test.YtdbmdblghlfjfaaL1
/- impl.writtenPieces. -/
namespace Go.Proofs.Ytdbmdblghlfjfaa
open Go.ChangeShapes Go.WideShapes Go.ChangeAt Go.RowKit
set_option linter.unusedVariables false
open Mp

attribute [local go_sem] Oper.semAt_some

theorem sz40 : (Try.prog.info? 40).map (·.size) = some 4 := by kernel_rfl
theorem len_wr (l : List Pc) : (wrL l).length = l.length := by simp [wrL]
theorem gp_wr {l : List Pc} {i : Nat} (h : i < l.length) : gp (wrL l) i = wrP (gp l i) := by
  rw [gp_eq h, gp_eq (by rw [len_wr]; exact h)]
  simp [wrL]
/-- So many are marked as written. -/
def wk (g : Nat → Pc) (k i : Nat) : Pc := if i < k then wrP (g i) else g i
theorem pcsN_z {n k : Nat} {g : Nat → Pc} {c : Array Value} (h : pcsN n (wk g k) c) (hc : n * 4 ≤ c.size) (hk : k < n) : pcsN n (wk g (k + 1)) (c.setIfInBounds (k * 4 + 3) (.bool false)) := by
  intro i hi
  obtain ⟨h0, h1, h2, h3⟩ := h i hi
  have e0 : (c.setIfInBounds (k * 4 + 3) (.bool false))[i * 4]? = c[i * 4]? := set_ne (by omega)
  have e1 : (c.setIfInBounds (k * 4 + 3) (.bool false))[i * 4 + 1]? = c[i * 4 + 1]? := set_ne (by omega)
  have e2 : (c.setIfInBounds (k * 4 + 3) (.bool false))[i * 4 + 2]? = c[i * 4 + 2]? := set_ne (by omega)
  rw [e0, e1, e2, h0, h1, h2]
  by_cases e : i = k
  · subst e
    have e3 : (c.setIfInBounds (i * 4 + 3) (.bool false))[i * 4 + 3]? = some (.bool false) := set_at (by omega) _
    rw [e3]
    unfold wk
    rw [if_neg (by omega), if_pos (by omega)]
    exact ⟨rfl, rfl, rfl, rfl⟩
  · have e3 : (c.setIfInBounds (k * 4 + 3) (.bool false))[i * 4 + 3]? = c[i * 4 + 3]? := set_ne (by omega)
    rw [e3, h3]
    unfold wk
    by_cases hik : i < k
    · rw [if_pos hik, if_pos (by omega)]; exact ⟨rfl, rfl, rfl, rfl⟩
    · rw [if_neg hik, if_neg (by omega)]; exact ⟨rfl, rfl, rfl, rfl⟩
set_option maxRecDepth 20000 in
set_option maxHeartbeats 2000000 in
theorem written_any (a : Option Addr) (cap : Nat) (l : List Pc) (w : World) (hl : l.length ≤ 1000) (ha : Pcs w a l) :
    Calls Try.prog 67 #[.slice a l.length cap] w fun e w' => Below w.heap.size w w' ∧ ∃ x, e = .returned (.slice x (wrL l).length (wrL l).length) ∧ MineP w' w.heap.size w'.heap.size x (wrL l).length (gp (wrL l)) := by
  have hmk := make_any (P := Try.prog) 27 40 _ 4 32 Try.underlying27 info40 .i64 .i64 l.length (by omega) (by omega)
  have hsrc := RowP.src (ha.below (below_alloc w (.cells (made (.agg #[.int .i64 0, .int .i64 0, .int .i64 0, .bool false]) (l.length * 4)) 40)))
  have HSrc : Hid _ := hsrc
  have Hlen : Hid ((cpp l).length = l.length * 4) := cpp_len l
  have Hone : Hid _ := cpp_one l
  have Hat : Hid (pcsN l.length (gp l) (cpp l ++ (made (.agg #[.int .i64 0, .int .i64 0, .int .i64 0, .bool false]) (l.length * 4)).toList.drop (cpp l).length).toArray) := fun i hi => by
    obtain ⟨h0, h1, h2, h3⟩ := cpp_at l i hi
    have hlen := cpp_len l
    refine ⟨?_, ?_, ?_, ?_⟩
    all_goals rw [List.getElem?_toArray, List.getElem?_append_left (by omega)]; assumption
  have Hg : Hid (∀ i, i < l.length → gp (wrL l) i = wrP (gp l i)) := fun i hi => gp_wr hi
  rw [len_wr]
  clear hsrc ha
  generalize gp (wrL l) = gw at *
  generalize gp l = g at *
  generalize cpp l = cs at *
  generalize l.length = n at *
  go_enter Try.func67, Try.ntmps67
  go_wp2_with (refine wpList_copy_mine rfl _ _ 27 27 rfl 40 4 Try.underlying27 sz40 w.heap.size n n a n cap rfl rfl (made (.agg #[.int .i64 0, .int .i64 0, .int .i64 0, .bool false]) (n * 4)) 40 cs (heap_alloc_new w _) Hlen.out (Nat.le_refl _) HSrc.out (by rw [Hlen.out, size_made]; omega) Hone.out ?_; intro w1 hB1 ho1)
  clear hmk
  have hB1' : Hid (∃ c, w1.heap[w.heap.size]? = some (.cells c 40 (0, 0)) ∧ c.size = n * 4 ∧ pcsN n (wk g 0) c) := ⟨_, hB1.out, by have := Hlen.out; simp [size_made]; omega, fun i hi => Hat.out i hi⟩
  have b1 : Below w.heap.size w w1 := (below_alloc w _).trans (ho1.below (by simp))
  clear hB1 ho1 HSrc Hone Hat Hlen
  go_loopw [13] (fun i wr => ∃ (k : Nat) (c : Array Value), k ≤ n ∧ i = .int .i64 k ∧ wr.heap[w.heap.size]? = some (.cells c 40 (0, 0)) ∧ c.size = n * 4 ∧ Hid (pcsN n (wk g k) c) ∧ Below w.heap.size w wr) (fun i _ => n - (intOf i).toNat)
  case atStart =>
    obtain ⟨c, h1, h2, h3⟩ := hB1'.out
    exact ⟨0, c, Nat.zero_le _, rfl, h1, h2, h3, b1⟩
  case round =>
    obtain ⟨k, c, hk, rfl, hB, hcs, hst, hb⟩ := hrel
    by_cases hlt : k < n
    · obtain ⟨-, -, -, ⟨v3, g3⟩, -, -, -, f3⟩ := cells4 hB (by omega) hlt
      have HB : Hid _ := hB
      clear hB
      go_wp2
      go_roundw
      case rel => exact ⟨k + 1, _, by omega, by go_num, block_set HB.out, by simpa using hcs, pcsN_z hst.out (by omega) hlt, hb.setCell (Nat.le_refl _) _⟩
      case measure => simp [intOf]; omega
    · obtain rfl : k = n := by omega
      go_wp2
      go_ret
      refine ⟨hb, _, rfl, .inr ⟨w.heap.size, c, Nat.le_refl _, box_lt hB, rfl, hB, fun i hi => ?_⟩⟩
      have := hst.out i hi
      rw [Hg.out i hi]
      unfold wk at this
      rwa [if_pos hi] at this
end Go.Proofs.Ytdbmdblghlfjfaa
