import Derived.Test.YtfmgaenedkjmkaaC1
/- The program: rows copied. -/
namespace Go.Proofs.Ytfmgaenedkjmkaa
open Go.ChangeShapes Go.WideShapes Go.ChangeAt Go.RowKit
set_option linter.unusedVariables false
open Hd

attribute [local go_sem] Oper.semAt_some

theorem sz3 : (Try.prog.info? 3).map (·.size) = some 1 := by kernel_rfl
set_option maxHeartbeats 1000000 in
theorem copyInt_any (a : Option Addr) (cap n : Nat) (cs : List Value) (w : World) (hl : cs.length = n) (h1 : ∀ u ∈ cs, u.oneCell' = true) (hn : n ≤ 1048576) (hsrc : n = 0 ∨ ∃ ad, a = some ad ∧ ∀ j u, cs[j]? = some u → w.cell? (ad.add j) = some u) :
    Calls Try.prog 70 #[.slice a n cap] w fun e w' => Below w.heap.size w w' ∧ e = .returned (.slice (some ⟨w.heap.size, 0, none⟩) n n) ∧ w'.heap[w.heap.size]? = some (.cells cs.toArray 3 (0, 0)) := by
  have hmk := make_any (P := Try.prog) 22 3 _ 1 8 Try.underlying22 info3 .i64 .i64 n (by omega) (by omega)
  simp only [Nat.mul_one] at hmk
  obtain ⟨W0, hW0⟩ : ∃ W0, w.alloc (.cells (made (.int .i64 0) n) 3) = W0 := ⟨_, rfl⟩
  have q0 : Below w.heap.size w W0 := by subst hW0; exact below_alloc _ _
  have HA : Hid (W0.heap[w.heap.size]? = some (.cells (made (.int .i64 0) n) 3 (0, 0))) := by subst hW0; exact al1 _ _
  have hs0 : n = 0 ∨ ∃ ad, a = some ad ∧ ∀ j u, cs[j]? = some u → W0.cell? (ad.add j) = some u := by
    rcases hsrc with h | ⟨ad, e, h⟩
    · exact .inl h
    · refine .inr ⟨ad, e, fun j u hj => ?_⟩
      have := h j u hj
      rw [q0.cell (p := ad.add j) (World.block_lt_of_cell? w _ this)]
      exact this
  have HS : Hid _ := hs0
  have HL : Hid _ := hl
  have H1 : Hid _ := h1
  have Hfit : Hid (cs.length ≤ (made (.int .i64 0) n).size) := by show _ ≤ _; rw [hl, size_made]; exact Nat.le_refl _
  have Hdrop : Hid ((cs ++ (made (.int .i64 0) n).toList.drop cs.length).toArray = cs.toArray) := by
    show _ = _
    rw [List.drop_of_length_le (by rw [hl]; simp [size_made]), List.append_nil]
  clear hl h1 hsrc hs0
  go_enter Try.func70, Try.ntmps70
  go_wp2_with (refine wpList_copy_mine rfl _ _ 22 22 rfl 3 1 Try.underlying22 sz3 w.heap.size n n a n cap rfl rfl (made (.int .i64 0) n) 3 cs HA.out (by rw [HL.out, Nat.mul_one]) (Nat.le_refl _) HS.out Hfit.out H1.out ?_; intro w1 HG o1)
  go_ret
  refine ⟨q0.trans (o1.below (by have := q0.size; omega) |>.mono (by omega)), rfl, ?_⟩
  rw [HG.out, Hdrop.out]
theorem sz67 : (Try.prog.info? 63).map (·.size) = some 2 := by kernel_rfl
set_option maxHeartbeats 1000000 in
theorem copyBk_any (a : Option Addr) (cap n : Nat) (cs : List Value) (w : World) (hl : cs.length = n * 2) (h1 : ∀ u ∈ cs, u.oneCell' = true) (hn : n ≤ 1048576) (hsrc : n = 0 ∨ ∃ ad, a = some ad ∧ ∀ j u, cs[j]? = some u → w.cell? (ad.add j) = some u) :
    Calls Try.prog 71 #[.slice a n cap] w fun e w' => Below w.heap.size w w' ∧ e = .returned (.slice (some ⟨w.heap.size, 0, none⟩) n n) ∧ w'.heap[w.heap.size]? = some (.cells cs.toArray 63 (0, 0)) := by
  have hmk := make_any (P := Try.prog) 30 63 _ 2 32 Try.underlying30 info67 .i64 .i64 n (by omega) (by omega)
  obtain ⟨W0, hW0⟩ : ∃ W0, w.alloc (.cells (made (.agg #[.int .i64 0, .slice none 0 0]) (n * 2)) 63) = W0 := ⟨_, rfl⟩
  have q0 : Below w.heap.size w W0 := by subst hW0; exact below_alloc _ _
  have HA : Hid (W0.heap[w.heap.size]? = some (.cells (made (.agg #[.int .i64 0, .slice none 0 0]) (n * 2)) 63 (0, 0))) := by subst hW0; exact al1 _ _
  have hs0 : n = 0 ∨ ∃ ad, a = some ad ∧ ∀ j u, cs[j]? = some u → W0.cell? (ad.add j) = some u := by
    rcases hsrc with h | ⟨ad, e, h⟩
    · exact .inl h
    · refine .inr ⟨ad, e, fun j u hj => ?_⟩
      have := h j u hj
      rw [q0.cell (p := ad.add j) (World.block_lt_of_cell? w _ this)]
      exact this
  have HS : Hid _ := hs0
  have HL : Hid _ := hl
  have H1 : Hid _ := h1
  have Hfit : Hid (cs.length ≤ (made (.agg #[.int .i64 0, .slice none 0 0]) (n * 2)).size) := by show _ ≤ _; rw [hl, size_made]; exact Nat.le_refl _
  have Hdrop : Hid ((cs ++ (made (.agg #[.int .i64 0, .slice none 0 0]) (n * 2)).toList.drop cs.length).toArray = cs.toArray) := by
    show _ = _
    rw [List.drop_of_length_le (by rw [hl]; simp [size_made]), List.append_nil]
  clear hl h1 hsrc hs0
  go_enter Try.func71, Try.ntmps71
  go_wp2_with (refine wpList_copy_mine rfl _ _ 30 30 rfl 63 2 Try.underlying30 sz67 w.heap.size n n a n cap rfl rfl (made (.agg #[.int .i64 0, .slice none 0 0]) (n * 2)) 63 cs HA.out HL.out (Nat.le_refl _) HS.out Hfit.out H1.out ?_; intro w1 HG o1)
  go_ret
  refine ⟨q0.trans (o1.below (by have := q0.size; omega) |>.mono (by omega)), rfl, ?_⟩
  rw [HG.out, Hdrop.out]
theorem sz47 : (Try.prog.info? 36).map (·.size) = some 2 := by kernel_rfl
set_option maxHeartbeats 1000000 in
theorem copyNm_any (a : Option Addr) (cap n : Nat) (cs : List Value) (w : World) (hl : cs.length = n * 2) (h1 : ∀ u ∈ cs, u.oneCell' = true) (hn : n ≤ 1048576) (hsrc : n = 0 ∨ ∃ ad, a = some ad ∧ ∀ j u, cs[j]? = some u → w.cell? (ad.add j) = some u) :
    Calls Try.prog 72 #[.slice a n cap] w fun e w' => Below w.heap.size w w' ∧ e = .returned (.slice (some ⟨w.heap.size, 0, none⟩) n n) ∧ w'.heap[w.heap.size]? = some (.cells cs.toArray 36 (0, 0)) := by
  have hmk := make_any (P := Try.prog) 48 36 _ 2 24 Try.underlying48 info47 .i64 .i64 n (by omega) (by omega)
  obtain ⟨W0, hW0⟩ : ∃ W0, w.alloc (.cells (made (.agg #[.string ⟨#[]⟩, .int .i64 0]) (n * 2)) 36) = W0 := ⟨_, rfl⟩
  have q0 : Below w.heap.size w W0 := by subst hW0; exact below_alloc _ _
  have HA : Hid (W0.heap[w.heap.size]? = some (.cells (made (.agg #[.string ⟨#[]⟩, .int .i64 0]) (n * 2)) 36 (0, 0))) := by subst hW0; exact al1 _ _
  have hs0 : n = 0 ∨ ∃ ad, a = some ad ∧ ∀ j u, cs[j]? = some u → W0.cell? (ad.add j) = some u := by
    rcases hsrc with h | ⟨ad, e, h⟩
    · exact .inl h
    · refine .inr ⟨ad, e, fun j u hj => ?_⟩
      have := h j u hj
      rw [q0.cell (p := ad.add j) (World.block_lt_of_cell? w _ this)]
      exact this
  have HS : Hid _ := hs0
  have HL : Hid _ := hl
  have H1 : Hid _ := h1
  have Hfit : Hid (cs.length ≤ (made (.agg #[.string ⟨#[]⟩, .int .i64 0]) (n * 2)).size) := by show _ ≤ _; rw [hl, size_made]; exact Nat.le_refl _
  have Hdrop : Hid ((cs ++ (made (.agg #[.string ⟨#[]⟩, .int .i64 0]) (n * 2)).toList.drop cs.length).toArray = cs.toArray) := by
    show _ = _
    rw [List.drop_of_length_le (by rw [hl]; simp [size_made]), List.append_nil]
  clear hl h1 hsrc hs0
  go_enter Try.func72, Try.ntmps72
  go_wp2_with (refine wpList_copy_mine rfl _ _ 48 48 rfl 36 2 Try.underlying48 sz47 w.heap.size n n a n cap rfl rfl (made (.agg #[.string ⟨#[]⟩, .int .i64 0]) (n * 2)) 36 cs HA.out HL.out (Nat.le_refl _) HS.out Hfit.out H1.out ?_; intro w1 HG o1)
  go_ret
  refine ⟨q0.trans (o1.below (by have := q0.size; omega) |>.mono (by omega)), rfl, ?_⟩
  rw [HG.out, Hdrop.out]
end Go.Proofs.Ytfmgaenedkjmkaa
