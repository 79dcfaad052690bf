import Derived.Test.YtoodioaflaklmaaL2
/- Free room copied, with room enough in each row. -/
namespace Go.Proofs.Ytoodioaflaklmaa
open Go.ChangeShapes Go.WideShapes Go.ChangeAt Go.RowKit
set_option linter.unusedVariables false
open Room

attribute [local go_sem] Oper.semAt_some

theorem toExtentS_cap (a : Option Addr) (n cap : Nat) (f : Nat → Ex) (w : World) (hn : n ≤ 1048576) (hc : RowX w a n f) :
    Calls Try.prog 37 #[.slice a n cap] w fun e w' => Below w.heap.size w w' ∧ ∃ a' c', e = .returned (.slice a' n c') ∧ MineX w' w.heap.size w'.heap.size a' n f ∧ n ≤ c' := by
  have hmk := make_any (P := Try.prog) 27 41 _ 2 16 Try.underlying27 info31 .i64 .i64 n (by omega) (by omega)
  go_enter Try.func37, Try.ntmps37
  go_wp2
  go_loopw [4] (fun i wr => ∃ (k : Nat) (c : Array Value), k ≤ n ∧ i = .int .i64 k ∧ wr.heap[w.heap.size]? = some (.cells c 41 (0, 0)) ∧ c.size = n * 2 ∧ exsN k f c ∧ Below w.heap.size w wr) (fun i _ => n - (intOf i).toNat)
  case atStart => exact ⟨0, _, Nat.zero_le _, rfl, heap_alloc_new w _, by simp [size_made], fun i hi => absurd hi (by simp), (Below.refl _ _).alloc (Nat.le_refl _) _⟩
  case round =>
    obtain ⟨k, c, hk, rfl, hB, hcs, hst, hb⟩ := hrel
    by_cases hlt : k < n
    · obtain ⟨b, off, rfl, hcell⟩ := (hc.below hb) (by omega)
      obtain ⟨k0, k1⟩ := hcell k hlt
      clear hcell hc
      have HB : Hid (wr.heap[w.heap.size]? = some (.cells c 41 (0, 0))) := hB
      clear hB
      generalize hx : f k = x at k0 k1
      have HX : Hid _ := hx
      clear hx
      obtain ⟨p, q⟩ := x
      simp only at k0 k1
      go_wp2_with (go_at_call 20; refine (toExtent_any (p, q) _).mono ?_; rintro e w1 ⟨rfl, b1⟩; have HB1 : Hid (w1.heap[w.heap.size]? = some (.cells c 41 (0, 0))) := box_on HB.out b1; have g0 : w1.cell? ⟨w.heap.size, k * 2, none⟩ = some c[k * 2] := cell_of_block HB1.out (by simp); have g1 : w1.cell? ⟨w.heap.size, k * 2 + 1, none⟩ = some c[k * 2 + 1] := cell_of_block HB1.out (by simp); have f0 := free_of_block (i := k * 2) HB1.out; have f1 := free_of_block (i := k * 2 + 1) HB1.out)
      go_roundw
      case rel => exact ⟨k + 1, _, by omega, by go_num, block_set (block_set HB1.out), by simpa using hcs, exsN_put hst (by omega) hlt HX.out, ((Below.comp hb b1).setCell (by simp) _).setCell (by simp) _⟩
      case measure => simp [intOf]; omega
    · go_wp2
      go_ret
      have hkn : k = n := by omega
      subst hkn
      exact ⟨hb, _, _, rfl, .inr ⟨_, c, Nat.le_refl _, (Array.getElem?_eq_some_iff.1 hB).1, rfl, hB, hst⟩, Nat.le_refl _⟩

theorem toFree_cap (B : Int) (a : Option Addr) (n ca : Nat) (a' : Option Addr) (n' ca' : Nat) (f f' : Nat → Ex) (w : World) (hn : n ≤ 1048576) (hn' : n' ≤ 1048576) (ha : RowX w a n f) (ha' : RowX w a' n' f') :
    Calls Try.prog 12 #[fv B a n ca a' n' ca'] w fun e w' => Below w.heap.size w w' ∧ ∃ x cx x' cx' M, e = .returned (fv B x n cx x' n' cx') ∧ w.heap.size ≤ M ∧ M ≤ w'.heap.size ∧ MineX w' w.heap.size M x n f ∧ MineX w' M w'.heap.size x' n' f' ∧ n ≤ cx ∧ n' ≤ cx' := by
  obtain ⟨s, hs⟩ : ∃ s, w.heap.size = s := ⟨_, rfl⟩
  obtain ⟨W0, hW0⟩ : ∃ W0, ((w.alloc (.cells #[.int .i64 B, .slice a n ca, .slice a' n' ca'] 24)).alloc (.cells #[.int .i64 0, .slice none 0 0, .slice none 0 0] 29)).alloc (.cells #[.int .i64 B, .slice none 0 0, .slice none 0 0] 29) = W0 := ⟨_, rfl⟩
  have hb0 : Below s w W0 := by subst hW0 hs; exact ba3 _ _ _ _
  obtain ⟨B1, B2, B3⟩ : W0.heap[s]? = some (.cells #[.int .i64 B, .slice a n ca, .slice a' n' ca'] 24 (0, 0)) ∧ W0.heap[s + 1]? = some (.cells #[.int .i64 0, .slice none 0 0, .slice none 0 0] 29 (0, 0)) ∧ W0.heap[s + 1 + 1]? = some (.cells #[.int .i64 B, .slice none 0 0, .slice none 0 0] 29 (0, 0)) := by subst hW0 hs; exact al3 _ _ _ _
  have z0 : s + 1 + 1 < W0.heap.size := box_lt B3
  have H1 : Hid _ := B1
  have H2 : Hid _ := B2
  have H3 : Hid _ := B3
  obtain ⟨i0, i1, i2, -, -, -⟩ := box3_cells B1
  clear B1 B2 B3
  have hb0' : Below w.heap.size w W0 := hs ▸ hb0
  go_enter Try.func12, Try.ntmps12
  go_wp2_with fail
  refine (toExtentS_cap a n ca f _ hn (ha.below hb0')).mono ?_
  rintro e w1 ⟨b1, x, cx, rfl, m1, hc1⟩
  clear hW0 i0 i1 i2
  have z1 := b1.size
  obtain ⟨K1, K2, K3⟩ : Hid (w1.heap[s]? = _) ∧ Hid (w1.heap[s + 1]? = _) ∧ Hid (w1.heap[s + 1 + 1]? = _) := ⟨box_on H1.out b1, box_on H2.out b1, box_on H3.out b1⟩
  obtain ⟨r0, r1, r2, q0, q1, q2⟩ := box3_cells K3.out
  obtain ⟨W1, hW1⟩ : ∃ W1, w1.setCell ⟨s + 1 + 1, 1, none⟩ (.slice x n cx) = W1 := ⟨_, rfl⟩
  have L3 : Hid (W1.heap[s + 1 + 1]? = some (.cells #[.int .i64 B, .slice x n cx, .slice none 0 0] 29 (0, 0))) := by subst hW1; exact block_set K3.out
  have o1 : Out (s + 1 + 1) (s + 1 + 1 + 1) w1 W1 := by subst hW1; exact out_setCell _ _ _ _
  have L1 : Hid (W1.heap[s]? = _) := box_out K1.out o1 (by omega)
  have L2 : Hid (W1.heap[s + 1]? = _) := box_out K2.out o1 (by omega)
  obtain ⟨i0, i1, i2, -, -, -⟩ := box3_cells L1.out
  have g1 : Below w.heap.size w W1 := (Below.comp hb0' b1).trans (o1.below (by omega) |>.mono (by omega))
  have m1' : MineX W1 W0.heap.size W1.heap.size x n f := (m1.out o1 (.inr (by omega))).mono (Nat.le_refl _) o1.size
  have z2 := o1.size
  clear K1 K2 K3
  go_wp2_with fail
  refine (toExtentS_cap a' n' ca' f' _ hn' (ha'.below g1)).mono ?_
  rintro e w2 ⟨b2, x', cx', rfl, m2, hc2⟩
  clear hW1 r0 r1 r2 q0 q1 q2 i0 i1 i2
  have z3 := b2.size
  obtain ⟨K1, K2, K3⟩ : Hid (w2.heap[s]? = _) ∧ Hid (w2.heap[s + 1]? = _) ∧ Hid (w2.heap[s + 1 + 1]? = _) := ⟨box_on L1.out b2, box_on L2.out b2, box_on L3.out b2⟩
  obtain ⟨r0, r1, r2, q0, q1, q2⟩ := box3_cells K3.out
  obtain ⟨e0, e1, e2, d0, d1, d2⟩ := box3_cells K2.out
  go_wp2
  obtain ⟨W3, hW3⟩ : ∃ W3, (((w2.setCell ⟨s + 1 + 1, 2, none⟩ (.slice x' n' cx')).setCell ⟨s + 1, 0, none⟩ (.int .i64 B)).setCell ⟨s + 1, 1, none⟩ (.slice x n cx)).setCell ⟨s + 1, 2, none⟩ (.slice x' n' cx') = W3 := ⟨_, rfl⟩
  have o2 : Out (s + 1) (s + 1 + 1 + 1) w2 W3 := by
    subst hW3
    exact ((((Out.refl _ _ _).setCell (by omega) (by omega) _ _).setCell (by omega) (by omega) _ _).setCell (by omega) (by omega) _ _).setCell (by omega) (by omega) _ _
  have R : W3.heap[s + 1]? = some (.cells #[.int .i64 B, .slice x n cx, .slice x' n' cx'] 29 (0, 0)) := by
    subst hW3
    exact box3_set (box_out K2.out (out_setCell _ _ _ _) (by omega))
  rw [hW3]
  clear hW3 r0 r1 r2 q0 q1 q2 e0 e1 e2 d0 d1 d2
  obtain ⟨t0, t1, t2, -, -, -⟩ := box3_cells R
  have z4 := o2.size
  refine bodyPost_ret (v := fv B x n cx x' n' cx') (by simp [results, Try.results12, go_sem, t0, t1, t2]) rfl ⟨?_, x, cx, x', cx', W1.heap.size, rfl, by omega, by omega, ?_, ?_, hc1, hc2⟩
  · exact (Below.comp g1 b2).trans ((o2.below (by omega)).mono (by omega))
  · exact (((m1'.below b2).out o2 (.inr (by omega))).mono (by omega) (Nat.le_refl _))
  · exact (m2.out o2 (.inr (by omega))).mono (Nat.le_refl _) (by omega)

end Go.Proofs.Ytoodioaflaklmaa
