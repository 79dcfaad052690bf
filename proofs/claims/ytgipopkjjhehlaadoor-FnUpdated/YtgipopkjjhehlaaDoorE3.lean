import Derived.Test.YtgipopkjjhehlaaDoorE2
import Derived.Test.YtgipopkjjhehlaaDoorK1
namespace Go.Proofs.YtgipopkjjhehlaaDoor
open Go.ChangeShapes Go.WideShapes Go.ChangeAt Go.RowKit
set_option linter.unusedVariables false
open GF

set_option maxRecDepth 100000 in
set_option maxHeartbeats 2000000 in
theorem lawUpdated (a a' : Option Addr) (n n' cap cap' : Nat) (T T' : Nat → Nat) (w : World) (hn : n ≤ 9223372036854775807) (hn' : n' ≤ 9223372036854775807) (hT : ∀ i, T i < 256) (hT' : ∀ i, T' i < 256) (hc : At w a n (by' T)) (hc' : At w a' n' (by' T')) (ht : Tab w) (hz0 : 0 < w.heap.size) :
    Calls Tryd.prog 4 #[.slice a n cap, .slice a' n' cap'] w fun e w' => e = .returned (.bool true) ∧ Below w.heap.size w w' := by
  by_cases h : 1048576 < wrap64 ((n : Int) + (n' : Int))
  · go_enter Tryd.func4, Tryd.ntmps4
    go_wp2
    go_ret
    exact ⟨rfl, Below.refl _ _⟩
  go_enter Tryd.func4, Tryd.ntmps4
  go_wp2_with fail
  refine (drawUpd_any a n cap T _ hn hT hc).mono ?_
  rintro e w1 ⟨x, N, cx, S, P, Q, k, u, rfl, ⟨d1, d2, d3, d4, m1, g1⟩, hk, hu⟩
  clear h hc
  have G : Hid (Below w.heap.size w w1) := g1
  have AS : Hid (At w1 x N fun i => .string (S i)) := m1.strs
  have hSs : ∀ i, i < N → (S i).size ≤ 9223372036854775807 := fun i hi => by have := d2 i hi; omega
  clear g1 m1 d2
  unfold sv
  cases hok : okUpd N S P Q (k : Int) u
  · have CU : Hid (∀ W, At W x N (fun i => .string (S i)) → Tab W → 0 < W.heap.size → Calls Tryd.prog 18 #[sv x N cx P Q, .int .i64 (k : Int), .string u] W fun e w' => RO W e w' false 0 (upD S k u) (emp) (emp)) := fun W h1 h2 h3 => by
      have := implUpd_any x N cx S P Q (k : Int) u W (by omega) (by omega) (by omega) (by omega) hSs h1 h2 h3
      rw [hok] at this
      exact this
    have CS : Hid (∀ W, At W x N (fun i => .string (S i)) → Calls Tryd.prog 19 #[sv x N cx P Q, .int .i64 (k : Int), .string u] W fun e w' => RO W e w' false 0 (upD S k u) (emp) (emp)) := fun W h1 => by
      have := specUpd_any x N cx S P Q (k : Int) u W (by omega) h1
      rw [hok] at this
      exact this
    have hcv : chkV N S P Q = .tuple #[.bool (goodB N S P Q && rightB N S P Q), .bool (goodB N S P Q)] := rfl
    have CI : Hid (∀ W, At W x N (fun i => .string (S i)) → Tab W → 0 < W.heap.size → Calls Tryd.prog 9 #[sv x N cx P Q] W fun e w' => e = .returned (.tuple #[.bool (goodB N S P Q && rightB N S P Q), .bool (goodB N S P Q)]) ∧ Below W.heap.size W w') := fun W h1 h2 h3 => by
      have := implCheck_any x N cx S P Q W (by omega) (by omega) (by omega) hSs h1 h2 h3
      rw [hcv] at this
      exact this
    have CJ : Hid (∀ W, At W x N (fun i => .string (S i)) → Calls Tryd.prog 20 #[sv x N cx P Q] W fun e w' => e = .returned (.tuple #[.bool (goodB N S P Q && rightB N S P Q), .bool (goodB N S P Q)]) ∧ Below W.heap.size W w') := fun W h1 => by
      have := specCheck_any x N cx S P Q W (by omega) h1
      rw [hcv] at this
      exact this
    clear hcv hok
    generalize upD S k u = D1 at *
    generalize emp = em at *
    generalize (goodB N S P Q && rightB N S P Q) = cr at *
    generalize goodB N S P Q = cg at *
    obtain ⟨V1, hV1⟩ : ∃ V1, w1.alloc (.cells #[.slice x (N) cx, .string (P), .string (Q)] 26) = V1 := ⟨_, rfl⟩
    obtain ⟨kks, ekks⟩ : ∃ kks, w1.heap.size = kks := ⟨_, rfl⟩
    have Bs : Hid (V1.heap[kks]? = some (.cells #[.slice x (N) cx, .string (P), .string (Q)] 26 (0, 0))) := by show V1.heap[kks]? = _; rw [← hV1, ← ekks]; exact heap_alloc_new _ _
    have blV1 : Below w1.heap.size w1 V1 := by rw [← hV1]; exact below_alloc _ _
    replace AS : Hid (At V1 x N fun i => .string (S i)) := At.below AS.out blV1
    replace G : Hid (Below w.heap.size w V1) := Below.comp G.out blV1
    clear blV1
    obtain ⟨qs0, qs1, qs2, -, -, -⟩ := box3_cells Bs.out
    go_wp2_with fail
    refine (CU.out _ AS.out (ht.below G.out hz0) (Nat.lt_of_lt_of_le hz0 G.out.size)).mono ?_
    rintro e w2 ⟨c2, x1, cx1, rfl, m2⟩
    clear hV1 ekks
    clear qs0 qs1 qs2
    replace Bs : Hid (w2.heap[kks]? = some (.cells #[.slice x (N) cx, .string (P), .string (Q)] 26 (0, 0))) := box_on Bs.out c2
    replace AS : Hid (At w2 x N fun i => .string (S i)) := At.below AS.out c2
    replace G : Hid (Below w.heap.size w w2) := Below.comp G.out c2
    have AX : Hid (At w2 x1 0 fun i => .string (D1 i)) := m2.strs
    clear c2 m2
    obtain ⟨V2, hV2⟩ : ∃ V2, w2.alloc (.cells #[.slice x1 (0) cx1, .string (em), .string (em)] 26) = V2 := ⟨_, rfl⟩
    obtain ⟨kkx, ekkx⟩ : ∃ kkx, w2.heap.size = kkx := ⟨_, rfl⟩
    have Bx : Hid (V2.heap[kkx]? = some (.cells #[.slice x1 (0) cx1, .string (em), .string (em)] 26 (0, 0))) := by show V2.heap[kkx]? = _; rw [← hV2, ← ekkx]; exact heap_alloc_new _ _
    have blV2 : Below w2.heap.size w2 V2 := by rw [← hV2]; exact below_alloc _ _
    replace Bs : Hid (V2.heap[kks]? = some (.cells #[.slice x (N) cx, .string (P), .string (Q)] 26 (0, 0))) := box_on Bs.out blV2
    replace AS : Hid (At V2 x N fun i => .string (S i)) := At.below AS.out blV2
    replace AX : Hid (At V2 x1 0 fun i => .string (D1 i)) := At.below AX.out blV2
    replace G : Hid (Below w.heap.size w V2) := Below.comp G.out blV2
    clear blV2
    obtain ⟨qs0, qs1, qs2, -, -, -⟩ := box3_cells Bs.out
    obtain ⟨qx0, qx1, qx2, -, -, -⟩ := box3_cells Bx.out
    go_wp2_with fail
    refine (CS.out _ AS.out).mono ?_
    rintro e w3 ⟨c3, x2, cx2, rfl, m3⟩
    clear hV2 ekkx
    clear qs0 qs1 qs2
    clear qx0 qx1 qx2
    replace Bs : Hid (w3.heap[kks]? = some (.cells #[.slice x (N) cx, .string (P), .string (Q)] 26 (0, 0))) := box_on Bs.out c3
    replace Bx : Hid (w3.heap[kkx]? = some (.cells #[.slice x1 (0) cx1, .string (em), .string (em)] 26 (0, 0))) := box_on Bx.out c3
    replace AS : Hid (At w3 x N fun i => .string (S i)) := At.below AS.out c3
    replace AX : Hid (At w3 x1 0 fun i => .string (D1 i)) := At.below AX.out c3
    replace G : Hid (Below w.heap.size w w3) := Below.comp G.out c3
    have AY : Hid (At w3 x2 0 fun i => .string (D1 i)) := m3.strs
    clear c3 m3
    obtain ⟨V3, hV3⟩ : ∃ V3, w3.alloc (.cells #[.slice x2 (0) cx2, .string (em), .string (em)] 26) = V3 := ⟨_, rfl⟩
    obtain ⟨kky, ekky⟩ : ∃ kky, w3.heap.size = kky := ⟨_, rfl⟩
    have By : Hid (V3.heap[kky]? = some (.cells #[.slice x2 (0) cx2, .string (em), .string (em)] 26 (0, 0))) := by show V3.heap[kky]? = _; rw [← hV3, ← ekky]; exact heap_alloc_new _ _
    have blV3 : Below w3.heap.size w3 V3 := by rw [← hV3]; exact below_alloc _ _
    replace Bs : Hid (V3.heap[kks]? = some (.cells #[.slice x (N) cx, .string (P), .string (Q)] 26 (0, 0))) := box_on Bs.out blV3
    replace Bx : Hid (V3.heap[kkx]? = some (.cells #[.slice x1 (0) cx1, .string (em), .string (em)] 26 (0, 0))) := box_on Bx.out blV3
    replace AS : Hid (At V3 x N fun i => .string (S i)) := At.below AS.out blV3
    replace AX : Hid (At V3 x1 0 fun i => .string (D1 i)) := At.below AX.out blV3
    replace AY : Hid (At V3 x2 0 fun i => .string (D1 i)) := At.below AY.out blV3
    replace G : Hid (Below w.heap.size w V3) := Below.comp G.out blV3
    clear blV3
    obtain ⟨qs0, qs1, qs2, -, -, -⟩ := box3_cells Bs.out
    obtain ⟨qx0, qx1, qx2, -, -, -⟩ := box3_cells Bx.out
    obtain ⟨qy0, qy1, qy2, -, -, -⟩ := box3_cells By.out
    go_wp2_with fail
    refine (CI.out _ AS.out (ht.below G.out hz0) (Nat.lt_of_lt_of_le hz0 G.out.size)).mono ?_
    rintro e w4 ⟨rfl, c4⟩
    clear hV3 ekky
    clear qs0 qs1 qs2
    clear qx0 qx1 qx2
    clear qy0 qy1 qy2
    replace Bs : Hid (w4.heap[kks]? = some (.cells #[.slice x (N) cx, .string (P), .string (Q)] 26 (0, 0))) := box_on Bs.out c4
    replace Bx : Hid (w4.heap[kkx]? = some (.cells #[.slice x1 (0) cx1, .string (em), .string (em)] 26 (0, 0))) := box_on Bx.out c4
    replace By : Hid (w4.heap[kky]? = some (.cells #[.slice x2 (0) cx2, .string (em), .string (em)] 26 (0, 0))) := box_on By.out c4
    replace AS : Hid (At w4 x N fun i => .string (S i)) := At.below AS.out c4
    replace AX : Hid (At w4 x1 0 fun i => .string (D1 i)) := At.below AX.out c4
    replace AY : Hid (At w4 x2 0 fun i => .string (D1 i)) := At.below AY.out c4
    replace G : Hid (Below w.heap.size w w4) := Below.comp G.out c4
    clear c4
    obtain ⟨qs0, qs1, qs2, -, -, -⟩ := box3_cells Bs.out
    obtain ⟨qx0, qx1, qx2, -, -, -⟩ := box3_cells Bx.out
    obtain ⟨qy0, qy1, qy2, -, -, -⟩ := box3_cells By.out
    go_wp2_with fail
    refine (CJ.out _ AS.out).mono ?_
    rintro e w5 ⟨rfl, c5⟩
    clear qs0 qs1 qs2
    clear qx0 qx1 qx2
    clear qy0 qy1 qy2
    replace Bs : Hid (w5.heap[kks]? = some (.cells #[.slice x (N) cx, .string (P), .string (Q)] 26 (0, 0))) := box_on Bs.out c5
    replace Bx : Hid (w5.heap[kkx]? = some (.cells #[.slice x1 (0) cx1, .string (em), .string (em)] 26 (0, 0))) := box_on Bx.out c5
    replace By : Hid (w5.heap[kky]? = some (.cells #[.slice x2 (0) cx2, .string (em), .string (em)] 26 (0, 0))) := box_on By.out c5
    replace AS : Hid (At w5 x N fun i => .string (S i)) := At.below AS.out c5
    replace AX : Hid (At w5 x1 0 fun i => .string (D1 i)) := At.below AX.out c5
    replace AY : Hid (At w5 x2 0 fun i => .string (D1 i)) := At.below AY.out c5
    replace G : Hid (Below w.heap.size w w5) := Below.comp G.out c5
    clear c5
    obtain ⟨qs0, qs1, qs2, -, -, -⟩ := box3_cells Bs.out
    obtain ⟨qx0, qx1, qx2, -, -, -⟩ := box3_cells Bx.out
    obtain ⟨qy0, qy1, qy2, -, -, -⟩ := box3_cells By.out
    go_wp2_with fail
    refine (sameStripes_t x1 x2 0 cx1 cx2 D1 em em _ (by omega) AX.out AY.out).mono ?_
    rintro e w6 ⟨rfl, c6⟩
    clear qs0 qs1 qs2
    clear qx0 qx1 qx2
    clear qy0 qy1 qy2
    replace Bs : Hid (w6.heap[kks]? = some (.cells #[.slice x (N) cx, .string (P), .string (Q)] 26 (0, 0))) := box_on Bs.out c6
    replace Bx : Hid (w6.heap[kkx]? = some (.cells #[.slice x1 (0) cx1, .string (em), .string (em)] 26 (0, 0))) := box_on Bx.out c6
    replace By : Hid (w6.heap[kky]? = some (.cells #[.slice x2 (0) cx2, .string (em), .string (em)] 26 (0, 0))) := box_on By.out c6
    replace AS : Hid (At w6 x N fun i => .string (S i)) := At.below AS.out c6
    replace AX : Hid (At w6 x1 0 fun i => .string (D1 i)) := At.below AX.out c6
    replace AY : Hid (At w6 x2 0 fun i => .string (D1 i)) := At.below AY.out c6
    replace G : Hid (Below w.heap.size w w6) := Below.comp G.out c6
    clear c6
    clear CU CS CI CJ
    go_wp2_with fail
    refine (drawFind_any a' n' cap' T' _ hn' hT' (hc'.below G.out)).mono ?_
    rintro e y1 ⟨z, M, cz, R, PP, QQ, rfl, ⟨f1, f2, f3, f4, mz, gz⟩⟩
    replace G : Hid (Below w.heap.size w y1) := Below.comp G.out gz
    have AZ : Hid (At y1 z M fun i => .string (R i)) := mz.strs
    clear gz mz
    obtain ⟨V4, hV4⟩ : ∃ V4, y1.alloc (.cells #[.slice z (M) cz, .string (PP), .string (QQ)] 26) = V4 := ⟨_, rfl⟩
    obtain ⟨kkf, ekkf⟩ : ∃ kkf, y1.heap.size = kkf := ⟨_, rfl⟩
    have Bf : Hid (V4.heap[kkf]? = some (.cells #[.slice z (M) cz, .string (PP), .string (QQ)] 26 (0, 0))) := by show V4.heap[kkf]? = _; rw [← hV4, ← ekkf]; exact heap_alloc_new _ _
    have blV4 : Below y1.heap.size y1 V4 := by rw [← hV4]; exact below_alloc _ _
    replace AZ : Hid (At V4 z M fun i => .string (R i)) := At.below AZ.out blV4
    replace G : Hid (Below w.heap.size w V4) := Below.comp G.out blV4
    clear blV4
    have hRs : ∀ i, i < M → (R i).size ≤ 9223372036854775807 := fun i hi => by have := f2 i hi; omega
    cases hfw : fwN M R PP QQ with
    | none =>
      have F1 : Hid (∀ W, At W z M (fun i => .string (R i)) → Tab W → 0 < W.heap.size → Calls Tryd.prog 14 #[sv z M cz PP QQ] W fun e w' => e = .returned (.tuple #[.int .i64 0, .bool false]) ∧ Below W.heap.size W w') := fun W h1 h2 h3 => by
        have := implFind_any z M cz R PP QQ W (by omega) (by omega) (by omega) hRs h1 h2 h3
        unfold fwV at this
        rw [hfw] at this
        exact this
      have F2 : Hid (∀ W, At W z M (fun i => .string (R i)) → Calls Tryd.prog 22 #[sv z M cz PP QQ] W fun e w' => e = .returned (.tuple #[.int .i64 0, .bool false]) ∧ Below W.heap.size W w') := fun W h1 => by
        have := specFind_any z M cz R PP QQ W (by omega) h1
        unfold fwV at this
        rw [hfw] at this
        exact this
      obtain ⟨qf0, qf1, qf2, -, -, -⟩ := box3_cells Bf.out
      go_wp2_with fail
      refine (F1.out _ AZ.out (ht.below G.out hz0) (Nat.lt_of_lt_of_le hz0 G.out.size)).mono ?_
      rintro e y2 ⟨rfl, bz2⟩
      clear hV4 ekkf
      clear qf0 qf1 qf2
      replace Bf : Hid (y2.heap[kkf]? = some (.cells #[.slice z (M) cz, .string (PP), .string (QQ)] 26 (0, 0))) := box_on Bf.out bz2
      replace AZ : Hid (At y2 z M fun i => .string (R i)) := At.below AZ.out bz2
      replace G : Hid (Below w.heap.size w y2) := Below.comp G.out bz2
      clear bz2
      obtain ⟨qf0, qf1, qf2, -, -, -⟩ := box3_cells Bf.out
      go_wp2_with fail
      refine (F2.out _ AZ.out).mono ?_
      rintro e y3 ⟨rfl, bz3⟩
      clear qf0 qf1 qf2
      replace Bf : Hid (y3.heap[kkf]? = some (.cells #[.slice z (M) cz, .string (PP), .string (QQ)] 26 (0, 0))) := box_on Bf.out bz3
      replace AZ : Hid (At y3 z M fun i => .string (R i)) := At.below AZ.out bz3
      replace G : Hid (Below w.heap.size w y3) := Below.comp G.out bz3
      clear bz3 F1 F2
      go_wp2
      go_ret
      exact ⟨rfl, G.out⟩
    | some i =>
      have F1 : Hid (∀ W, At W z M (fun i => .string (R i)) → Tab W → 0 < W.heap.size → Calls Tryd.prog 14 #[sv z M cz PP QQ] W fun e w' => e = .returned (.tuple #[.int .i64 (i : Int), .bool true]) ∧ Below W.heap.size W w') := fun W h1 h2 h3 => by
        have := implFind_any z M cz R PP QQ W (by omega) (by omega) (by omega) hRs h1 h2 h3
        unfold fwV at this
        rw [hfw] at this
        exact this
      have F2 : Hid (∀ W, At W z M (fun i => .string (R i)) → Calls Tryd.prog 22 #[sv z M cz PP QQ] W fun e w' => e = .returned (.tuple #[.int .i64 (i : Int), .bool true]) ∧ Below W.heap.size W w') := fun W h1 => by
        have := specFind_any z M cz R PP QQ W (by omega) h1
        unfold fwV at this
        rw [hfw] at this
        exact this
      obtain ⟨qf0, qf1, qf2, -, -, -⟩ := box3_cells Bf.out
      go_wp2_with fail
      refine (F1.out _ AZ.out (ht.below G.out hz0) (Nat.lt_of_lt_of_le hz0 G.out.size)).mono ?_
      rintro e y2 ⟨rfl, bz2⟩
      clear hV4 ekkf
      clear qf0 qf1 qf2
      replace Bf : Hid (y2.heap[kkf]? = some (.cells #[.slice z (M) cz, .string (PP), .string (QQ)] 26 (0, 0))) := box_on Bf.out bz2
      replace AZ : Hid (At y2 z M fun i => .string (R i)) := At.below AZ.out bz2
      replace G : Hid (Below w.heap.size w y2) := Below.comp G.out bz2
      clear bz2
      obtain ⟨qf0, qf1, qf2, -, -, -⟩ := box3_cells Bf.out
      go_wp2_with fail
      refine (F2.out _ AZ.out).mono ?_
      rintro e y3 ⟨rfl, bz3⟩
      clear qf0 qf1 qf2
      replace Bf : Hid (y3.heap[kkf]? = some (.cells #[.slice z (M) cz, .string (PP), .string (QQ)] 26 (0, 0))) := box_on Bf.out bz3
      replace AZ : Hid (At y3 z M fun i => .string (R i)) := At.below AZ.out bz3
      replace G : Hid (Below w.heap.size w y3) := Below.comp G.out bz3
      clear bz3 F1 F2
      have hfd := found hfw
      obtain ⟨q1, q2, q3, q4, q5⟩ := hfd
      have CO : Hid (∀ W, At W z M (fun i => .string (R i)) → Tab W → 0 < W.heap.size → Calls Tryd.prog 13 #[sv z M cz PP QQ, .int .i64 (i : Int)] W fun e w' => RO W e w' true M (sD M R i (oneU M R PP i)) (sP M PP i (oneU M R PP i)) (sQ M QQ i (oneU M R PP i))) := fun W h1 h2 h3 => by
        have := implOne_any z M cz R PP QQ (i : Int) W (by omega) (by omega) (by omega) hRs h1 h2 h3
        rw [q3] at this
        exact this
      have hPs : (sP M PP i (oneU M R PP i)).size ≤ 40 ∧ (sQ M QQ i (oneU M R PP i)).size ≤ 40 ∧ ∀ j, j < M → (sD M R i (oneU M R PP i) j).size ≤ 40 := by
        obtain ⟨r1, r2, r3, r4, r5⟩ := goodB_spec q4
        exact ⟨r3, by omega, fun j hj => by have := r4 j hj; omega⟩
      have hcv : chkV M (sD M R i (oneU M R PP i)) (sP M PP i (oneU M R PP i)) (sQ M QQ i (oneU M R PP i)) = .tuple #[.bool true, .bool true] := by unfold chkV; rw [q4, q5]; rfl
      have CK : Hid (∀ (v : Option Addr) (cv : Nat) (W : World), At W v M (fun j => .string (sD M R i (oneU M R PP i) j)) → Tab W → 0 < W.heap.size → Calls Tryd.prog 9 #[sv v M cv (sP M PP i (oneU M R PP i)) (sQ M QQ i (oneU M R PP i))] W fun e w' => e = .returned (.tuple #[.bool true, .bool true]) ∧ Below W.heap.size W w') := fun v cv W h1 h2 h3 => by
        have := implCheck_any v M cv (sD M R i (oneU M R PP i)) (sP M PP i (oneU M R PP i)) (sQ M QQ i (oneU M R PP i)) W (by omega) (by have := hPs.1; omega) (by have := hPs.2.1; omega) (fun j hj => by have := hPs.2.2 j hj; omega) h1 h2 h3
        rw [hcv] at this
        exact this
      clear hcv hPs q1 q2 q3 q4 q5 hfw
      generalize sD M R i (oneU M R PP i) = E1 at *
      generalize sP M PP i (oneU M R PP i) = E2 at *
      generalize sQ M QQ i (oneU M R PP i) = E3 at *
      obtain ⟨qf0, qf1, qf2, -, -, -⟩ := box3_cells Bf.out
      go_wp2_with fail
      refine (CO.out _ AZ.out (ht.below G.out hz0) (Nat.lt_of_lt_of_le hz0 G.out.size)).mono ?_
      rintro e y4 ⟨bz4, v, cv, rfl, mv⟩
      clear qf0 qf1 qf2
      replace G : Hid (Below w.heap.size w y4) := Below.comp G.out bz4
      have AV : Hid (At y4 v M fun j => .string (E1 j)) := mv.strs
      clear bz4 mv
      obtain ⟨V5, hV5⟩ : ∃ V5, y4.alloc (.cells #[.slice v (M) cv, .string (E2), .string (E3)] 26) = V5 := ⟨_, rfl⟩
      obtain ⟨kkg, ekkg⟩ : ∃ kkg, y4.heap.size = kkg := ⟨_, rfl⟩
      have Bg : Hid (V5.heap[kkg]? = some (.cells #[.slice v (M) cv, .string (E2), .string (E3)] 26 (0, 0))) := by show V5.heap[kkg]? = _; rw [← hV5, ← ekkg]; exact heap_alloc_new _ _
      have blV5 : Below y4.heap.size y4 V5 := by rw [← hV5]; exact below_alloc _ _
      replace AV : Hid (At V5 v M fun i => .string (E1 i)) := At.below AV.out blV5
      replace G : Hid (Below w.heap.size w V5) := Below.comp G.out blV5
      clear blV5
      obtain ⟨qg0, qg1, qg2, -, -, -⟩ := box3_cells Bg.out
      go_wp2_with fail
      refine (CK.out v cv _ AV.out (ht.below G.out hz0) (Nat.lt_of_lt_of_le hz0 G.out.size)).mono ?_
      rintro e y5 ⟨rfl, bz5⟩
      clear hV5 ekkg
      have GF := Below.comp G.out bz5
      clear bz5
      go_wp2
      go_ret
      exact ⟨rfl, GF⟩
  · have CU : Hid (∀ W, At W x N (fun i => .string (S i)) → Tab W → 0 < W.heap.size → Calls Tryd.prog 18 #[sv x N cx P Q, .int .i64 (k : Int), .string u] W fun e w' => RO W e w' true N (upD S k u) (updP S P k u) (updQ S P Q k u)) := fun W h1 h2 h3 => by
      have := implUpd_any x N cx S P Q (k : Int) u W (by omega) (by omega) (by omega) (by omega) hSs h1 h2 h3
      rw [hok] at this
      exact this
    have CS : Hid (∀ W, At W x N (fun i => .string (S i)) → Calls Tryd.prog 19 #[sv x N cx P Q, .int .i64 (k : Int), .string u] W fun e w' => RO W e w' true N (upD S k u) (updP S P k u) (updQ S P Q k u)) := fun W h1 => by
      have := specUpd_any x N cx S P Q (k : Int) u W (by omega) h1
      rw [hok] at this
      exact this
    obtain ⟨hg, hkN, huP⟩ := okUpd_in hok
    have hg' := upd_good (i := k) hg huP
    have hr' := upd_right hg hkN huP
    obtain ⟨gs1, gs2, gs3, gs4, gs5⟩ := goodB_spec hg'
    have hdt := good_data' hg'
    have hmr := made_right (n := N) (D := upD S k u) (P := updP S P k u) (Q := updQ S P Q k u) hg'
    have hDk : upD S k u k = u := if_pos rfl
    have hcv : chkV N S P Q = .tuple #[.bool (rightB N S P Q), .bool true] := by unfold chkV; rw [hg]; rfl
    have hcv2 : chkV N (upD S k u) (updP S P k u) (updQ S P Q k u) = .tuple #[.bool (rightB N S P Q), .bool true] := by unfold chkV; rw [hg', hr']; rfl
    rw [hr'] at hmr
    have CM : Hid (∀ (v : Option Addr) (cv : Nat) (W : World), At W v N (fun j => .string (upD S k u j)) → Tab W → 0 < W.heap.size → Calls Tryd.prog 6 #[.slice v N cv] W fun e w' => RO W e w' true N (upD S k u) (mkP N (upD S k u)) (mkQ N (upD S k u))) := fun v cv W h1 h2 h3 => by
      have := implMake_any v N cv (upD S k u) W (by omega) (fun j hj => by have := gs4 j hj; omega) h1 h2 h3
      rw [hdt] at this
      exact this
    have CX : Hid (∀ (v : Option Addr) (cv : Nat) (W : World), At W v N (fun j => .string (upD S k u j)) → Tab W → 0 < W.heap.size → Calls Tryd.prog 9 #[sv v N cv (updP S P k u) (updQ S P Q k u)] W fun e w' => e = .returned (.tuple #[.bool (rightB N S P Q), .bool true]) ∧ Below W.heap.size W w') := fun v cv W h1 h2 h3 => by
      have := implCheck_any v N cv (upD S k u) (updP S P k u) (updQ S P Q k u) W (by omega) (by omega) (by omega) (fun j hj => by have := gs4 j hj; omega) h1 h2 h3
      rw [hcv2] at this
      exact this
    have CI : Hid (∀ W, At W x N (fun i => .string (S i)) → Tab W → 0 < W.heap.size → Calls Tryd.prog 9 #[sv x N cx P Q] W fun e w' => e = .returned (.tuple #[.bool (rightB N S P Q), .bool (true)]) ∧ Below W.heap.size W w') := fun W h1 h2 h3 => by
      have := implCheck_any x N cx S P Q W (by omega) (by omega) (by omega) hSs h1 h2 h3
      rw [hcv] at this
      exact this
    have CJ : Hid (∀ W, At W x N (fun i => .string (S i)) → Calls Tryd.prog 20 #[sv x N cx P Q] W fun e w' => e = .returned (.tuple #[.bool (rightB N S P Q), .bool (true)]) ∧ Below W.heap.size W w') := fun W h1 => by
      have := specCheck_any x N cx S P Q W (by omega) h1
      rw [hcv] at this
      exact this
    have HMR : Hid _ := hmr
    have hLP : (updP S P k u).size ≤ 100 := by omega
    clear hcv hcv2 hr' hg hg' hdt huP gs1 gs2 gs3 gs4 gs5 hmr hok
    generalize hPe : updP S P k u = P1 at *
    generalize hQe : updQ S P Q k u = Q1 at *
    generalize hDe : upD S k u = D1 at *
    generalize rightB N S P Q = cr at *
    generalize mkP N D1 = mP at *
    generalize mkQ N D1 = mQ at *
    clear hPe hQe hDe
    obtain ⟨V1, hV1⟩ : ∃ V1, w1.alloc (.cells #[.slice x (N) cx, .string (P), .string (Q)] 26) = V1 := ⟨_, rfl⟩
    obtain ⟨kks, ekks⟩ : ∃ kks, w1.heap.size = kks := ⟨_, rfl⟩
    have Bs : Hid (V1.heap[kks]? = some (.cells #[.slice x (N) cx, .string (P), .string (Q)] 26 (0, 0))) := by show V1.heap[kks]? = _; rw [← hV1, ← ekks]; exact heap_alloc_new _ _
    have blV1 : Below w1.heap.size w1 V1 := by rw [← hV1]; exact below_alloc _ _
    replace AS : Hid (At V1 x N fun i => .string (S i)) := At.below AS.out blV1
    replace G : Hid (Below w.heap.size w V1) := Below.comp G.out blV1
    clear blV1
    obtain ⟨qs0, qs1, qs2, -, -, -⟩ := box3_cells Bs.out
    go_wp2_with fail
    refine (CU.out _ AS.out (ht.below G.out hz0) (Nat.lt_of_lt_of_le hz0 G.out.size)).mono ?_
    rintro e w2 ⟨c2, x1, cx1, rfl, m2⟩
    clear hV1 ekks
    clear qs0 qs1 qs2
    replace Bs : Hid (w2.heap[kks]? = some (.cells #[.slice x (N) cx, .string (P), .string (Q)] 26 (0, 0))) := box_on Bs.out c2
    replace AS : Hid (At w2 x N fun i => .string (S i)) := At.below AS.out c2
    replace G : Hid (Below w.heap.size w w2) := Below.comp G.out c2
    have AX : Hid (At w2 x1 N fun i => .string (D1 i)) := m2.strs
    clear c2 m2
    obtain ⟨V2, hV2⟩ : ∃ V2, w2.alloc (.cells #[.slice x1 (N) cx1, .string (P1), .string (Q1)] 26) = V2 := ⟨_, rfl⟩
    obtain ⟨kkx, ekkx⟩ : ∃ kkx, w2.heap.size = kkx := ⟨_, rfl⟩
    have Bx : Hid (V2.heap[kkx]? = some (.cells #[.slice x1 (N) cx1, .string (P1), .string (Q1)] 26 (0, 0))) := by show V2.heap[kkx]? = _; rw [← hV2, ← ekkx]; exact heap_alloc_new _ _
    have blV2 : Below w2.heap.size w2 V2 := by rw [← hV2]; exact below_alloc _ _
    replace Bs : Hid (V2.heap[kks]? = some (.cells #[.slice x (N) cx, .string (P), .string (Q)] 26 (0, 0))) := box_on Bs.out blV2
    replace AS : Hid (At V2 x N fun i => .string (S i)) := At.below AS.out blV2
    replace AX : Hid (At V2 x1 N fun i => .string (D1 i)) := At.below AX.out blV2
    replace G : Hid (Below w.heap.size w V2) := Below.comp G.out blV2
    clear blV2
    obtain ⟨qs0, qs1, qs2, -, -, -⟩ := box3_cells Bs.out
    obtain ⟨qx0, qx1, qx2, -, -, -⟩ := box3_cells Bx.out
    go_wp2_with fail
    refine (CS.out _ AS.out).mono ?_
    rintro e w3 ⟨c3, x2, cx2, rfl, m3⟩
    clear hV2 ekkx
    clear qs0 qs1 qs2
    clear qx0 qx1 qx2
    replace Bs : Hid (w3.heap[kks]? = some (.cells #[.slice x (N) cx, .string (P), .string (Q)] 26 (0, 0))) := box_on Bs.out c3
    replace Bx : Hid (w3.heap[kkx]? = some (.cells #[.slice x1 (N) cx1, .string (P1), .string (Q1)] 26 (0, 0))) := box_on Bx.out c3
    replace AS : Hid (At w3 x N fun i => .string (S i)) := At.below AS.out c3
    replace AX : Hid (At w3 x1 N fun i => .string (D1 i)) := At.below AX.out c3
    replace G : Hid (Below w.heap.size w w3) := Below.comp G.out c3
    have AY : Hid (At w3 x2 N fun i => .string (D1 i)) := m3.strs
    clear c3 m3
    obtain ⟨V3, hV3⟩ : ∃ V3, w3.alloc (.cells #[.slice x2 (N) cx2, .string (P1), .string (Q1)] 26) = V3 := ⟨_, rfl⟩
    obtain ⟨kky, ekky⟩ : ∃ kky, w3.heap.size = kky := ⟨_, rfl⟩
    have By : Hid (V3.heap[kky]? = some (.cells #[.slice x2 (N) cx2, .string (P1), .string (Q1)] 26 (0, 0))) := by show V3.heap[kky]? = _; rw [← hV3, ← ekky]; exact heap_alloc_new _ _
    have blV3 : Below w3.heap.size w3 V3 := by rw [← hV3]; exact below_alloc _ _
    replace Bs : Hid (V3.heap[kks]? = some (.cells #[.slice x (N) cx, .string (P), .string (Q)] 26 (0, 0))) := box_on Bs.out blV3
    replace Bx : Hid (V3.heap[kkx]? = some (.cells #[.slice x1 (N) cx1, .string (P1), .string (Q1)] 26 (0, 0))) := box_on Bx.out blV3
    replace AS : Hid (At V3 x N fun i => .string (S i)) := At.below AS.out blV3
    replace AX : Hid (At V3 x1 N fun i => .string (D1 i)) := At.below AX.out blV3
    replace AY : Hid (At V3 x2 N fun i => .string (D1 i)) := At.below AY.out blV3
    replace G : Hid (Below w.heap.size w V3) := Below.comp G.out blV3
    clear blV3
    obtain ⟨qs0, qs1, qs2, -, -, -⟩ := box3_cells Bs.out
    obtain ⟨qx0, qx1, qx2, -, -, -⟩ := box3_cells Bx.out
    obtain ⟨qy0, qy1, qy2, -, -, -⟩ := box3_cells By.out
    go_wp2_with fail
    refine (CI.out _ AS.out (ht.below G.out hz0) (Nat.lt_of_lt_of_le hz0 G.out.size)).mono ?_
    rintro e w4 ⟨rfl, c4⟩
    clear hV3 ekky
    clear qs0 qs1 qs2
    clear qx0 qx1 qx2
    clear qy0 qy1 qy2
    replace Bs : Hid (w4.heap[kks]? = some (.cells #[.slice x (N) cx, .string (P), .string (Q)] 26 (0, 0))) := box_on Bs.out c4
    replace Bx : Hid (w4.heap[kkx]? = some (.cells #[.slice x1 (N) cx1, .string (P1), .string (Q1)] 26 (0, 0))) := box_on Bx.out c4
    replace By : Hid (w4.heap[kky]? = some (.cells #[.slice x2 (N) cx2, .string (P1), .string (Q1)] 26 (0, 0))) := box_on By.out c4
    replace AS : Hid (At w4 x N fun i => .string (S i)) := At.below AS.out c4
    replace AX : Hid (At w4 x1 N fun i => .string (D1 i)) := At.below AX.out c4
    replace AY : Hid (At w4 x2 N fun i => .string (D1 i)) := At.below AY.out c4
    replace G : Hid (Below w.heap.size w w4) := Below.comp G.out c4
    clear c4
    obtain ⟨qs0, qs1, qs2, -, -, -⟩ := box3_cells Bs.out
    obtain ⟨qx0, qx1, qx2, -, -, -⟩ := box3_cells Bx.out
    obtain ⟨qy0, qy1, qy2, -, -, -⟩ := box3_cells By.out
    go_wp2_with fail
    refine (CJ.out _ AS.out).mono ?_
    rintro e w5 ⟨rfl, c5⟩
    clear qs0 qs1 qs2
    clear qx0 qx1 qx2
    clear qy0 qy1 qy2
    replace Bs : Hid (w5.heap[kks]? = some (.cells #[.slice x (N) cx, .string (P), .string (Q)] 26 (0, 0))) := box_on Bs.out c5
    replace Bx : Hid (w5.heap[kkx]? = some (.cells #[.slice x1 (N) cx1, .string (P1), .string (Q1)] 26 (0, 0))) := box_on Bx.out c5
    replace By : Hid (w5.heap[kky]? = some (.cells #[.slice x2 (N) cx2, .string (P1), .string (Q1)] 26 (0, 0))) := box_on By.out c5
    replace AS : Hid (At w5 x N fun i => .string (S i)) := At.below AS.out c5
    replace AX : Hid (At w5 x1 N fun i => .string (D1 i)) := At.below AX.out c5
    replace AY : Hid (At w5 x2 N fun i => .string (D1 i)) := At.below AY.out c5
    replace G : Hid (Below w.heap.size w w5) := Below.comp G.out c5
    clear c5
    obtain ⟨qs0, qs1, qs2, -, -, -⟩ := box3_cells Bs.out
    obtain ⟨qx0, qx1, qx2, -, -, -⟩ := box3_cells Bx.out
    obtain ⟨qy0, qy1, qy2, -, -, -⟩ := box3_cells By.out
    go_wp2_with fail
    refine (sameStripes_t x1 x2 N cx1 cx2 D1 P1 Q1 _ (by omega) AX.out AY.out).mono ?_
    rintro e w6 ⟨rfl, c6⟩
    clear qs0 qs1 qs2
    clear qx0 qx1 qx2
    clear qy0 qy1 qy2
    replace Bs : Hid (w6.heap[kks]? = some (.cells #[.slice x (N) cx, .string (P), .string (Q)] 26 (0, 0))) := box_on Bs.out c6
    replace Bx : Hid (w6.heap[kkx]? = some (.cells #[.slice x1 (N) cx1, .string (P1), .string (Q1)] 26 (0, 0))) := box_on Bx.out c6
    replace By : Hid (w6.heap[kky]? = some (.cells #[.slice x2 (N) cx2, .string (P1), .string (Q1)] 26 (0, 0))) := box_on By.out c6
    replace AS : Hid (At w6 x N fun i => .string (S i)) := At.below AS.out c6
    replace AX : Hid (At w6 x1 N fun i => .string (D1 i)) := At.below AX.out c6
    replace AY : Hid (At w6 x2 N fun i => .string (D1 i)) := At.below AY.out c6
    replace G : Hid (Below w.heap.size w w6) := Below.comp G.out c6
    clear c6
    clear CU CS CI CJ
    obtain ⟨qs0, qs1, qs2, -, -, -⟩ := box3_cells Bs.out
    obtain ⟨qx0, qx1, qx2, -, -, -⟩ := box3_cells Bx.out
    obtain ⟨qy0, qy1, qy2, -, -, -⟩ := box3_cells By.out
    go_wp2_with fail
    refine (CX.out x1 cx1 _ AX.out (ht.below G.out hz0) (Nat.lt_of_lt_of_le hz0 G.out.size)).mono ?_
    rintro e w7 ⟨rfl, c7⟩
    clear qs0 qs1 qs2
    clear qx0 qx1 qx2
    clear qy0 qy1 qy2
    replace Bs : Hid (w7.heap[kks]? = some (.cells #[.slice x (N) cx, .string (P), .string (Q)] 26 (0, 0))) := box_on Bs.out c7
    replace Bx : Hid (w7.heap[kkx]? = some (.cells #[.slice x1 (N) cx1, .string (P1), .string (Q1)] 26 (0, 0))) := box_on Bx.out c7
    replace By : Hid (w7.heap[kky]? = some (.cells #[.slice x2 (N) cx2, .string (P1), .string (Q1)] 26 (0, 0))) := box_on By.out c7
    replace AS : Hid (At w7 x N fun i => .string (S i)) := At.below AS.out c7
    replace AX : Hid (At w7 x1 N fun i => .string (D1 i)) := At.below AX.out c7
    replace AY : Hid (At w7 x2 N fun i => .string (D1 i)) := At.below AY.out c7
    replace G : Hid (Below w.heap.size w w7) := Below.comp G.out c7
    clear c7
    obtain ⟨qs0, qs1, qs2, -, -, -⟩ := box3_cells Bs.out
    obtain ⟨qx0, qx1, qx2, -, -, -⟩ := box3_cells Bx.out
    obtain ⟨qy0, qy1, qy2, -, -, -⟩ := box3_cells By.out
    go_wp2_with fail
    refine (CM.out x1 cx1 _ AX.out (ht.below G.out hz0) (Nat.lt_of_lt_of_le hz0 G.out.size)).mono ?_
    rintro e w8 ⟨c8, x3, cx3, rfl, m8⟩
    clear qs0 qs1 qs2
    clear qx0 qx1 qx2
    clear qy0 qy1 qy2
    replace Bs : Hid (w8.heap[kks]? = some (.cells #[.slice x (N) cx, .string (P), .string (Q)] 26 (0, 0))) := box_on Bs.out c8
    replace Bx : Hid (w8.heap[kkx]? = some (.cells #[.slice x1 (N) cx1, .string (P1), .string (Q1)] 26 (0, 0))) := box_on Bx.out c8
    replace By : Hid (w8.heap[kky]? = some (.cells #[.slice x2 (N) cx2, .string (P1), .string (Q1)] 26 (0, 0))) := box_on By.out c8
    replace AS : Hid (At w8 x N fun i => .string (S i)) := At.below AS.out c8
    replace AX : Hid (At w8 x1 N fun i => .string (D1 i)) := At.below AX.out c8
    replace AY : Hid (At w8 x2 N fun i => .string (D1 i)) := At.below AY.out c8
    replace G : Hid (Below w.heap.size w w8) := Below.comp G.out c8
    have AM : Hid (At w8 x3 N fun i => .string (D1 i)) := m8.strs
    clear c8 m8
    obtain ⟨V4, hV4⟩ : ∃ V4, w8.alloc (.cells #[.slice x3 (N) cx3, .string (mP), .string (mQ)] 26) = V4 := ⟨_, rfl⟩
    obtain ⟨kkm, ekkm⟩ : ∃ kkm, w8.heap.size = kkm := ⟨_, rfl⟩
    have Bm : Hid (V4.heap[kkm]? = some (.cells #[.slice x3 (N) cx3, .string (mP), .string (mQ)] 26 (0, 0))) := by show V4.heap[kkm]? = _; rw [← hV4, ← ekkm]; exact heap_alloc_new _ _
    have blV4 : Below w8.heap.size w8 V4 := by rw [← hV4]; exact below_alloc _ _
    replace Bs : Hid (V4.heap[kks]? = some (.cells #[.slice x (N) cx, .string (P), .string (Q)] 26 (0, 0))) := box_on Bs.out blV4
    replace Bx : Hid (V4.heap[kkx]? = some (.cells #[.slice x1 (N) cx1, .string (P1), .string (Q1)] 26 (0, 0))) := box_on Bx.out blV4
    replace By : Hid (V4.heap[kky]? = some (.cells #[.slice x2 (N) cx2, .string (P1), .string (Q1)] 26 (0, 0))) := box_on By.out blV4
    replace AS : Hid (At V4 x N fun i => .string (S i)) := At.below AS.out blV4
    replace AX : Hid (At V4 x1 N fun i => .string (D1 i)) := At.below AX.out blV4
    replace AY : Hid (At V4 x2 N fun i => .string (D1 i)) := At.below AY.out blV4
    replace AM : Hid (At V4 x3 N fun i => .string (D1 i)) := At.below AM.out blV4
    replace G : Hid (Below w.heap.size w V4) := Below.comp G.out blV4
    clear blV4
    obtain ⟨qs0, qs1, qs2, -, -, -⟩ := box3_cells Bs.out
    obtain ⟨qx0, qx1, qx2, -, -, -⟩ := box3_cells Bx.out
    obtain ⟨qy0, qy1, qy2, -, -, -⟩ := box3_cells By.out
    obtain ⟨qm0, qm1, qm2, -, -, -⟩ := box3_cells Bm.out
    have hN0 : N ≠ 0 := by omega
    have hkI : (k : Int) < (N : Int) := by omega
    obtain ⟨g1, o1, rfl, hrow⟩ := AX.out hN0
    have hrk : V4.cell? ⟨g1, o1 + k, none⟩ = some (.string u) := by have := hrow k hkN; simp only [hDk] at this; exact this
    clear hrow CX CM
    cases cr
    · clear HMR
      go_wp2_with fail
      clear hV4 ekkm
      clear qs0 qs1 qs2
      clear qx0 qx1 qx2
      clear qy0 qy1 qy2
      clear qm0 qm1 qm2
      clear hrk
      refine (drawFind_any a' n' cap' T' _ hn' hT' (hc'.below G.out)).mono ?_
      rintro e y1 ⟨z, M, cz, R, PP, QQ, rfl, ⟨f1, f2, f3, f4, mz, gz⟩⟩
      replace G : Hid (Below w.heap.size w y1) := Below.comp G.out gz
      have AZ : Hid (At y1 z M fun i => .string (R i)) := mz.strs
      clear gz mz
      obtain ⟨V5, hV5⟩ : ∃ V5, y1.alloc (.cells #[.slice z (M) cz, .string (PP), .string (QQ)] 26) = V5 := ⟨_, rfl⟩
      obtain ⟨kkf, ekkf⟩ : ∃ kkf, y1.heap.size = kkf := ⟨_, rfl⟩
      have Bf : Hid (V5.heap[kkf]? = some (.cells #[.slice z (M) cz, .string (PP), .string (QQ)] 26 (0, 0))) := by show V5.heap[kkf]? = _; rw [← hV5, ← ekkf]; exact heap_alloc_new _ _
      have blV5 : Below y1.heap.size y1 V5 := by rw [← hV5]; exact below_alloc _ _
      replace AZ : Hid (At V5 z M fun i => .string (R i)) := At.below AZ.out blV5
      replace G : Hid (Below w.heap.size w V5) := Below.comp G.out blV5
      clear blV5
      have hRs : ∀ i, i < M → (R i).size ≤ 9223372036854775807 := fun i hi => by have := f2 i hi; omega
      cases hfw : fwN M R PP QQ with
      | none =>
        have F1 : Hid (∀ W, At W z M (fun i => .string (R i)) → Tab W → 0 < W.heap.size → Calls Tryd.prog 14 #[sv z M cz PP QQ] W fun e w' => e = .returned (.tuple #[.int .i64 0, .bool false]) ∧ Below W.heap.size W w') := fun W h1 h2 h3 => by
          have := implFind_any z M cz R PP QQ W (by omega) (by omega) (by omega) hRs h1 h2 h3
          unfold fwV at this
          rw [hfw] at this
          exact this
        have F2 : Hid (∀ W, At W z M (fun i => .string (R i)) → Calls Tryd.prog 22 #[sv z M cz PP QQ] W fun e w' => e = .returned (.tuple #[.int .i64 0, .bool false]) ∧ Below W.heap.size W w') := fun W h1 => by
          have := specFind_any z M cz R PP QQ W (by omega) h1
          unfold fwV at this
          rw [hfw] at this
          exact this
        obtain ⟨qf0, qf1, qf2, -, -, -⟩ := box3_cells Bf.out
        go_wp2_with fail
        refine (F1.out _ AZ.out (ht.below G.out hz0) (Nat.lt_of_lt_of_le hz0 G.out.size)).mono ?_
        rintro e y2 ⟨rfl, bz2⟩
        clear hV5 ekkf
        clear qf0 qf1 qf2
        replace Bf : Hid (y2.heap[kkf]? = some (.cells #[.slice z (M) cz, .string (PP), .string (QQ)] 26 (0, 0))) := box_on Bf.out bz2
        replace AZ : Hid (At y2 z M fun i => .string (R i)) := At.below AZ.out bz2
        replace G : Hid (Below w.heap.size w y2) := Below.comp G.out bz2
        clear bz2
        obtain ⟨qf0, qf1, qf2, -, -, -⟩ := box3_cells Bf.out
        go_wp2_with fail
        refine (F2.out _ AZ.out).mono ?_
        rintro e y3 ⟨rfl, bz3⟩
        clear qf0 qf1 qf2
        replace Bf : Hid (y3.heap[kkf]? = some (.cells #[.slice z (M) cz, .string (PP), .string (QQ)] 26 (0, 0))) := box_on Bf.out bz3
        replace AZ : Hid (At y3 z M fun i => .string (R i)) := At.below AZ.out bz3
        replace G : Hid (Below w.heap.size w y3) := Below.comp G.out bz3
        clear bz3 F1 F2
        go_wp2
        go_ret
        exact ⟨rfl, G.out⟩
      | some i =>
        have F1 : Hid (∀ W, At W z M (fun i => .string (R i)) → Tab W → 0 < W.heap.size → Calls Tryd.prog 14 #[sv z M cz PP QQ] W fun e w' => e = .returned (.tuple #[.int .i64 (i : Int), .bool true]) ∧ Below W.heap.size W w') := fun W h1 h2 h3 => by
          have := implFind_any z M cz R PP QQ W (by omega) (by omega) (by omega) hRs h1 h2 h3
          unfold fwV at this
          rw [hfw] at this
          exact this
        have F2 : Hid (∀ W, At W z M (fun i => .string (R i)) → Calls Tryd.prog 22 #[sv z M cz PP QQ] W fun e w' => e = .returned (.tuple #[.int .i64 (i : Int), .bool true]) ∧ Below W.heap.size W w') := fun W h1 => by
          have := specFind_any z M cz R PP QQ W (by omega) h1
          unfold fwV at this
          rw [hfw] at this
          exact this
        obtain ⟨qf0, qf1, qf2, -, -, -⟩ := box3_cells Bf.out
        go_wp2_with fail
        refine (F1.out _ AZ.out (ht.below G.out hz0) (Nat.lt_of_lt_of_le hz0 G.out.size)).mono ?_
        rintro e y2 ⟨rfl, bz2⟩
        clear hV5 ekkf
        clear qf0 qf1 qf2
        replace Bf : Hid (y2.heap[kkf]? = some (.cells #[.slice z (M) cz, .string (PP), .string (QQ)] 26 (0, 0))) := box_on Bf.out bz2
        replace AZ : Hid (At y2 z M fun i => .string (R i)) := At.below AZ.out bz2
        replace G : Hid (Below w.heap.size w y2) := Below.comp G.out bz2
        clear bz2
        obtain ⟨qf0, qf1, qf2, -, -, -⟩ := box3_cells Bf.out
        go_wp2_with fail
        refine (F2.out _ AZ.out).mono ?_
        rintro e y3 ⟨rfl, bz3⟩
        clear qf0 qf1 qf2
        replace Bf : Hid (y3.heap[kkf]? = some (.cells #[.slice z (M) cz, .string (PP), .string (QQ)] 26 (0, 0))) := box_on Bf.out bz3
        replace AZ : Hid (At y3 z M fun i => .string (R i)) := At.below AZ.out bz3
        replace G : Hid (Below w.heap.size w y3) := Below.comp G.out bz3
        clear bz3 F1 F2
        have hfd := found hfw
        obtain ⟨q1, q2, q3, q4, q5⟩ := hfd
        have CO : Hid (∀ W, At W z M (fun i => .string (R i)) → Tab W → 0 < W.heap.size → Calls Tryd.prog 13 #[sv z M cz PP QQ, .int .i64 (i : Int)] W fun e w' => RO W e w' true M (sD M R i (oneU M R PP i)) (sP M PP i (oneU M R PP i)) (sQ M QQ i (oneU M R PP i))) := fun W h1 h2 h3 => by
          have := implOne_any z M cz R PP QQ (i : Int) W (by omega) (by omega) (by omega) hRs h1 h2 h3
          rw [q3] at this
          exact this
        have hPs : (sP M PP i (oneU M R PP i)).size ≤ 40 ∧ (sQ M QQ i (oneU M R PP i)).size ≤ 40 ∧ ∀ j, j < M → (sD M R i (oneU M R PP i) j).size ≤ 40 := by
          obtain ⟨r1, r2, r3, r4, r5⟩ := goodB_spec q4
          exact ⟨r3, by omega, fun j hj => by have := r4 j hj; omega⟩
        have hcv : chkV M (sD M R i (oneU M R PP i)) (sP M PP i (oneU M R PP i)) (sQ M QQ i (oneU M R PP i)) = .tuple #[.bool true, .bool true] := by unfold chkV; rw [q4, q5]; rfl
        have CK : Hid (∀ (v : Option Addr) (cv : Nat) (W : World), At W v M (fun j => .string (sD M R i (oneU M R PP i) j)) → Tab W → 0 < W.heap.size → Calls Tryd.prog 9 #[sv v M cv (sP M PP i (oneU M R PP i)) (sQ M QQ i (oneU M R PP i))] W fun e w' => e = .returned (.tuple #[.bool true, .bool true]) ∧ Below W.heap.size W w') := fun v cv W h1 h2 h3 => by
          have := implCheck_any v M cv (sD M R i (oneU M R PP i)) (sP M PP i (oneU M R PP i)) (sQ M QQ i (oneU M R PP i)) W (by omega) (by have := hPs.1; omega) (by have := hPs.2.1; omega) (fun j hj => by have := hPs.2.2 j hj; omega) h1 h2 h3
          rw [hcv] at this
          exact this
        clear hcv hPs q1 q2 q3 q4 q5 hfw
        generalize sD M R i (oneU M R PP i) = E1 at *
        generalize sP M PP i (oneU M R PP i) = E2 at *
        generalize sQ M QQ i (oneU M R PP i) = E3 at *
        obtain ⟨qf0, qf1, qf2, -, -, -⟩ := box3_cells Bf.out
        go_wp2_with fail
        refine (CO.out _ AZ.out (ht.below G.out hz0) (Nat.lt_of_lt_of_le hz0 G.out.size)).mono ?_
        rintro e y4 ⟨bz4, v, cv, rfl, mv⟩
        clear qf0 qf1 qf2
        replace G : Hid (Below w.heap.size w y4) := Below.comp G.out bz4
        have AV : Hid (At y4 v M fun j => .string (E1 j)) := mv.strs
        clear bz4 mv
        obtain ⟨V6, hV6⟩ : ∃ V6, y4.alloc (.cells #[.slice v (M) cv, .string (E2), .string (E3)] 26) = V6 := ⟨_, rfl⟩
        obtain ⟨kkg, ekkg⟩ : ∃ kkg, y4.heap.size = kkg := ⟨_, rfl⟩
        have Bg : Hid (V6.heap[kkg]? = some (.cells #[.slice v (M) cv, .string (E2), .string (E3)] 26 (0, 0))) := by show V6.heap[kkg]? = _; rw [← hV6, ← ekkg]; exact heap_alloc_new _ _
        have blV6 : Below y4.heap.size y4 V6 := by rw [← hV6]; exact below_alloc _ _
        replace AV : Hid (At V6 v M fun i => .string (E1 i)) := At.below AV.out blV6
        replace G : Hid (Below w.heap.size w V6) := Below.comp G.out blV6
        clear blV6
        obtain ⟨qg0, qg1, qg2, -, -, -⟩ := box3_cells Bg.out
        go_wp2_with fail
        refine (CK.out v cv _ AV.out (ht.below G.out hz0) (Nat.lt_of_lt_of_le hz0 G.out.size)).mono ?_
        rintro e y5 ⟨rfl, bz5⟩
        clear hV6 ekkg
        have GF := Below.comp G.out bz5
        clear bz5
        go_wp2
        go_ret
        exact ⟨rfl, GF⟩
    · obtain ⟨rfl, rfl⟩ := HMR.out rfl
      clear HMR
      go_wp2_with fail
      refine (sameStripes_t x3 (some ⟨g1, o1, none⟩) N cx3 cx1 D1 mP mQ _ (by omega) AM.out AX.out).mono ?_
      rintro e w9 ⟨rfl, c9⟩
      clear hV4 ekkm
      have hrk9 := cell_on hrk c9
      clear hrk
      clear qs0 qs1 qs2
      clear qx0 qx1 qx2
      clear qy0 qy1 qy2
      clear qm0 qm1 qm2
      replace Bs : Hid (w9.heap[kks]? = some (.cells #[.slice x (N) cx, .string (P), .string (Q)] 26 (0, 0))) := box_on Bs.out c9
      replace Bx : Hid (w9.heap[kkx]? = some (.cells #[.slice (some ⟨g1, o1, none⟩) (N) cx1, .string (mP), .string (mQ)] 26 (0, 0))) := box_on Bx.out c9
      replace By : Hid (w9.heap[kky]? = some (.cells #[.slice x2 (N) cx2, .string (mP), .string (mQ)] 26 (0, 0))) := box_on By.out c9
      replace Bm : Hid (w9.heap[kkm]? = some (.cells #[.slice x3 (N) cx3, .string (mP), .string (mQ)] 26 (0, 0))) := box_on Bm.out c9
      replace AS : Hid (At w9 x N fun i => .string (S i)) := At.below AS.out c9
      replace AX : Hid (At w9 (some ⟨g1, o1, none⟩) N fun i => .string (D1 i)) := At.below AX.out c9
      replace AY : Hid (At w9 x2 N fun i => .string (D1 i)) := At.below AY.out c9
      replace AM : Hid (At w9 x3 N fun i => .string (D1 i)) := At.below AM.out c9
      replace G : Hid (Below w.heap.size w w9) := Below.comp G.out c9
      clear c9
      obtain ⟨qs0, qs1, qs2, -, -, -⟩ := box3_cells Bs.out
      obtain ⟨qx0, qx1, qx2, -, -, -⟩ := box3_cells Bx.out
      obtain ⟨qy0, qy1, qy2, -, -, -⟩ := box3_cells By.out
      obtain ⟨qm0, qm1, qm2, -, -, -⟩ := box3_cells Bm.out
      go_wp2_with fail
      clear qs0 qs1 qs2
      clear qx0 qx1 qx2
      clear qy0 qy1 qy2
      clear qm0 qm1 qm2
      clear hrk9
      refine (drawFind_any a' n' cap' T' _ hn' hT' (hc'.below G.out)).mono ?_
      rintro e y1 ⟨z, M, cz, R, PP, QQ, rfl, ⟨f1, f2, f3, f4, mz, gz⟩⟩
      replace G : Hid (Below w.heap.size w y1) := Below.comp G.out gz
      have AZ : Hid (At y1 z M fun i => .string (R i)) := mz.strs
      clear gz mz
      obtain ⟨V5, hV5⟩ : ∃ V5, y1.alloc (.cells #[.slice z (M) cz, .string (PP), .string (QQ)] 26) = V5 := ⟨_, rfl⟩
      obtain ⟨kkf, ekkf⟩ : ∃ kkf, y1.heap.size = kkf := ⟨_, rfl⟩
      have Bf : Hid (V5.heap[kkf]? = some (.cells #[.slice z (M) cz, .string (PP), .string (QQ)] 26 (0, 0))) := by show V5.heap[kkf]? = _; rw [← hV5, ← ekkf]; exact heap_alloc_new _ _
      have blV5 : Below y1.heap.size y1 V5 := by rw [← hV5]; exact below_alloc _ _
      replace AZ : Hid (At V5 z M fun i => .string (R i)) := At.below AZ.out blV5
      replace G : Hid (Below w.heap.size w V5) := Below.comp G.out blV5
      clear blV5
      have hRs : ∀ i, i < M → (R i).size ≤ 9223372036854775807 := fun i hi => by have := f2 i hi; omega
      cases hfw : fwN M R PP QQ with
      | none =>
        have F1 : Hid (∀ W, At W z M (fun i => .string (R i)) → Tab W → 0 < W.heap.size → Calls Tryd.prog 14 #[sv z M cz PP QQ] W fun e w' => e = .returned (.tuple #[.int .i64 0, .bool false]) ∧ Below W.heap.size W w') := fun W h1 h2 h3 => by
          have := implFind_any z M cz R PP QQ W (by omega) (by omega) (by omega) hRs h1 h2 h3
          unfold fwV at this
          rw [hfw] at this
          exact this
        have F2 : Hid (∀ W, At W z M (fun i => .string (R i)) → Calls Tryd.prog 22 #[sv z M cz PP QQ] W fun e w' => e = .returned (.tuple #[.int .i64 0, .bool false]) ∧ Below W.heap.size W w') := fun W h1 => by
          have := specFind_any z M cz R PP QQ W (by omega) h1
          unfold fwV at this
          rw [hfw] at this
          exact this
        obtain ⟨qf0, qf1, qf2, -, -, -⟩ := box3_cells Bf.out
        go_wp2_with fail
        refine (F1.out _ AZ.out (ht.below G.out hz0) (Nat.lt_of_lt_of_le hz0 G.out.size)).mono ?_
        rintro e y2 ⟨rfl, bz2⟩
        clear hV5 ekkf
        clear qf0 qf1 qf2
        replace Bf : Hid (y2.heap[kkf]? = some (.cells #[.slice z (M) cz, .string (PP), .string (QQ)] 26 (0, 0))) := box_on Bf.out bz2
        replace AZ : Hid (At y2 z M fun i => .string (R i)) := At.below AZ.out bz2
        replace G : Hid (Below w.heap.size w y2) := Below.comp G.out bz2
        clear bz2
        obtain ⟨qf0, qf1, qf2, -, -, -⟩ := box3_cells Bf.out
        go_wp2_with fail
        refine (F2.out _ AZ.out).mono ?_
        rintro e y3 ⟨rfl, bz3⟩
        clear qf0 qf1 qf2
        replace Bf : Hid (y3.heap[kkf]? = some (.cells #[.slice z (M) cz, .string (PP), .string (QQ)] 26 (0, 0))) := box_on Bf.out bz3
        replace AZ : Hid (At y3 z M fun i => .string (R i)) := At.below AZ.out bz3
        replace G : Hid (Below w.heap.size w y3) := Below.comp G.out bz3
        clear bz3 F1 F2
        go_wp2
        go_ret
        exact ⟨rfl, G.out⟩
      | some i =>
        have F1 : Hid (∀ W, At W z M (fun i => .string (R i)) → Tab W → 0 < W.heap.size → Calls Tryd.prog 14 #[sv z M cz PP QQ] W fun e w' => e = .returned (.tuple #[.int .i64 (i : Int), .bool true]) ∧ Below W.heap.size W w') := fun W h1 h2 h3 => by
          have := implFind_any z M cz R PP QQ W (by omega) (by omega) (by omega) hRs h1 h2 h3
          unfold fwV at this
          rw [hfw] at this
          exact this
        have F2 : Hid (∀ W, At W z M (fun i => .string (R i)) → Calls Tryd.prog 22 #[sv z M cz PP QQ] W fun e w' => e = .returned (.tuple #[.int .i64 (i : Int), .bool true]) ∧ Below W.heap.size W w') := fun W h1 => by
          have := specFind_any z M cz R PP QQ W (by omega) h1
          unfold fwV at this
          rw [hfw] at this
          exact this
        obtain ⟨qf0, qf1, qf2, -, -, -⟩ := box3_cells Bf.out
        go_wp2_with fail
        refine (F1.out _ AZ.out (ht.below G.out hz0) (Nat.lt_of_lt_of_le hz0 G.out.size)).mono ?_
        rintro e y2 ⟨rfl, bz2⟩
        clear hV5 ekkf
        clear qf0 qf1 qf2
        replace Bf : Hid (y2.heap[kkf]? = some (.cells #[.slice z (M) cz, .string (PP), .string (QQ)] 26 (0, 0))) := box_on Bf.out bz2
        replace AZ : Hid (At y2 z M fun i => .string (R i)) := At.below AZ.out bz2
        replace G : Hid (Below w.heap.size w y2) := Below.comp G.out bz2
        clear bz2
        obtain ⟨qf0, qf1, qf2, -, -, -⟩ := box3_cells Bf.out
        go_wp2_with fail
        refine (F2.out _ AZ.out).mono ?_
        rintro e y3 ⟨rfl, bz3⟩
        clear qf0 qf1 qf2
        replace Bf : Hid (y3.heap[kkf]? = some (.cells #[.slice z (M) cz, .string (PP), .string (QQ)] 26 (0, 0))) := box_on Bf.out bz3
        replace AZ : Hid (At y3 z M fun i => .string (R i)) := At.below AZ.out bz3
        replace G : Hid (Below w.heap.size w y3) := Below.comp G.out bz3
        clear bz3 F1 F2
        have hfd := found hfw
        obtain ⟨q1, q2, q3, q4, q5⟩ := hfd
        have CO : Hid (∀ W, At W z M (fun i => .string (R i)) → Tab W → 0 < W.heap.size → Calls Tryd.prog 13 #[sv z M cz PP QQ, .int .i64 (i : Int)] W fun e w' => RO W e w' true M (sD M R i (oneU M R PP i)) (sP M PP i (oneU M R PP i)) (sQ M QQ i (oneU M R PP i))) := fun W h1 h2 h3 => by
          have := implOne_any z M cz R PP QQ (i : Int) W (by omega) (by omega) (by omega) hRs h1 h2 h3
          rw [q3] at this
          exact this
        have hPs : (sP M PP i (oneU M R PP i)).size ≤ 40 ∧ (sQ M QQ i (oneU M R PP i)).size ≤ 40 ∧ ∀ j, j < M → (sD M R i (oneU M R PP i) j).size ≤ 40 := by
          obtain ⟨r1, r2, r3, r4, r5⟩ := goodB_spec q4
          exact ⟨r3, by omega, fun j hj => by have := r4 j hj; omega⟩
        have hcv : chkV M (sD M R i (oneU M R PP i)) (sP M PP i (oneU M R PP i)) (sQ M QQ i (oneU M R PP i)) = .tuple #[.bool true, .bool true] := by unfold chkV; rw [q4, q5]; rfl
        have CK : Hid (∀ (v : Option Addr) (cv : Nat) (W : World), At W v M (fun j => .string (sD M R i (oneU M R PP i) j)) → Tab W → 0 < W.heap.size → Calls Tryd.prog 9 #[sv v M cv (sP M PP i (oneU M R PP i)) (sQ M QQ i (oneU M R PP i))] W fun e w' => e = .returned (.tuple #[.bool true, .bool true]) ∧ Below W.heap.size W w') := fun v cv W h1 h2 h3 => by
          have := implCheck_any v M cv (sD M R i (oneU M R PP i)) (sP M PP i (oneU M R PP i)) (sQ M QQ i (oneU M R PP i)) W (by omega) (by have := hPs.1; omega) (by have := hPs.2.1; omega) (fun j hj => by have := hPs.2.2 j hj; omega) h1 h2 h3
          rw [hcv] at this
          exact this
        clear hcv hPs q1 q2 q3 q4 q5 hfw
        generalize sD M R i (oneU M R PP i) = E1 at *
        generalize sP M PP i (oneU M R PP i) = E2 at *
        generalize sQ M QQ i (oneU M R PP i) = E3 at *
        obtain ⟨qf0, qf1, qf2, -, -, -⟩ := box3_cells Bf.out
        go_wp2_with fail
        refine (CO.out _ AZ.out (ht.below G.out hz0) (Nat.lt_of_lt_of_le hz0 G.out.size)).mono ?_
        rintro e y4 ⟨bz4, v, cv, rfl, mv⟩
        clear qf0 qf1 qf2
        replace G : Hid (Below w.heap.size w y4) := Below.comp G.out bz4
        have AV : Hid (At y4 v M fun j => .string (E1 j)) := mv.strs
        clear bz4 mv
        obtain ⟨V6, hV6⟩ : ∃ V6, y4.alloc (.cells #[.slice v (M) cv, .string (E2), .string (E3)] 26) = V6 := ⟨_, rfl⟩
        obtain ⟨kkg, ekkg⟩ : ∃ kkg, y4.heap.size = kkg := ⟨_, rfl⟩
        have Bg : Hid (V6.heap[kkg]? = some (.cells #[.slice v (M) cv, .string (E2), .string (E3)] 26 (0, 0))) := by show V6.heap[kkg]? = _; rw [← hV6, ← ekkg]; exact heap_alloc_new _ _
        have blV6 : Below y4.heap.size y4 V6 := by rw [← hV6]; exact below_alloc _ _
        replace AV : Hid (At V6 v M fun i => .string (E1 i)) := At.below AV.out blV6
        replace G : Hid (Below w.heap.size w V6) := Below.comp G.out blV6
        clear blV6
        obtain ⟨qg0, qg1, qg2, -, -, -⟩ := box3_cells Bg.out
        go_wp2_with fail
        refine (CK.out v cv _ AV.out (ht.below G.out hz0) (Nat.lt_of_lt_of_le hz0 G.out.size)).mono ?_
        rintro e y5 ⟨rfl, bz5⟩
        clear hV6 ekkg
        have GF := Below.comp G.out bz5
        clear bz5
        go_wp2
        go_ret
        exact ⟨rfl, GF⟩
end Go.Proofs.YtgipopkjjhehlaaDoor
