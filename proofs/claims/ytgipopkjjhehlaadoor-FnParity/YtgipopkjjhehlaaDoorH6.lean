import Derived.Test.YtgipopkjjhehlaaDoorH3
import Derived.Test.YtgipopkjjhehlaaDoorH4
import Derived.Test.YtgipopkjjhehlaaDoorH7
import Derived.Test.YtgipopkjjhehlaaDoorQ2
namespace Go.Proofs.YtgipopkjjhehlaaDoor
open Go.ChangeShapes Go.WideShapes Go.ChangeAt Go.RowKit
set_option linter.unusedVariables false
open GF

set_option maxRecDepth 100000 in
set_option maxHeartbeats 4000000 in
theorem lawParity (a a' : Option Addr) (n n' cap cap' : Nat) (T T' : Nat → Nat) (w : World) (hn : n ≤ 9223372036854775807) (hn' : n' ≤ 9223372036854775807) (hT : ∀ i, T i < 256) (hT' : ∀ i, T' i < 256) (hc : At w a n (by' T)) (hc' : At w a' n' (by' T')) (ht : Tab w) (hz0 : 0 < w.heap.size) :
    Calls Tryd.prog 3 #[.slice a n cap, .slice a' n' cap'] w fun e w' => e = .returned (.bool true) ∧ Below w.heap.size w w' := by
  by_cases h : 1048576 < wrap64 ((n : Int) + (n' : Int))
  · go_enter Tryd.func3, Tryd.ntmps3
    go_wp2
    go_ret
    exact ⟨rfl, Below.refl _ _⟩
  go_enter Tryd.func3, Tryd.ntmps3
  go_wp2_with fail
  refine (drawMake_any a n cap T _ hn hT hc).mono ?_
  rintro e w1 ⟨x, N, cx, S, rfl, d1, d2, A1, g1⟩
  clear h hc
  have G : Hid (Below w.heap.size w w1) := g1
  have AS : Hid (At w1 x N fun i => .string (S i)) := A1
  have hSs : ∀ i, i < N → (S i).size ≤ 9223372036854775807 := fun i hi => by have := d2 i hi; omega
  clear g1 A1 d2
  cases hok : dataB N S
  · have CA : Hid (∀ W, At W x N (fun i => .string (S i)) → Tab W → 0 < W.heap.size → Calls Tryd.prog 6 #[.slice x N cx] W fun e w' => RO W e w' false (0) S (emp) (emp)) := fun W h1 h2 h3 => by
      have := implMake_any x N cx S W (by omega) hSs h1 h2 h3
      simp only [hok] at this
      exact this
    have CB : Hid (∀ W, At W x N (fun i => .string (S i)) → Calls Tryd.prog 7 #[.slice x N cx] W fun e w' => RO W e w' false (0) S (emp) (emp)) := fun W h1 => by
      have := specMake_any x N cx S W (by omega) h1
      simp only [hok] at this
      exact this
    clear hok
    generalize emp = em at *
    go_wp2_with fail
    refine (CA.out _ AS.out (ht.below G.out hz0) (Nat.lt_of_lt_of_le hz0 G.out.size)).mono ?_
    rintro e w2 ⟨c2, x1, cx1, rfl, m2⟩
    unfold sv
    replace AS : Hid (At w2 x N fun i => .string (S i)) := At.below AS.out c2
    replace G : Hid (Below w.heap.size w w2) := Below.comp G.out c2
    have AX : Hid (At w2 x1 0 fun i => .string (S i)) := m2.strs
    clear c2 m2
    obtain ⟨V1, hV1⟩ : ∃ V1, w2.alloc (.cells #[.slice x1 (0) cx1, .string (em), .string (em)] 26) = V1 := ⟨_, rfl⟩
    obtain ⟨kkx, ekkx⟩ : ∃ kkx, w2.heap.size = kkx := ⟨_, rfl⟩
    have Bx : Hid (V1.heap[kkx]? = some (.cells #[.slice x1 (0) cx1, .string (em), .string (em)] 26 (0, 0))) := by show V1.heap[kkx]? = _; rw [← hV1, ← ekkx]; exact heap_alloc_new _ _
    have blV1 : Below w2.heap.size w2 V1 := by rw [← hV1]; exact below_alloc _ _
    replace AS : Hid (At V1 x N fun i => .string (S i)) := At.below AS.out blV1
    replace AX : Hid (At V1 x1 0 fun i => .string (S i)) := At.below AX.out blV1
    replace G : Hid (Below w.heap.size w V1) := Below.comp G.out blV1
    clear blV1
    obtain ⟨qx0, qx1, qx2, -, -, -⟩ := box3_cells Bx.out
    go_wp2_with fail
    refine (CB.out _ AS.out).mono ?_
    rintro e w3 ⟨c3, x2, cx2, rfl, m3⟩
    unfold sv
    clear hV1 ekkx
    clear qx0 qx1 qx2
    replace Bx : Hid (w3.heap[kkx]? = some (.cells #[.slice x1 (0) cx1, .string (em), .string (em)] 26 (0, 0))) := box_on Bx.out c3
    replace AS : Hid (At w3 x N fun i => .string (S i)) := At.below AS.out c3
    replace AX : Hid (At w3 x1 0 fun i => .string (S i)) := At.below AX.out c3
    replace G : Hid (Below w.heap.size w w3) := Below.comp G.out c3
    have AY : Hid (At w3 x2 0 fun i => .string (S i)) := m3.strs
    clear c3 m3
    obtain ⟨V2, hV2⟩ : ∃ V2, w3.alloc (.cells #[.slice x2 (0) cx2, .string (em), .string (em)] 26) = V2 := ⟨_, rfl⟩
    obtain ⟨kky, ekky⟩ : ∃ kky, w3.heap.size = kky := ⟨_, rfl⟩
    have By : Hid (V2.heap[kky]? = some (.cells #[.slice x2 (0) cx2, .string (em), .string (em)] 26 (0, 0))) := by show V2.heap[kky]? = _; rw [← hV2, ← ekky]; exact heap_alloc_new _ _
    have blV2 : Below w3.heap.size w3 V2 := by rw [← hV2]; exact below_alloc _ _
    replace Bx : Hid (V2.heap[kkx]? = some (.cells #[.slice x1 (0) cx1, .string (em), .string (em)] 26 (0, 0))) := box_on Bx.out blV2
    replace AS : Hid (At V2 x N fun i => .string (S i)) := At.below AS.out blV2
    replace AX : Hid (At V2 x1 0 fun i => .string (S i)) := At.below AX.out blV2
    replace AY : Hid (At V2 x2 0 fun i => .string (S i)) := At.below AY.out blV2
    replace G : Hid (Below w.heap.size w V2) := Below.comp G.out blV2
    clear blV2
    obtain ⟨qx0, qx1, qx2, -, -, -⟩ := box3_cells Bx.out
    obtain ⟨qy0, qy1, qy2, -, -, -⟩ := box3_cells By.out
    go_wp2_with fail
    refine (sameStripes_t x1 x2 0 cx1 cx2 S em em _ (by omega) AX.out AY.out).mono ?_
    rintro e w4 ⟨rfl, c4⟩
    clear hV2 ekky
    clear qx0 qx1 qx2
    clear qy0 qy1 qy2
    replace Bx : Hid (w4.heap[kkx]? = some (.cells #[.slice x1 (0) cx1, .string (em), .string (em)] 26 (0, 0))) := box_on Bx.out c4
    replace By : Hid (w4.heap[kky]? = some (.cells #[.slice x2 (0) cx2, .string (em), .string (em)] 26 (0, 0))) := box_on By.out c4
    replace AS : Hid (At w4 x N fun i => .string (S i)) := At.below AS.out c4
    replace AX : Hid (At w4 x1 0 fun i => .string (S i)) := At.below AX.out c4
    replace AY : Hid (At w4 x2 0 fun i => .string (S i)) := At.below AY.out c4
    replace G : Hid (Below w.heap.size w w4) := Below.comp G.out c4
    clear c4 CA CB
    go_wp2_with fail
    refine (drawTwo_any a' n' cap' T' _ hn' hT' (hc'.below G.out)).mono ?_
    rintro e y1 ⟨z, M, cz, R, PP, QQ, s, t, rfl, ⟨f1, f2, f3, f4, mz, gz⟩⟩
    unfold sv
    replace G : Hid (Below w.heap.size w y1) := Below.comp G.out gz
    have AZ : Hid (At y1 z M fun i => .string (R i)) := mz.strs
    clear gz mz
    have hRs : ∀ i, i < M → (R i).size ≤ 9223372036854775807 := fun i hi => by have := f2 i hi; omega
    have C1 : Hid (∀ W, At W z M (fun i => .string (R i)) → Tab W → 0 < W.heap.size → Calls Tryd.prog 12 #[sv z M cz PP QQ, .int .i64 s, .int .i64 t] W fun e w' => RO W e w' (okTwo M R PP QQ s t) (oneN M (okTwo M R PP QQ s t)) (tD M R PP QQ s.toNat t.toNat) (oneP (okTwo M R PP QQ s t) (tP M R PP QQ s.toNat t.toNat)) (oneP (okTwo M R PP QQ s t) (tQ M R PP QQ s.toNat t.toNat))) := fun W h1 h2 h3 => implTwo_any z M cz R PP QQ s t W (by omega) (by omega) (by omega) hRs h1 h2 h3
    have C2 : Hid (∀ W, At W z M (fun i => .string (R i)) → Calls Tryd.prog 16 #[sv z M cz PP QQ, .int .i64 s, .int .i64 t] W fun e w' => RO W e w' (okTwo M R PP QQ s t) (oneN M (okTwo M R PP QQ s t)) (tD M R PP QQ s.toNat t.toNat) (oneP (okTwo M R PP QQ s t) (tP M R PP QQ s.toNat t.toNat)) (oneP (okTwo M R PP QQ s t) (tQ M R PP QQ s.toNat t.toNat))) := fun W h1 => specTwo_any z M cz R PP QQ s t W (by omega) h1
    have hM2 := oneN_le M (okTwo M R PP QQ s t)
    generalize oneN M (okTwo M R PP QQ s t) = M2 at *
    generalize oneP (okTwo M R PP QQ s t) (tP M R PP QQ s.toNat t.toNat) = PA at *
    generalize oneP (okTwo M R PP QQ s t) (tQ M R PP QQ s.toNat t.toNat) = QA at *
    generalize tD M R PP QQ s.toNat t.toNat = RA at *
    generalize okTwo M R PP QQ s t = ok2 at *
    clear hRs f2
    unfold sv at C1 C2
    obtain ⟨V1, hV1⟩ : ∃ V1, y1.alloc (.cells #[.slice z (M) cz, .string (PP), .string (QQ)] 26) = V1 := ⟨_, rfl⟩
    obtain ⟨kkf, ekkf⟩ : ∃ kkf, y1.heap.size = kkf := ⟨_, rfl⟩
    have Bf : Hid (V1.heap[kkf]? = some (.cells #[.slice z (M) cz, .string (PP), .string (QQ)] 26 (0, 0))) := by show V1.heap[kkf]? = _; rw [← hV1, ← ekkf]; exact heap_alloc_new _ _
    have blV1 : Below y1.heap.size y1 V1 := by rw [← hV1]; exact below_alloc _ _
    replace AZ : Hid (At V1 z M fun i => .string (R i)) := At.below AZ.out blV1
    replace G : Hid (Below w.heap.size w V1) := Below.comp G.out blV1
    clear blV1
    obtain ⟨qf0, qf1, qf2, -, -, -⟩ := box3_cells Bf.out
    go_wp2_with fail
    refine (C1.out _ AZ.out (ht.below G.out hz0) (Nat.lt_of_lt_of_le hz0 G.out.size)).mono ?_
    rintro e y2 ⟨bz2, v, cv, rfl, mv⟩
    clear hV1 ekkf
    clear qf0 qf1 qf2
    replace Bf : Hid (y2.heap[kkf]? = some (.cells #[.slice z (M) cz, .string (PP), .string (QQ)] 26 (0, 0))) := box_on Bf.out bz2
    replace AZ : Hid (At y2 z M fun i => .string (R i)) := At.below AZ.out bz2
    replace G : Hid (Below w.heap.size w y2) := Below.comp G.out bz2
    have AV : Hid (At y2 v M2 fun j => .string (RA j)) := mv.strs
    clear bz2 mv
    unfold sv
    obtain ⟨V2, hV2⟩ : ∃ V2, y2.alloc (.cells #[.slice v (M2) cv, .string (PA), .string (QA)] 26) = V2 := ⟨_, rfl⟩
    obtain ⟨kkg, ekkg⟩ : ∃ kkg, y2.heap.size = kkg := ⟨_, rfl⟩
    have Bg : Hid (V2.heap[kkg]? = some (.cells #[.slice v (M2) cv, .string (PA), .string (QA)] 26 (0, 0))) := by show V2.heap[kkg]? = _; rw [← hV2, ← ekkg]; exact heap_alloc_new _ _
    have blV2 : Below y2.heap.size y2 V2 := by rw [← hV2]; exact below_alloc _ _
    replace Bf : Hid (V2.heap[kkf]? = some (.cells #[.slice z (M) cz, .string (PP), .string (QQ)] 26 (0, 0))) := box_on Bf.out blV2
    replace AZ : Hid (At V2 z M fun i => .string (R i)) := At.below AZ.out blV2
    replace AV : Hid (At V2 v M2 fun i => .string (RA i)) := At.below AV.out blV2
    replace G : Hid (Below w.heap.size w V2) := Below.comp G.out blV2
    clear blV2
    obtain ⟨qf0, qf1, qf2, -, -, -⟩ := box3_cells Bf.out
    obtain ⟨qg0, qg1, qg2, -, -, -⟩ := box3_cells Bg.out
    go_wp2_with fail
    refine (C2.out _ AZ.out).mono ?_
    rintro e y3 ⟨bz3, v', cv', rfl, mv'⟩
    clear hV2 ekkg
    clear qf0 qf1 qf2
    clear qg0 qg1 qg2
    replace Bf : Hid (y3.heap[kkf]? = some (.cells #[.slice z (M) cz, .string (PP), .string (QQ)] 26 (0, 0))) := box_on Bf.out bz3
    replace Bg : Hid (y3.heap[kkg]? = some (.cells #[.slice v (M2) cv, .string (PA), .string (QA)] 26 (0, 0))) := box_on Bg.out bz3
    replace AZ : Hid (At y3 z M fun i => .string (R i)) := At.below AZ.out bz3
    replace AV : Hid (At y3 v M2 fun i => .string (RA i)) := At.below AV.out bz3
    replace G : Hid (Below w.heap.size w y3) := Below.comp G.out bz3
    have AW : Hid (At y3 v' M2 fun j => .string (RA j)) := mv'.strs
    clear bz3 mv' C1 C2
    unfold sv
    obtain ⟨V3, hV3⟩ : ∃ V3, y3.alloc (.cells #[.slice v' (M2) cv', .string (PA), .string (QA)] 26) = V3 := ⟨_, rfl⟩
    obtain ⟨kkh, ekkh⟩ : ∃ kkh, y3.heap.size = kkh := ⟨_, rfl⟩
    have Bh : Hid (V3.heap[kkh]? = some (.cells #[.slice v' (M2) cv', .string (PA), .string (QA)] 26 (0, 0))) := by show V3.heap[kkh]? = _; rw [← hV3, ← ekkh]; exact heap_alloc_new _ _
    have blV3 : Below y3.heap.size y3 V3 := by rw [← hV3]; exact below_alloc _ _
    replace Bf : Hid (V3.heap[kkf]? = some (.cells #[.slice z (M) cz, .string (PP), .string (QQ)] 26 (0, 0))) := box_on Bf.out blV3
    replace Bg : Hid (V3.heap[kkg]? = some (.cells #[.slice v (M2) cv, .string (PA), .string (QA)] 26 (0, 0))) := box_on Bg.out blV3
    replace AZ : Hid (At V3 z M fun i => .string (R i)) := At.below AZ.out blV3
    replace AV : Hid (At V3 v M2 fun i => .string (RA i)) := At.below AV.out blV3
    replace AW : Hid (At V3 v' M2 fun i => .string (RA i)) := At.below AW.out blV3
    replace G : Hid (Below w.heap.size w V3) := Below.comp G.out blV3
    clear blV3
    obtain ⟨qf0, qf1, qf2, -, -, -⟩ := box3_cells Bf.out
    obtain ⟨qg0, qg1, qg2, -, -, -⟩ := box3_cells Bg.out
    obtain ⟨qh0, qh1, qh2, -, -, -⟩ := box3_cells Bh.out
    have hM3 : M2 ≤ 9223372036854775807 := by omega
    cases ok2
    · go_wp2_with fail
      refine (sameStripes_t v v' M2 cv cv' RA PA QA _ hM3 AV.out AW.out).mono ?_
      rintro e y4 ⟨rfl, bz4⟩
      have GF := Below.comp G.out bz4
      clear bz4
      go_wp2
      go_ret
      exact ⟨rfl, GF⟩
    · go_wp2_with fail
      refine (sameStripes_t v v' M2 cv cv' RA PA QA _ hM3 AV.out AW.out).mono ?_
      rintro e y4 ⟨rfl, bz4⟩
      have GF := Below.comp G.out bz4
      clear bz4
      go_wp2
      go_ret
      exact ⟨rfl, GF⟩
  · have CA : Hid (∀ W, At W x N (fun i => .string (S i)) → Tab W → 0 < W.heap.size → Calls Tryd.prog 6 #[.slice x N cx] W fun e w' => RO W e w' true (N) S (mkP N S) (mkQ N S)) := fun W h1 h2 h3 => by
      have := implMake_any x N cx S W (by omega) hSs h1 h2 h3
      simp only [hok] at this
      exact this
    have CB : Hid (∀ W, At W x N (fun i => .string (S i)) → Calls Tryd.prog 7 #[.slice x N cx] W fun e w' => RO W e w' true (N) S (mkP N S) (mkQ N S)) := fun W h1 => by
      have := specMake_any x N cx S W (by omega) h1
      simp only [hok] at this
      exact this
    have hg := made_good hok
    have hr := made_is_right hok
    obtain ⟨s1, s2, s3, s4, s5⟩ := goodB_spec hg
    have hcv : chkV N S (mkP N S) (mkQ N S) = .tuple #[.bool true, .bool true] := by unfold chkV; rw [hg, hr]; rfl
    have CK : Hid (∀ (v : Option Addr) (cv : Nat) (W : World), At W v N (fun j => .string (S j)) → Tab W → 0 < W.heap.size → Calls Tryd.prog 9 #[sv v N cv (mkP N S) (mkQ N S)] W fun e w' => e = .returned (.tuple #[.bool true, .bool true]) ∧ Below W.heap.size W w') := fun v cv W h1 h2 h3 => by
      have := implCheck_any v N cv S (mkP N S) (mkQ N S) W (by omega) (by omega) (by omega) hSs h1 h2 h3
      rw [hcv] at this
      exact this
    have CG : Hid (∀ (v : Option Addr) (cv : Nat) (W : World), At W v N (fun j => .string (S j)) → Calls Tryd.prog 10 #[sv v N cv (mkP N S) (mkQ N S)] W fun e w' => e = .returned (.bool true) ∧ Below W.heap.size W w') := fun v cv W h1 => by
      have := implGood_any v N cv S (mkP N S) (mkQ N S) W (by omega) (by omega) (by omega) hSs h1
      rw [hg] at this
      exact this
    have HG : Hid _ := hg
    have HR : Hid _ := hr
    have HS5 : Hid _ := s5
    have HS4 : Hid _ := s4
    clear hcv hg hr hok s5 s4
    generalize mkP N S = P at *
    generalize mkQ N S = Q at *
    unfold sv at CK CG
    go_wp2_with fail
    refine (CA.out _ AS.out (ht.below G.out hz0) (Nat.lt_of_lt_of_le hz0 G.out.size)).mono ?_
    rintro e w2 ⟨c2, x1, cx1, rfl, m2⟩
    unfold sv
    replace AS : Hid (At w2 x N fun i => .string (S i)) := At.below AS.out c2
    replace G : Hid (Below w.heap.size w w2) := Below.comp G.out c2
    have AX : Hid (At w2 x1 N fun i => .string (S i)) := m2.strs
    clear c2 m2
    obtain ⟨V1, hV1⟩ : ∃ V1, w2.alloc (.cells #[.slice x1 (N) cx1, .string (P), .string (Q)] 26) = V1 := ⟨_, rfl⟩
    obtain ⟨kkx, ekkx⟩ : ∃ kkx, w2.heap.size = kkx := ⟨_, rfl⟩
    have Bx : Hid (V1.heap[kkx]? = some (.cells #[.slice x1 (N) cx1, .string (P), .string (Q)] 26 (0, 0))) := by show V1.heap[kkx]? = _; rw [← hV1, ← ekkx]; exact heap_alloc_new _ _
    have blV1 : Below w2.heap.size w2 V1 := by rw [← hV1]; exact below_alloc _ _
    replace AS : Hid (At V1 x N fun i => .string (S i)) := At.below AS.out blV1
    replace AX : Hid (At V1 x1 N fun i => .string (S i)) := At.below AX.out blV1
    replace G : Hid (Below w.heap.size w V1) := Below.comp G.out blV1
    clear blV1
    obtain ⟨qx0, qx1, qx2, -, -, -⟩ := box3_cells Bx.out
    go_wp2_with fail
    refine (CB.out _ AS.out).mono ?_
    rintro e w3 ⟨c3, x2, cx2, rfl, m3⟩
    unfold sv
    clear hV1 ekkx
    clear qx0 qx1 qx2
    replace Bx : Hid (w3.heap[kkx]? = some (.cells #[.slice x1 (N) cx1, .string (P), .string (Q)] 26 (0, 0))) := box_on Bx.out c3
    replace AS : Hid (At w3 x N fun i => .string (S i)) := At.below AS.out c3
    replace AX : Hid (At w3 x1 N fun i => .string (S i)) := At.below AX.out c3
    replace G : Hid (Below w.heap.size w w3) := Below.comp G.out c3
    have AY : Hid (At w3 x2 N fun i => .string (S i)) := m3.strs
    clear c3 m3
    obtain ⟨V2, hV2⟩ : ∃ V2, w3.alloc (.cells #[.slice x2 (N) cx2, .string (P), .string (Q)] 26) = V2 := ⟨_, rfl⟩
    obtain ⟨kky, ekky⟩ : ∃ kky, w3.heap.size = kky := ⟨_, rfl⟩
    have By : Hid (V2.heap[kky]? = some (.cells #[.slice x2 (N) cx2, .string (P), .string (Q)] 26 (0, 0))) := by show V2.heap[kky]? = _; rw [← hV2, ← ekky]; exact heap_alloc_new _ _
    have blV2 : Below w3.heap.size w3 V2 := by rw [← hV2]; exact below_alloc _ _
    replace Bx : Hid (V2.heap[kkx]? = some (.cells #[.slice x1 (N) cx1, .string (P), .string (Q)] 26 (0, 0))) := box_on Bx.out blV2
    replace AS : Hid (At V2 x N fun i => .string (S i)) := At.below AS.out blV2
    replace AX : Hid (At V2 x1 N fun i => .string (S i)) := At.below AX.out blV2
    replace AY : Hid (At V2 x2 N fun i => .string (S i)) := At.below AY.out blV2
    replace G : Hid (Below w.heap.size w V2) := Below.comp G.out blV2
    clear blV2
    obtain ⟨qx0, qx1, qx2, -, -, -⟩ := box3_cells Bx.out
    obtain ⟨qy0, qy1, qy2, -, -, -⟩ := box3_cells By.out
    go_wp2_with fail
    refine (sameStripes_t x1 x2 N cx1 cx2 S P Q _ (by omega) AX.out AY.out).mono ?_
    rintro e w4 ⟨rfl, c4⟩
    clear hV2 ekky
    clear qx0 qx1 qx2
    clear qy0 qy1 qy2
    replace Bx : Hid (w4.heap[kkx]? = some (.cells #[.slice x1 (N) cx1, .string (P), .string (Q)] 26 (0, 0))) := box_on Bx.out c4
    replace By : Hid (w4.heap[kky]? = some (.cells #[.slice x2 (N) cx2, .string (P), .string (Q)] 26 (0, 0))) := box_on By.out c4
    replace AS : Hid (At w4 x N fun i => .string (S i)) := At.below AS.out c4
    replace AX : Hid (At w4 x1 N fun i => .string (S i)) := At.below AX.out c4
    replace AY : Hid (At w4 x2 N fun i => .string (S i)) := At.below AY.out c4
    replace G : Hid (Below w.heap.size w w4) := Below.comp G.out c4
    clear c4 CA CB
    go_upto_if 60 with (fail)
    go_cut [] (fun wx => Below w.heap.size w wx)
    case first =>
      obtain ⟨qx0, qx1, qx2, -, -, -⟩ := box3_cells Bx.out
      obtain ⟨qy0, qy1, qy2, -, -, -⟩ := box3_cells By.out
      go_wp2_with fail
      refine (CK.out x1 cx1 _ AX.out (ht.below G.out hz0) (Nat.lt_of_lt_of_le hz0 G.out.size)).mono ?_
      rintro e w5 ⟨rfl, c5⟩
      clear qx0 qx1 qx2
      clear qy0 qy1 qy2
      replace Bx : Hid (w5.heap[kkx]? = some (.cells #[.slice x1 (N) cx1, .string (P), .string (Q)] 26 (0, 0))) := box_on Bx.out c5
      replace By : Hid (w5.heap[kky]? = some (.cells #[.slice x2 (N) cx2, .string (P), .string (Q)] 26 (0, 0))) := box_on By.out c5
      replace AS : Hid (At w5 x N fun i => .string (S i)) := At.below AS.out c5
      replace AX : Hid (At w5 x1 N fun i => .string (S i)) := At.below AX.out c5
      replace AY : Hid (At w5 x2 N fun i => .string (S i)) := At.below AY.out c5
      replace G : Hid (Below w.heap.size w w5) := Below.comp G.out c5
      clear c5 CK
      obtain ⟨qx0, qx1, qx2, -, -, -⟩ := box3_cells Bx.out
      obtain ⟨qy0, qy1, qy2, -, -, -⟩ := box3_cells By.out
      go_wp2_with fail
      refine (CG.out x1 cx1 _ AX.out).mono ?_
      rintro e w6 ⟨rfl, c6⟩
      clear qx0 qx1 qx2
      clear qy0 qy1 qy2
      replace Bx : Hid (w6.heap[kkx]? = some (.cells #[.slice x1 (N) cx1, .string (P), .string (Q)] 26 (0, 0))) := box_on Bx.out c6
      replace By : Hid (w6.heap[kky]? = some (.cells #[.slice x2 (N) cx2, .string (P), .string (Q)] 26 (0, 0))) := box_on By.out c6
      replace AS : Hid (At w6 x N fun i => .string (S i)) := At.below AS.out c6
      replace AX : Hid (At w6 x1 N fun i => .string (S i)) := At.below AX.out c6
      replace AY : Hid (At w6 x2 N fun i => .string (S i)) := At.below AY.out c6
      replace G : Hid (Below w.heap.size w w6) := Below.comp G.out c6
      clear c6 CG
      obtain ⟨m, hm⟩ : ∃ m, numF T' n' = m := ⟨_, rfl⟩
      have hml := numF_lt T' n'
      rw [hm] at hml
      have CN : Hid (∀ W, Below w.heap.size w W → Calls Tryd.prog 11 #[.slice a' n' cap'] W fun e w' => e = .returned (.int .i64 (m : Nat)) ∧ w' = W) := fun W hW => by
        have := number_any a' n' cap' T' W hn' hT' (hc'.below hW)
        rw [hm] at this
        exact this
      clear hm
      obtain ⟨qx0, qx1, qx2, -, -, -⟩ := box3_cells Bx.out
      obtain ⟨qy0, qy1, qy2, -, -, -⟩ := box3_cells By.out
      have hN0 : ¬ (N : Int) + 2 = 0 := by omega
      go_wp2_with fail
      refine (CN.out _ G.out).mono ?_
      rintro e w7 ⟨rfl, rfl⟩
      go_wp2_with fail
      refine (CN.out _ G.out).mono ?_
      rintro e w7 ⟨rfl, rfl⟩
      go_wp2_with fail
      have hnb := num_b (N := N) hml
      simp only [num_a m N, hnb]
      clear hnb
      have hka : m % (N + 2) < N + 2 := Nat.mod_lt _ (by omega)
      have hkb : m / (N + 2) % (N + 2) < N + 2 := Nat.mod_lt _ (by omega)
      generalize m % (N + 2) = ka at *
      generalize m / (N + 2) % (N + 2) = kc at *
      clear CN hml
      have SS : Hid (∀ V, Below w7.heap.size w7 V → (fun W => W.cell? ⟨kkx, 0, none⟩ = some (.slice x1 N cx1) ∧ W.cell? ⟨kkx, 1, none⟩ = some (.string P) ∧ W.cell? ⟨kkx, 2, none⟩ = some (.string Q)) V) := fun V hV => ⟨cell_on qx0 hV, cell_on qx1 hV, cell_on qx2 hV⟩
      have SA : Hid (∀ V, Below w7.heap.size w7 V → At V x1 N fun i => .string (S i)) := fun V hV => At.below AX.out hV
      obtain ⟨i0, hi, hz1, hz2, hz3⟩ := info_parts info9
      go_cut [15] (fun p wx => ∃ b g cg cur, p = .pointer (some ⟨b, 0, none⟩) ∧ w7.heap.size ≤ b ∧ w7.heap.size ≤ g ∧ b ≠ g ∧ wx.heap[b]? = some (.cells #[.slice (some ⟨g, 0, none⟩) N cg, .string P, .string Q] 26 (0, 0)) ∧ wx.heap[g]? = some (.cells cur 9 (0, 0)) ∧ strs N S cur ∧ Below w7.heap.size w7 wx)
      case first =>
        have n0 : Below w7.heap.size w7 w7.drew := (Below.refl _ _).drew
        refine wp_region_heldN (fun W => W.cell? ⟨kkx, 0, none⟩ = some (.slice x1 N cx1) ∧ W.cell? ⟨kkx, 1, none⟩ = some (.string P) ∧ W.cell? ⟨kkx, 2, none⟩ = some (.string Q)) 11 (by kernel_rfl) rfl (SS.out _ n0) (fun hS => ?_)
        clear qx0 qx1 qx2 qy0 qy1 qy2
        generalize w7.drew = X0 at *
        refine tkH (i := 1) (d := 91) (v := ?_) rfl rfl (by kernel_rfl) (by kernel_rfl) (by kernel_rfl) (fun _ _ _ h => h) (Or.inl ⟨by rfl, by intro wq hSq; obtain ⟨s0, s1, s2⟩ := hSq; go_simp; try with_reducible rfl⟩) hS ?_
        simp only [List.setIfInBounds_toArray, List.set_cons_zero, List.set_cons_succ]
        refine tkH (i := 2) (d := 92) (v := ?_) rfl rfl (by kernel_rfl) (by kernel_rfl) (by kernel_rfl) (fun _ _ _ h => h) (Or.inl ⟨by rfl, by intro wq hSq; obtain ⟨s0, s1, s2⟩ := hSq; go_simp; try with_reducible rfl⟩) hS ?_
        simp only [List.setIfInBounds_toArray, List.set_cons_zero, List.set_cons_succ]
        refine tkH (i := 4) (d := 94) (v := ?_) rfl rfl (by kernel_rfl) (by kernel_rfl) (by kernel_rfl) (fun _ _ _ h => h) (Or.inl ⟨by rfl, by intro wq hSq; obtain ⟨s0, s1, s2⟩ := hSq; go_simp; try with_reducible rfl⟩) hS ?_
        simp only [List.setIfInBounds_toArray, List.set_cons_zero, List.set_cons_succ]
        refine tkH (i := 5) (d := 95) (v := ?_) rfl rfl (by kernel_rfl) (by kernel_rfl) (by kernel_rfl) (fun _ _ _ h => h) (Or.inl ⟨by rfl, by intro wq hSq; obtain ⟨s0, s1, s2⟩ := hSq; go_simp; try with_reducible rfl⟩) hS ?_
        simp only [List.setIfInBounds_toArray, List.set_cons_zero, List.set_cons_succ]
        refine tkH (i := 6) (d := 96) (v := ?_) rfl rfl (by kernel_rfl) (by kernel_rfl) (by kernel_rfl) (fun _ _ _ h => h) (Or.inl ⟨by rfl, by intro wq hSq; obtain ⟨s0, s1, s2⟩ := hSq; go_simp; try with_reducible rfl⟩) hS ?_
        simp only [List.setIfInBounds_toArray, List.set_cons_zero, List.set_cons_succ]
        refine tkH (i := 7) (d := 97) (v := ?_) rfl rfl (by kernel_rfl) (by kernel_rfl) (by kernel_rfl) (fun _ _ _ h => h) (Or.inl ⟨by rfl, by intro wq hSq; obtain ⟨s0, s1, s2⟩ := hSq; go_simp; try with_reducible rfl⟩) hS ?_
        simp only [List.setIfInBounds_toArray, List.set_cons_zero, List.set_cons_succ]
        refine wpAnyH_ready (rs := [0, 9]) (by kernel_rfl) (by simp) (AllReadyH.cons rfl (fun K hK => ?_) (AllReadyH.cons rfl (fun K hK => ?_) AllReadyH.nil))
        · obtain ⟨X1, hX1⟩ : ∃ vx, X0.alloc (.cells #[] 9) = vx := ⟨_, rfl⟩
          have b1 : Below X0.heap.size X0 X1 := by rw [← hX1]; exact below_alloc _ _
          have n1 := Below.comp n0 b1
          have own1 : X1.ownsRow w7.heap.size 9 1 (.slice (some ⟨X0.heap.size, 0, none⟩) 0 0) 0 [] := by rw [← hX1]; exact World.ownsRow_made (e := 9) (size := 1) (base := w7.heap.size) X0 #[] 0 n0.size (by decide) (by simp)
          have OWN1 : Hid (X1.ownsRow w7.heap.size 9 1 (.slice (some ⟨X0.heap.size, 0, none⟩) 0 0) 0 []) := own1
          clear own1
          go_simp
          clear hX1
          refine hK.out _ _ (SS.out _ n1) (fun hS => ?_)
          clear hK K
          refine wpAnyH_ready (rs := [3, 9]) (by kernel_rfl) (by simp) (AllReadyH.cons rfl (fun K hK => ?_) (AllReadyH.cons rfl (fun K hK => ?_) AllReadyH.nil))
          · obtain ⟨gb, go, gx, hcell⟩ := (SA.out _ n1) (by omega)
            have hsrc := strCells_src hcell
            refine wp_append_own _ _ _ 23 rfl w7.heap.size 9 i0 _ 1 16 Tryd.underlying23 hi hz1 hz2 hz3 rfl (by decide) (.slice (some ⟨X0.heap.size, 0, none⟩) 0 0) 0 [] rfl OWN1.out ⟨gb, go, none⟩ N cx1 (strCells N S) (by rw [← gx]; rfl) (by rw [strCells_len]; omega) hsrc (strCells_one _ _) (by unfold maxLen; omega) (by omega) n1.size ?_
            intro v' X2 hown2 hgrow _
            obtain ⟨g, cg, cur, hv, hg0, hg1, hg2, hg3⟩ := owns_mine hown2 (by omega)
            subst hv
            clear hown2
            have n2 : Below w7.heap.size w7 X2 := n1.trans (Grown.below hgrow n1.size (by intro k hk; exact (World.ownsRow.lt OWN1.out k hk).1))
            have hst : strs N S cur := fun i hi => by rw [hg3 i (by omega)]; exact strCells_at N S hi
            have HRW : Hid (X2.heap[g]? = some (.cells cur 9 (0, 0))) := hg1
            simp only [Act.put, List.setIfInBounds_toArray]
            refine hK.out _ _ (SS.out _ n2) (fun hS => ?_)
            clear hK K hcell hsrc
            refine tkH (i := 8) (d := 98) (v := ?_) rfl rfl (by kernel_rfl) (by kernel_rfl) (by kernel_rfl) (fun _ _ _ h => h) (Or.inl ⟨by rfl, by intro wq hSq; obtain ⟨s0, s1, s2⟩ := hSq; go_simp; try with_reducible rfl⟩) hS ?_
            simp only [List.setIfInBounds_toArray, List.set_cons_zero, List.set_cons_succ]
            refine wpAnyH_ready (rs := [9]) (by kernel_rfl) (by simp) (AllReadyH.cons rfl (fun K hK => ?_) AllReadyH.nil)
            obtain ⟨X3, hX3⟩ : ∃ vx, X2.alloc (.cells #[.slice none 0 0, .string ⟨#[]⟩, .string ⟨#[]⟩] 26) = vx := ⟨_, rfl⟩
            have b3 : Below X2.heap.size X2 X3 := by rw [← hX3]; exact below_alloc _ _
            have n3 := Below.comp n2 b3
            have HB : Hid (X3.heap[X2.heap.size]? = some (.cells #[.slice none 0 0, .string ⟨#[]⟩, .string ⟨#[]⟩] 26 (0, 0))) := by
              show X3.heap[X2.heap.size]? = _
              rw [← hX3]; exact heap_alloc_new _ _
            have hbk := n2.size
            replace HRW : Hid (X3.heap[g]? = some (.cells cur 9 (0, 0))) := box_on HRW.out b3
            go_simp
            clear hX3
            refine hK.out _ _ (SS.out _ n3) (fun hS => ?_)
            clear hK K
            have hbg : X2.heap.size ≠ g := fun e => by
              have h1 := HB.out
              rw [e, HRW.out] at h1
              simp at h1
            obtain ⟨Wf, hWf, bf, of⟩ := box3_sets (v0 := .slice (some ⟨g, 0, none⟩) N cg) (v1 := .string P) (v2 := .string Q) HB.out
            obtain ⟨r0, r1, r2, f0, f1, f2⟩ := box3_cells HB.out
            have nf : Below w7.heap.size w7 Wf := n3.trans ((of.below (Nat.le_of_lt (box_lt HB.out))).mono hbk)
            have hrf := box_out HRW.out of (by omega)
            refine wpAnyH_ready (rs := [10]) (by kernel_rfl) (by simp) (AllReadyH.cons rfl (fun K hK => ?_) AllReadyH.nil)
            go_simp
            refine hK.out _ _ (SS.out _ nf) (fun hS => ?_)
            clear hK K
            refine wpAnyH_done (by kernel_rfl) ?_ _
            go_wp2_with fail
            go_meet
            exact ⟨_, g, cg, cur, rfl, hbk, hg0, hbg, bf, hrf, hst, nf⟩
          · obtain ⟨X2, hX2⟩ : ∃ vx, X1.alloc (.cells #[.slice none 0 0, .string ⟨#[]⟩, .string ⟨#[]⟩] 26) = vx := ⟨_, rfl⟩
            have b2 : Below X1.heap.size X1 X2 := by rw [← hX2]; exact below_alloc _ _
            have n2 := Below.comp n1 b2
            have HB : Hid (X2.heap[X1.heap.size]? = some (.cells #[.slice none 0 0, .string ⟨#[]⟩, .string ⟨#[]⟩] 26 (0, 0))) := by
              show X2.heap[X1.heap.size]? = _
              rw [← hX2]; exact heap_alloc_new _ _
            have hbk := n1.size
            have OWN2 : Hid (X2.ownsRow w7.heap.size 9 1 (.slice (some ⟨X0.heap.size, 0, none⟩) 0 0) 0 []) := by
              have := World.ownsRow.alloc OWN1.out (.cells #[.slice none 0 0, .string ⟨#[]⟩, .string ⟨#[]⟩] 26)
              rw [hX2] at this
              exact this
            have hne : X0.heap.size < X1.heap.size := (World.ownsRow.lt OWN1.out _ rfl).2
            go_simp
            clear hX2
            refine hK.out _ _ (SS.out _ n2) (fun hS => ?_)
            clear hK K
            refine wpAnyH_ready (rs := [3]) (by kernel_rfl) (by simp) (AllReadyH.cons rfl (fun K hK => ?_) AllReadyH.nil)
            obtain ⟨gb, go, gx, hcell⟩ := (SA.out _ n2) (by omega)
            have hsrc := strCells_src hcell
            refine wp_append_own _ _ _ 23 rfl w7.heap.size 9 i0 _ 1 16 Tryd.underlying23 hi hz1 hz2 hz3 rfl (by decide) (.slice (some ⟨X0.heap.size, 0, none⟩) 0 0) 0 [] rfl OWN2.out ⟨gb, go, none⟩ N cx1 (strCells N S) (by rw [← gx]; rfl) (by rw [strCells_len]; omega) hsrc (strCells_one _ _) (by unfold maxLen; omega) (by omega) n2.size ?_
            intro v' X3 hown2 hgrow _
            obtain ⟨g, cg, cur, hv, hg0, hg1, hg2, hg3⟩ := owns_mine hown2 (by omega)
            subst hv
            clear hown2
            have n3 : Below w7.heap.size w7 X3 := n2.trans (Grown.below hgrow n2.size (by intro k hk; exact (World.ownsRow.lt OWN2.out k hk).1))
            have hst : strs N S cur := fun i hi => by rw [hg3 i (by omega)]; exact strCells_at N S hi
            have HRW : Hid (X3.heap[g]? = some (.cells cur 9 (0, 0))) := hg1
            replace HB : Hid (X3.heap[X1.heap.size]? = some (.cells #[.slice none 0 0, .string ⟨#[]⟩, .string ⟨#[]⟩] 26 (0, 0))) := (hgrow.block _ (box_lt HB.out) (by intro e; have e' : X1.heap.size = X0.heap.size := Option.some.inj e; omega)).trans HB.out
            simp only [Act.put, List.setIfInBounds_toArray]
            refine hK.out _ _ (SS.out _ n3) (fun hS => ?_)
            clear hK K hcell hsrc
            refine tkH (i := 8) (d := 98) (v := ?_) rfl rfl (by kernel_rfl) (by kernel_rfl) (by kernel_rfl) (fun _ _ _ h => h) (Or.inl ⟨by rfl, by intro wq hSq; obtain ⟨s0, s1, s2⟩ := hSq; go_simp; try with_reducible rfl⟩) hS ?_
            simp only [List.setIfInBounds_toArray, List.set_cons_zero, List.set_cons_succ]
            have hbg : X1.heap.size ≠ g := fun e => by
              have h1 := HB.out
              rw [e, HRW.out] at h1
              simp at h1
            obtain ⟨Wf, hWf, bf, of⟩ := box3_sets (v0 := .slice (some ⟨g, 0, none⟩) N cg) (v1 := .string P) (v2 := .string Q) HB.out
            obtain ⟨r0, r1, r2, f0, f1, f2⟩ := box3_cells HB.out
            have nf : Below w7.heap.size w7 Wf := n3.trans ((of.below (Nat.le_of_lt (box_lt HB.out))).mono hbk)
            have hrf := box_out HRW.out of (by omega)
            refine wpAnyH_ready (rs := [10]) (by kernel_rfl) (by simp) (AllReadyH.cons rfl (fun K hK => ?_) AllReadyH.nil)
            go_simp
            refine hK.out _ _ (SS.out _ nf) (fun hS => ?_)
            clear hK K
            refine wpAnyH_done (by kernel_rfl) ?_ _
            go_wp2_with fail
            go_meet
            exact ⟨_, g, cg, cur, rfl, hbk, hg0, hbg, bf, hrf, hst, nf⟩
        · obtain ⟨X1, hX1⟩ : ∃ vx, X0.alloc (.cells #[.slice none 0 0, .string ⟨#[]⟩, .string ⟨#[]⟩] 26) = vx := ⟨_, rfl⟩
          have b1 : Below X0.heap.size X0 X1 := by rw [← hX1]; exact below_alloc _ _
          have n1 := Below.comp n0 b1
          have HB : Hid (X1.heap[X0.heap.size]? = some (.cells #[.slice none 0 0, .string ⟨#[]⟩, .string ⟨#[]⟩] 26 (0, 0))) := by
            show X1.heap[X0.heap.size]? = _
            rw [← hX1]; exact heap_alloc_new _ _
          have hbk := n0.size
          have hne : X0.heap.size < X1.heap.size := box_lt HB.out
          go_simp
          clear hX1
          refine hK.out _ _ (SS.out _ n1) (fun hS => ?_)
          clear hK K
          refine wpAnyH_ready (rs := [0]) (by kernel_rfl) (by simp) (AllReadyH.cons rfl (fun K hK => ?_) AllReadyH.nil)
          obtain ⟨X2, hX2⟩ : ∃ vx, X1.alloc (.cells #[] 9) = vx := ⟨_, rfl⟩
          have b2 : Below X1.heap.size X1 X2 := by rw [← hX2]; exact below_alloc _ _
          have n2 := Below.comp n1 b2
          have own2 : X2.ownsRow w7.heap.size 9 1 (.slice (some ⟨X1.heap.size, 0, none⟩) 0 0) 0 [] := by rw [← hX2]; exact World.ownsRow_made (e := 9) (size := 1) (base := w7.heap.size) X1 #[] 0 n1.size (by decide) (by simp)
          have OWN2 : Hid (X2.ownsRow w7.heap.size 9 1 (.slice (some ⟨X1.heap.size, 0, none⟩) 0 0) 0 []) := own2
          clear own2
          replace HB : Hid _ := box_on HB.out b2
          go_simp
          clear hX2
          refine hK.out _ _ (SS.out _ n2) (fun hS => ?_)
          clear hK K
          refine wpAnyH_ready (rs := [3]) (by kernel_rfl) (by simp) (AllReadyH.cons rfl (fun K hK => ?_) AllReadyH.nil)
          obtain ⟨gb, go, gx, hcell⟩ := (SA.out _ n2) (by omega)
          have hsrc := strCells_src hcell
          refine wp_append_own _ _ _ 23 rfl w7.heap.size 9 i0 _ 1 16 Tryd.underlying23 hi hz1 hz2 hz3 rfl (by decide) (.slice (some ⟨X1.heap.size, 0, none⟩) 0 0) 0 [] rfl OWN2.out ⟨gb, go, none⟩ N cx1 (strCells N S) (by rw [← gx]; rfl) (by rw [strCells_len]; omega) hsrc (strCells_one _ _) (by unfold maxLen; omega) (by omega) n2.size ?_
          intro v' X3 hown2 hgrow _
          obtain ⟨g, cg, cur, hv, hg0, hg1, hg2, hg3⟩ := owns_mine hown2 (by omega)
          subst hv
          clear hown2
          have n3 : Below w7.heap.size w7 X3 := n2.trans (Grown.below hgrow n2.size (by intro k hk; exact (World.ownsRow.lt OWN2.out k hk).1))
          have hst : strs N S cur := fun i hi => by rw [hg3 i (by omega)]; exact strCells_at N S hi
          have HRW : Hid (X3.heap[g]? = some (.cells cur 9 (0, 0))) := hg1
          replace HB : Hid (X3.heap[X0.heap.size]? = some (.cells #[.slice none 0 0, .string ⟨#[]⟩, .string ⟨#[]⟩] 26 (0, 0))) := (hgrow.block _ (box_lt HB.out) (by intro e; have e' : X0.heap.size = X1.heap.size := Option.some.inj e; omega)).trans HB.out
          simp only [Act.put, List.setIfInBounds_toArray]
          refine hK.out _ _ (SS.out _ n3) (fun hS => ?_)
          clear hK K hcell hsrc
          refine tkH (i := 8) (d := 98) (v := ?_) rfl rfl (by kernel_rfl) (by kernel_rfl) (by kernel_rfl) (fun _ _ _ h => h) (Or.inl ⟨by rfl, by intro wq hSq; obtain ⟨s0, s1, s2⟩ := hSq; go_simp; try with_reducible rfl⟩) hS ?_
          simp only [List.setIfInBounds_toArray, List.set_cons_zero, List.set_cons_succ]
          have hbg : X0.heap.size ≠ g := fun e => by
            have h1 := HB.out
            rw [e, HRW.out] at h1
            simp at h1
          obtain ⟨Wf, hWf, bf, of⟩ := box3_sets (v0 := .slice (some ⟨g, 0, none⟩) N cg) (v1 := .string P) (v2 := .string Q) HB.out
          obtain ⟨r0, r1, r2, f0, f1, f2⟩ := box3_cells HB.out
          have nf : Below w7.heap.size w7 Wf := n3.trans ((of.below (Nat.le_of_lt (box_lt HB.out))).mono hbk)
          have hrf := box_out HRW.out of (by omega)
          refine wpAnyH_ready (rs := [10]) (by kernel_rfl) (by simp) (AllReadyH.cons rfl (fun K hK => ?_) AllReadyH.nil)
          go_simp
          refine hK.out _ _ (SS.out _ nf) (fun hS => ?_)
          clear hK K
          refine wpAnyH_done (by kernel_rfl) ?_ _
          go_wp2_with fail
          go_meet
          exact ⟨_, g, cg, cur, rfl, hbk, hg0, hbg, bf, hrf, hst, nf⟩
      obtain ⟨kb, kg, cg, cur, rfl, hkb0, hkg, hkn, hbox, hrow, hst, bcut⟩ := hcut
      have HX7 : Hid _ := Bx.out
      have GX7 : Hid _ := G.out
      have AX7 : Hid _ := AX.out
      clear qx0 qx1 qx2 qy0 qy1 qy2 SS SA By AY AS
      obtain ⟨V, hV⟩ : ∃ V, wc.alloc (.cells #[.int .i64 (ka : Int), .int .i64 (kc : Int)] 3) = V := ⟨_, rfl⟩
      obtain ⟨rI, erI⟩ : ∃ r, wc.heap.size = r := ⟨_, rfl⟩
      have bV : Below wc.heap.size wc V := by rw [← hV]; exact below_alloc _ _
      have HI : Hid (V.heap[rI]? = some (.cells #[.int .i64 (ka : Int), .int .i64 (kc : Int)] 3 (0, 0))) := by
        show V.heap[rI]? = _
        rw [← hV, ← erI]; exact heap_alloc_new _ _
      have hIg : rI ≠ kg := by have := box_lt hrow; omega
      have hIb : rI ≠ kb := by have := box_lt hbox; omega
      have hIw : w7.heap.size ≤ rI := by rw [← erI]; exact bcut.size
      replace hbox := box_on hbox bV
      replace hrow := box_on hrow bV
      have bc := Below.comp bcut bV
      clear bcut bV
      go_wp2_with fail
      clear hV erI
      go_loopw [103] (fun i wr => ∃ (j : Nat) (D' : Nat → ByteArray) (P' Q' : ByteArray) (cur' : Array Value), j ≤ 2 ∧ i = .int .i64 j ∧ Ch N S P Q ka kc j D' P' Q' ∧ wr.heap[kb]? = some (.cells #[.slice (some ⟨kg, 0, none⟩) N cg, .string P', .string Q'] 26 (0, 0)) ∧ wr.heap[kg]? = some (.cells cur' 9 (0, 0)) ∧ strs N D' cur' ∧ wr.heap[rI]? = some (.cells #[.int .i64 (ka : Int), .int .i64 (kc : Int)] 3 (0, 0)) ∧ Below w7.heap.size w7 wr) (fun i _ => 2 - (intOf i).toNat)
      case atStart => exact ⟨0, S, P, Q, cur, by omega, rfl, Ch.zero _ _ _ _ _ _, hbox, hrow, hst, HI.out, bc⟩
      case round =>
        clear hbox hrow hst HI bc
        obtain ⟨j, D', P', Q', cur', hj, rfl, hCh, hB, hR, hst, hI, hbel⟩ := hrel
        by_cases hlt : j < 2
        · have hlt' : (j : Int) < 2 := by omega
          have hkk : kj ka kc j < N + 2 := by unfold kj; split <;> assumption
          have hcI : wr.cell? ⟨rI, j, none⟩ = some (.int .i64 ((kj ka kc j : Nat) : Int)) := by
            refine cell_of_block hI ?_
            rcases (by omega : j = 0 ∨ j = 1) with rfl | rfl <;> rfl
          have HCH : Hid (∀ t : ByteArray, t.size = P.size → Ch N S P Q ka kc (j + 1) (sD N D' (kj ka kc j) t) (sP N P' (kj ka kc j) t) (sQ N Q' (kj ka kc j) t)) := fun t ht => hCh.step hlt ht
          clear hCh
          generalize kj ka kc j = kk at *
          obtain ⟨qx0, qx1, qx2, -, -, -⟩ := box3_cells (box_on HX7.out hbel)
          obtain ⟨V1, hV1⟩ : ∃ V1, wr.alloc (.cells (made (.int .u8 0) P.size) 5) = V1 := ⟨_, rfl⟩
          obtain ⟨rT, erT⟩ : ∃ r, wr.heap.size = r := ⟨_, rfl⟩
          have bV1 : Below wr.heap.size wr V1 := by rw [← hV1]; exact below_alloc _ _
          have HT : Hid (V1.heap[rT]? = some (.cells (made (.int .u8 0) P.size) 5 (0, 0))) := by
            show V1.heap[rT]? = _
            rw [← hV1, ← erT]; exact heap_alloc_new _ _
          have lB := box_lt hB
          have lR := box_lt hR
          have lI := box_lt hI
          have lbel := hbel.size
          have HB1 : Hid _ := box_on hB bV1
          have HR1 : Hid _ := box_on hR bV1
          have HI1 : Hid _ := box_on hI bV1
          have N1 : Hid _ := Below.comp hbel bV1
          rw [erT] at lB lR lI lbel
          clear hB hR hI bV1 hbel
          have hmk := make_any (P := Tryd.prog) 22 5 _ 1 1 Tryd.underlying22 info5 .i64 .i64 P.size (by omega) (by omega)
          go_wp2_with fail
          try simp only [Nat.mul_one, hV1]
          clear hmk hV1 erT qx0 qx1 qx2 hcI
          generalize hL : P.size = L at *
          go_loopw [113] (fun i wi => ∃ (q : Nat) (c : Array Value) (f : Nat → Nat), q ≤ L ∧ i = .int .i64 q ∧ (∀ k, f k < 256) ∧ wi.heap[rT]? = some (.cells c 5 (0, 0)) ∧ bys L f c ∧ Out rT (rT + 1) V1 wi) (fun i _ => L - (intOf i).toNat)
          case atStart => exact ⟨0, _, fun _ => 0, Nat.zero_le _, rfl, fun _ => (by decide : 0 < 256), HT.out, bys_made L, Out.refl _ _ _⟩
          case round =>
            obtain ⟨q, c, f, hq, rfl, hf, hT1, hbys, oi⟩ := hrel
            by_cases hql : q < L
            · have hql' : (q : Int) < (L : Int) := by omega
              have fT := free_of_block (i := q) hT1
              have gT := cell_of_block hT1 (hbys q hql)
              obtain ⟨bv, hbv, hbl⟩ := byte_ex (wrap64 (wrap64 ((kk : Int) * (q : Int)) + (n' : Int)))
              go_wp2
              all_goals
                go_roundw
                case rel => exact ⟨q + 1, _, upf f q bv, by omega, by go_num, fun k => by unfold upf; split <;> first | exact hbl | exact hf k, by first | exact block_set hT1 | (simp only [hbv]; exact block_set hT1), bys_upf hbys hql, by first | exact oi.trans (out_setCell _ _ _ _) | (simp only [hbv]; exact oi.trans (out_setCell _ _ _ _))⟩
                case measure => simp [intOf]; omega
            · obtain rfl : q = L := by omega
              have hql' : ¬ (q : Int) < (q : Int) := by omega
              have m1 : At wr (some ⟨rT, 0, none⟩) q (by' f) := fun _ => ⟨_, 0, rfl, fun i hi => by rw [Nat.zero_add, cell_of_block hT1 (hbys i hi)]; rfl⟩
              have v1 : (convert 22 9 (.slice (some ⟨rT, 0, none⟩) q q)).run Tryd.prog wr = .ok (.string (tx q f)) wr := conv_any q hf m1
              have hts : (tx q f).size = q := tx_size _ _
              have lT := box_lt HT.out
              have hBi := box_out HB1.out oi (.inl lB)
              have hRi := box_out HR1.out oi (.inl lR)
              have hIi := box_out HI1.out oi (.inl lI)
              have ni := N1.out.trans ((oi.below (Nat.le_of_lt lT)).mono lbel)
              generalize tx q f = t at *
              have hch := HCH.out t hts
              clear m1 hT1 hbys oi HCH HB1 HR1 HI1 N1 HT
              obtain ⟨p0, p1, p2, pf0, pf1, pf2⟩ := box3_cells hBi
              rcases (by omega : kk < N ∨ kk = N ∨ kk = N + 1) with hd | hd | hd
              · have hd' : (kk : Int) < (N : Int) := by omega
                have gk := cell_of_block hRi (hst kk hd)
                have fk := free_of_block (i := kk) hRi
                rw [sD_d hd, sP_n (by omega), sQ_n (by omega)] at hch
                go_wp2
                go_roundw
                case rel => exact ⟨j + 1, _, P', Q', _, by omega, by go_num, hch, box_out hBi (out_setCell _ kg kk _) (by omega), block_set hRi, strs_set hst hd t, box_out hIi (out_setCell _ kg kk _) (by omega), ni.setCell hkg _⟩
                case measure => simp [intOf]; omega
              · have hd' : ¬ (kk : Int) < (N : Int) := by omega
                subst hd
                rw [sD_n (by omega), sP_p, sQ_n (by omega)] at hch
                go_wp2
                go_roundw
                case rel => exact ⟨j + 1, D', t, Q', _, by omega, by go_num, hch, block_set hBi, box_out hRi (out_setCell _ kb 1 _) (by omega), hst, box_out hIi (out_setCell _ kb 1 _) (by omega), ni.setCell hkb0 _⟩
                case measure => simp [intOf]; omega
              · have hd' : ¬ (kk : Int) < (N : Int) := by omega
                have hd2 : ¬ (kk : Int) = (N : Int) := by omega
                subst hd
                rw [sD_n (by omega), sP_n (by omega), sQ_q] at hch
                go_wp2
                go_roundw
                case rel => exact ⟨j + 1, D', P', t, _, by omega, by go_num, hch, block_set hBi, box_out hRi (out_setCell _ kb 2 _) (by omega), hst, box_out hIi (out_setCell _ kb 2 _) (by omega), ni.setCell hkb0 _⟩
                case measure => simp [intOf]; omega
        · obtain rfl : j = 2 := by omega
          have hlt' : ¬ (2 : Int) < 2 := by omega
          have hA := hCh.alt HG.out HR.out hka hkb
          obtain ⟨z1, z2, z3⟩ := hA.size_Q
          have hDs : ∀ i, i < N → (D' i).size ≤ 9223372036854775807 := fun i hi => by have := z3 i hi; omega
          have AK : Hid (At wr (some ⟨kg, 0, none⟩) N fun i => .string (D' i)) := fun _ => ⟨kg, 0, rfl, fun i hi => by rw [Nat.zero_add]; exact cell_of_block hR (hst i hi)⟩
          have AX : Hid (At wr x1 N fun i => .string (S i)) := At.below AX7.out hbel
          have G : Hid (Below w.heap.size w wr) := Below.comp GX7.out hbel
          have Bx : Hid (wr.heap[kkx]? = some (.cells #[.slice x1 (N) cx1, .string (P), .string (Q)] 26 (0, 0))) := box_on HX7.out hbel
          have Bb : Hid (wr.heap[kb]? = some (.cells #[.slice (some ⟨kg, 0, none⟩) (N) cg, .string (P'), .string (Q')] 26 (0, 0))) := hB
          clear hB hR hI hst HX7 GX7 AX7 hbel hCh
          by_cases hab : ka = kc
          · subst hab
            have hab' : (ka : Int) = (ka : Int) := rfl
            obtain ⟨e1, e2, e3⟩ := hA.recovers1
            have CO : Hid (∀ W, At W (some ⟨kg, 0, none⟩) N (fun i => .string (D' i)) → Tab W → 0 < W.heap.size → Calls Tryd.prog 13 #[sv (some ⟨kg, 0, none⟩) N cg P' Q', .int .i64 (ka : Int)] W fun e w' => RO W e w' true N (sD N D' ka (oneU N D' P' ka)) P Q) := fun W h1 h2 h3 => by
              have := implOne_any (some ⟨kg, 0, none⟩) N cg D' P' Q' (ka : Int) W (by omega) (by omega) (by omega) hDs h1 h2 h3
              have hok : okOne N D' P' Q' (ka : Int) = true := by unfold okOne; rw [hA.good', Bool.true_and]; exact decide_eq_true (by omega)
              simp only [hok, Int.toNat_natCast] at this
              have e2' : oneP true (sP N P' ka (oneU N D' P' ka)) = P := e2
              have e3' : oneP true (sQ N Q' ka (oneU N D' P' ka)) = Q := e3
              rw [e2', e3'] at this
              exact this
            generalize sD N D' ka (oneU N D' P' ka) = DD at *
            have hDD : Hid (∀ i, i < N → DD i = S i) := e1
            clear e1 e2 e3
            by_cases he : dt N D' P' Q' ka = dt N S P Q ka
            · have hfw := hA.findsNone he
              obtain ⟨g1, g2, g3⟩ := hA.all he
              have hsm : (decide (P' = P) && decide (Q' = Q) && sameB N D' S) = true := by rw [decide_eq_true g2, decide_eq_true g3, sameB_t g1]; rfl
              have HSM : Hid _ := hsm
              clear g1 g2 g3 hsm he
              have CF : Hid (∀ W, At W (some ⟨kg, 0, none⟩) N (fun i => .string (D' i)) → Tab W → 0 < W.heap.size → Calls Tryd.prog 14 #[sv (some ⟨kg, 0, none⟩) N cg P' Q'] W fun e w' => e = .returned (.tuple #[.int .i64 0, .bool false]) ∧ Below W.heap.size W w') := fun W h1 h2 h3 => by
                have := implFind_any (some ⟨kg, 0, none⟩) N cg D' P' Q' W (by omega) (by omega) (by omega) hDs h1 h2 h3
                unfold fwV at this
                rw [hfw] at this
                exact this
              unfold sv at CO CF
              clear hA hfw
              obtain ⟨qx0, qx1, qx2, -, -, -⟩ := box3_cells Bx.out
              obtain ⟨qb0, qb1, qb2, -, -, -⟩ := box3_cells Bb.out
              go_wp2_with fail
              refine (CO.out _ AK.out (ht.below G.out hz0) (Nat.lt_of_lt_of_le hz0 G.out.size)).mono ?_
              rintro e y4 ⟨bz4, v, cv, rfl, mv⟩
              unfold sv
              clear qx0 qx1 qx2
              clear qb0 qb1 qb2
              replace Bx : Hid (y4.heap[kkx]? = some (.cells #[.slice x1 (N) cx1, .string (P), .string (Q)] 26 (0, 0))) := box_on Bx.out bz4
              replace Bb : Hid (y4.heap[kb]? = some (.cells #[.slice (some ⟨kg, 0, none⟩) (N) cg, .string (P'), .string (Q')] 26 (0, 0))) := box_on Bb.out bz4
              replace AX : Hid (At y4 x1 N fun i => .string (S i)) := At.below AX.out bz4
              replace AK : Hid (At y4 (some ⟨kg, 0, none⟩) N fun i => .string (D' i)) := At.below AK.out bz4
              replace G : Hid (Below w.heap.size w y4) := Below.comp G.out bz4
              have AV : Hid (At y4 v N fun j => .string (S j)) := at_alike mv.strs hDD.out
              clear bz4 mv
              obtain ⟨V1, hV1⟩ : ∃ V1, y4.alloc (.cells #[.slice v (N) cv, .string (P), .string (Q)] 26) = V1 := ⟨_, rfl⟩
              obtain ⟨kkg, ekkg⟩ : ∃ kkg, y4.heap.size = kkg := ⟨_, rfl⟩
              have Bg : Hid (V1.heap[kkg]? = some (.cells #[.slice v (N) cv, .string (P), .string (Q)] 26 (0, 0))) := by show V1.heap[kkg]? = _; rw [← hV1, ← ekkg]; exact heap_alloc_new _ _
              have blV1 : Below y4.heap.size y4 V1 := by rw [← hV1]; exact below_alloc _ _
              replace Bx : Hid (V1.heap[kkx]? = some (.cells #[.slice x1 (N) cx1, .string (P), .string (Q)] 26 (0, 0))) := box_on Bx.out blV1
              replace Bb : Hid (V1.heap[kb]? = some (.cells #[.slice (some ⟨kg, 0, none⟩) (N) cg, .string (P'), .string (Q')] 26 (0, 0))) := box_on Bb.out blV1
              replace AX : Hid (At V1 x1 N fun i => .string (S i)) := At.below AX.out blV1
              replace AK : Hid (At V1 (some ⟨kg, 0, none⟩) N fun i => .string (D' i)) := At.below AK.out blV1
              replace AV : Hid (At V1 v N fun i => .string (S i)) := At.below AV.out blV1
              replace G : Hid (Below w.heap.size w V1) := Below.comp G.out blV1
              clear blV1
              obtain ⟨qx0, qx1, qx2, -, -, -⟩ := box3_cells Bx.out
              obtain ⟨qb0, qb1, qb2, -, -, -⟩ := box3_cells Bb.out
              obtain ⟨qg0, qg1, qg2, -, -, -⟩ := box3_cells Bg.out
              go_wp2_with fail
              refine (CF.out _ AK.out (ht.below G.out hz0) (Nat.lt_of_lt_of_le hz0 G.out.size)).mono ?_
              rintro e y5 ⟨rfl, bz5⟩
              clear hV1 ekkg
              clear qx0 qx1 qx2
              clear qb0 qb1 qb2
              clear qg0 qg1 qg2
              replace Bx : Hid (y5.heap[kkx]? = some (.cells #[.slice x1 (N) cx1, .string (P), .string (Q)] 26 (0, 0))) := box_on Bx.out bz5
              replace Bb : Hid (y5.heap[kb]? = some (.cells #[.slice (some ⟨kg, 0, none⟩) (N) cg, .string (P'), .string (Q')] 26 (0, 0))) := box_on Bb.out bz5
              replace Bg : Hid (y5.heap[kkg]? = some (.cells #[.slice v (N) cv, .string (P), .string (Q)] 26 (0, 0))) := box_on Bg.out bz5
              replace AX : Hid (At y5 x1 N fun i => .string (S i)) := At.below AX.out bz5
              replace AK : Hid (At y5 (some ⟨kg, 0, none⟩) N fun i => .string (D' i)) := At.below AK.out bz5
              replace AV : Hid (At y5 v N fun i => .string (S i)) := At.below AV.out bz5
              replace G : Hid (Below w.heap.size w y5) := Below.comp G.out bz5
              clear bz5 CO CF
              obtain ⟨qx0, qx1, qx2, -, -, -⟩ := box3_cells Bx.out
              obtain ⟨qb0, qb1, qb2, -, -, -⟩ := box3_cells Bb.out
              obtain ⟨qg0, qg1, qg2, -, -, -⟩ := box3_cells Bg.out
              go_wp2_with fail
              refine (sameStripes_t v x1 N cv cx1 S P Q _ (by omega) AV.out AX.out).mono ?_
              rintro e y6 ⟨rfl, bz6⟩
              clear qx0 qx1 qx2
              clear qb0 qb1 qb2
              clear qg0 qg1 qg2
              replace Bx : Hid (y6.heap[kkx]? = some (.cells #[.slice x1 (N) cx1, .string (P), .string (Q)] 26 (0, 0))) := box_on Bx.out bz6
              replace Bb : Hid (y6.heap[kb]? = some (.cells #[.slice (some ⟨kg, 0, none⟩) (N) cg, .string (P'), .string (Q')] 26 (0, 0))) := box_on Bb.out bz6
              replace Bg : Hid (y6.heap[kkg]? = some (.cells #[.slice v (N) cv, .string (P), .string (Q)] 26 (0, 0))) := box_on Bg.out bz6
              replace AX : Hid (At y6 x1 N fun i => .string (S i)) := At.below AX.out bz6
              replace AK : Hid (At y6 (some ⟨kg, 0, none⟩) N fun i => .string (D' i)) := At.below AK.out bz6
              replace AV : Hid (At y6 v N fun i => .string (S i)) := At.below AV.out bz6
              replace G : Hid (Below w.heap.size w y6) := Below.comp G.out bz6
              clear bz6
              obtain ⟨qx0, qx1, qx2, -, -, -⟩ := box3_cells Bx.out
              obtain ⟨qb0, qb1, qb2, -, -, -⟩ := box3_cells Bb.out
              obtain ⟨qg0, qg1, qg2, -, -, -⟩ := box3_cells Bg.out
              go_wp2_with fail
              refine (sameStripes_any (some ⟨kg, 0, none⟩) x1 N cg cx1 D' S P' Q' P Q _ (by omega) AK.out AX.out).mono ?_
              rintro e y7 ⟨rfl, bz7⟩
              rw [HSM.out]
              clear qx0 qx1 qx2
              clear qb0 qb1 qb2
              clear qg0 qg1 qg2
              replace Bx : Hid (y7.heap[kkx]? = some (.cells #[.slice x1 (N) cx1, .string (P), .string (Q)] 26 (0, 0))) := box_on Bx.out bz7
              replace Bb : Hid (y7.heap[kb]? = some (.cells #[.slice (some ⟨kg, 0, none⟩) (N) cg, .string (P'), .string (Q')] 26 (0, 0))) := box_on Bb.out bz7
              replace Bg : Hid (y7.heap[kkg]? = some (.cells #[.slice v (N) cv, .string (P), .string (Q)] 26 (0, 0))) := box_on Bg.out bz7
              replace AX : Hid (At y7 x1 N fun i => .string (S i)) := At.below AX.out bz7
              replace AK : Hid (At y7 (some ⟨kg, 0, none⟩) N fun i => .string (D' i)) := At.below AK.out bz7
              replace AV : Hid (At y7 v N fun i => .string (S i)) := At.below AV.out bz7
              replace G : Hid (Below w.heap.size w y7) := Below.comp G.out bz7
              clear bz7
              go_wp2
              go_meet
              exact G.out
            · have hfw := hA.finds he
              have hdf := hA.differ he
              have hsm : (decide (P' = P) && decide (Q' = Q) && sameB N D' S) = false := by
                cases hx : (decide (P' = P) && decide (Q' = Q) && sameB N D' S) with
                | false => rfl
                | true =>
                  simp only [Bool.and_eq_true, decide_eq_true_eq, sameB] at hx
                  exact absurd ⟨hx.1.1, hx.1.2, hx.2⟩ hdf
              have HSM : Hid _ := hsm
              clear hdf hsm he
              have CF : Hid (∀ W, At W (some ⟨kg, 0, none⟩) N (fun i => .string (D' i)) → Tab W → 0 < W.heap.size → Calls Tryd.prog 14 #[sv (some ⟨kg, 0, none⟩) N cg P' Q'] W fun e w' => e = .returned (.tuple #[.int .i64 (ka : Int), .bool true]) ∧ Below W.heap.size W w') := fun W h1 h2 h3 => by
                have := implFind_any (some ⟨kg, 0, none⟩) N cg D' P' Q' W (by omega) (by omega) (by omega) hDs h1 h2 h3
                unfold fwV at this
                rw [hfw] at this
                exact this
              unfold sv at CO CF
              clear hA hfw
              obtain ⟨qx0, qx1, qx2, -, -, -⟩ := box3_cells Bx.out
              obtain ⟨qb0, qb1, qb2, -, -, -⟩ := box3_cells Bb.out
              go_wp2_with fail
              refine (CO.out _ AK.out (ht.below G.out hz0) (Nat.lt_of_lt_of_le hz0 G.out.size)).mono ?_
              rintro e y4 ⟨bz4, v, cv, rfl, mv⟩
              unfold sv
              clear qx0 qx1 qx2
              clear qb0 qb1 qb2
              replace Bx : Hid (y4.heap[kkx]? = some (.cells #[.slice x1 (N) cx1, .string (P), .string (Q)] 26 (0, 0))) := box_on Bx.out bz4
              replace Bb : Hid (y4.heap[kb]? = some (.cells #[.slice (some ⟨kg, 0, none⟩) (N) cg, .string (P'), .string (Q')] 26 (0, 0))) := box_on Bb.out bz4
              replace AX : Hid (At y4 x1 N fun i => .string (S i)) := At.below AX.out bz4
              replace AK : Hid (At y4 (some ⟨kg, 0, none⟩) N fun i => .string (D' i)) := At.below AK.out bz4
              replace G : Hid (Below w.heap.size w y4) := Below.comp G.out bz4
              have AV : Hid (At y4 v N fun j => .string (S j)) := at_alike mv.strs hDD.out
              clear bz4 mv
              obtain ⟨V1, hV1⟩ : ∃ V1, y4.alloc (.cells #[.slice v (N) cv, .string (P), .string (Q)] 26) = V1 := ⟨_, rfl⟩
              obtain ⟨kkg, ekkg⟩ : ∃ kkg, y4.heap.size = kkg := ⟨_, rfl⟩
              have Bg : Hid (V1.heap[kkg]? = some (.cells #[.slice v (N) cv, .string (P), .string (Q)] 26 (0, 0))) := by show V1.heap[kkg]? = _; rw [← hV1, ← ekkg]; exact heap_alloc_new _ _
              have blV1 : Below y4.heap.size y4 V1 := by rw [← hV1]; exact below_alloc _ _
              replace Bx : Hid (V1.heap[kkx]? = some (.cells #[.slice x1 (N) cx1, .string (P), .string (Q)] 26 (0, 0))) := box_on Bx.out blV1
              replace Bb : Hid (V1.heap[kb]? = some (.cells #[.slice (some ⟨kg, 0, none⟩) (N) cg, .string (P'), .string (Q')] 26 (0, 0))) := box_on Bb.out blV1
              replace AX : Hid (At V1 x1 N fun i => .string (S i)) := At.below AX.out blV1
              replace AK : Hid (At V1 (some ⟨kg, 0, none⟩) N fun i => .string (D' i)) := At.below AK.out blV1
              replace AV : Hid (At V1 v N fun i => .string (S i)) := At.below AV.out blV1
              replace G : Hid (Below w.heap.size w V1) := Below.comp G.out blV1
              clear blV1
              obtain ⟨qx0, qx1, qx2, -, -, -⟩ := box3_cells Bx.out
              obtain ⟨qb0, qb1, qb2, -, -, -⟩ := box3_cells Bb.out
              obtain ⟨qg0, qg1, qg2, -, -, -⟩ := box3_cells Bg.out
              go_wp2_with fail
              refine (CF.out _ AK.out (ht.below G.out hz0) (Nat.lt_of_lt_of_le hz0 G.out.size)).mono ?_
              rintro e y5 ⟨rfl, bz5⟩
              clear hV1 ekkg
              clear qx0 qx1 qx2
              clear qb0 qb1 qb2
              clear qg0 qg1 qg2
              replace Bx : Hid (y5.heap[kkx]? = some (.cells #[.slice x1 (N) cx1, .string (P), .string (Q)] 26 (0, 0))) := box_on Bx.out bz5
              replace Bb : Hid (y5.heap[kb]? = some (.cells #[.slice (some ⟨kg, 0, none⟩) (N) cg, .string (P'), .string (Q')] 26 (0, 0))) := box_on Bb.out bz5
              replace Bg : Hid (y5.heap[kkg]? = some (.cells #[.slice v (N) cv, .string (P), .string (Q)] 26 (0, 0))) := box_on Bg.out bz5
              replace AX : Hid (At y5 x1 N fun i => .string (S i)) := At.below AX.out bz5
              replace AK : Hid (At y5 (some ⟨kg, 0, none⟩) N fun i => .string (D' i)) := At.below AK.out bz5
              replace AV : Hid (At y5 v N fun i => .string (S i)) := At.below AV.out bz5
              replace G : Hid (Below w.heap.size w y5) := Below.comp G.out bz5
              clear bz5 CO CF
              obtain ⟨qx0, qx1, qx2, -, -, -⟩ := box3_cells Bx.out
              obtain ⟨qb0, qb1, qb2, -, -, -⟩ := box3_cells Bb.out
              obtain ⟨qg0, qg1, qg2, -, -, -⟩ := box3_cells Bg.out
              go_wp2_with fail
              refine (sameStripes_t v x1 N cv cx1 S P Q _ (by omega) AV.out AX.out).mono ?_
              rintro e y6 ⟨rfl, bz6⟩
              clear qx0 qx1 qx2
              clear qb0 qb1 qb2
              clear qg0 qg1 qg2
              replace Bx : Hid (y6.heap[kkx]? = some (.cells #[.slice x1 (N) cx1, .string (P), .string (Q)] 26 (0, 0))) := box_on Bx.out bz6
              replace Bb : Hid (y6.heap[kb]? = some (.cells #[.slice (some ⟨kg, 0, none⟩) (N) cg, .string (P'), .string (Q')] 26 (0, 0))) := box_on Bb.out bz6
              replace Bg : Hid (y6.heap[kkg]? = some (.cells #[.slice v (N) cv, .string (P), .string (Q)] 26 (0, 0))) := box_on Bg.out bz6
              replace AX : Hid (At y6 x1 N fun i => .string (S i)) := At.below AX.out bz6
              replace AK : Hid (At y6 (some ⟨kg, 0, none⟩) N fun i => .string (D' i)) := At.below AK.out bz6
              replace AV : Hid (At y6 v N fun i => .string (S i)) := At.below AV.out bz6
              replace G : Hid (Below w.heap.size w y6) := Below.comp G.out bz6
              clear bz6
              obtain ⟨qx0, qx1, qx2, -, -, -⟩ := box3_cells Bx.out
              obtain ⟨qb0, qb1, qb2, -, -, -⟩ := box3_cells Bb.out
              obtain ⟨qg0, qg1, qg2, -, -, -⟩ := box3_cells Bg.out
              go_wp2_with fail
              refine (sameStripes_any (some ⟨kg, 0, none⟩) x1 N cg cx1 D' S P' Q' P Q _ (by omega) AK.out AX.out).mono ?_
              rintro e y7 ⟨rfl, bz7⟩
              rw [HSM.out]
              clear qx0 qx1 qx2
              clear qb0 qb1 qb2
              clear qg0 qg1 qg2
              replace Bx : Hid (y7.heap[kkx]? = some (.cells #[.slice x1 (N) cx1, .string (P), .string (Q)] 26 (0, 0))) := box_on Bx.out bz7
              replace Bb : Hid (y7.heap[kb]? = some (.cells #[.slice (some ⟨kg, 0, none⟩) (N) cg, .string (P'), .string (Q')] 26 (0, 0))) := box_on Bb.out bz7
              replace Bg : Hid (y7.heap[kkg]? = some (.cells #[.slice v (N) cv, .string (P), .string (Q)] 26 (0, 0))) := box_on Bg.out bz7
              replace AX : Hid (At y7 x1 N fun i => .string (S i)) := At.below AX.out bz7
              replace AK : Hid (At y7 (some ⟨kg, 0, none⟩) N fun i => .string (D' i)) := At.below AK.out bz7
              replace AV : Hid (At y7 v N fun i => .string (S i)) := At.below AV.out bz7
              replace G : Hid (Below w.heap.size w y7) := Below.comp G.out bz7
              clear bz7
              go_wp2
              go_meet
              exact G.out
          · have hab' : ¬ (ka : Int) = (kc : Int) := by omega
            obtain ⟨e1, e2, e3⟩ := hA.recovers hab
            have CO : Hid (∀ W, At W (some ⟨kg, 0, none⟩) N (fun i => .string (D' i)) → Tab W → 0 < W.heap.size → Calls Tryd.prog 12 #[sv (some ⟨kg, 0, none⟩) N cg P' Q', .int .i64 (ka : Int), .int .i64 (kc : Int)] W fun e w' => RO W e w' true N (tD N D' P' Q' ka kc) P Q) := fun W h1 h2 h3 => by
              have := implTwo_any (some ⟨kg, 0, none⟩) N cg D' P' Q' (ka : Int) (kc : Int) W (by omega) (by omega) (by omega) hDs h1 h2 h3
              have hok : okTwo N D' P' Q' (ka : Int) (kc : Int) = true := by unfold okTwo; rw [hA.good', Bool.true_and]; exact decide_eq_true (by omega)
              simp only [hok, Int.toNat_natCast] at this
              have e2' : oneP true (tP N D' P' Q' ka kc) = P := e2
              have e3' : oneP true (tQ N D' P' Q' ka kc) = Q := e3
              rw [e2', e3'] at this
              exact this
            generalize tD N D' P' Q' ka kc = DD at *
            have hDD : Hid (∀ i, i < N → DD i = S i) := e1
            clear e1 e2 e3 hA
            unfold sv at CO
            obtain ⟨qx0, qx1, qx2, -, -, -⟩ := box3_cells Bx.out
            obtain ⟨qb0, qb1, qb2, -, -, -⟩ := box3_cells Bb.out
            go_wp2_with fail
            refine (CO.out _ AK.out (ht.below G.out hz0) (Nat.lt_of_lt_of_le hz0 G.out.size)).mono ?_
            rintro e y4 ⟨bz4, v, cv, rfl, mv⟩
            unfold sv
            clear qx0 qx1 qx2
            clear qb0 qb1 qb2
            replace Bx : Hid (y4.heap[kkx]? = some (.cells #[.slice x1 (N) cx1, .string (P), .string (Q)] 26 (0, 0))) := box_on Bx.out bz4
            replace Bb : Hid (y4.heap[kb]? = some (.cells #[.slice (some ⟨kg, 0, none⟩) (N) cg, .string (P'), .string (Q')] 26 (0, 0))) := box_on Bb.out bz4
            replace AX : Hid (At y4 x1 N fun i => .string (S i)) := At.below AX.out bz4
            replace AK : Hid (At y4 (some ⟨kg, 0, none⟩) N fun i => .string (D' i)) := At.below AK.out bz4
            replace G : Hid (Below w.heap.size w y4) := Below.comp G.out bz4
            have AV : Hid (At y4 v N fun j => .string (S j)) := at_alike mv.strs hDD.out
            clear bz4 mv CO
            obtain ⟨V1, hV1⟩ : ∃ V1, y4.alloc (.cells #[.slice v (N) cv, .string (P), .string (Q)] 26) = V1 := ⟨_, rfl⟩
            obtain ⟨kkg, ekkg⟩ : ∃ kkg, y4.heap.size = kkg := ⟨_, rfl⟩
            have Bg : Hid (V1.heap[kkg]? = some (.cells #[.slice v (N) cv, .string (P), .string (Q)] 26 (0, 0))) := by show V1.heap[kkg]? = _; rw [← hV1, ← ekkg]; exact heap_alloc_new _ _
            have blV1 : Below y4.heap.size y4 V1 := by rw [← hV1]; exact below_alloc _ _
            replace Bx : Hid (V1.heap[kkx]? = some (.cells #[.slice x1 (N) cx1, .string (P), .string (Q)] 26 (0, 0))) := box_on Bx.out blV1
            replace Bb : Hid (V1.heap[kb]? = some (.cells #[.slice (some ⟨kg, 0, none⟩) (N) cg, .string (P'), .string (Q')] 26 (0, 0))) := box_on Bb.out blV1
            replace AX : Hid (At V1 x1 N fun i => .string (S i)) := At.below AX.out blV1
            replace AK : Hid (At V1 (some ⟨kg, 0, none⟩) N fun i => .string (D' i)) := At.below AK.out blV1
            replace AV : Hid (At V1 v N fun i => .string (S i)) := At.below AV.out blV1
            replace G : Hid (Below w.heap.size w V1) := Below.comp G.out blV1
            clear blV1
            obtain ⟨qx0, qx1, qx2, -, -, -⟩ := box3_cells Bx.out
            obtain ⟨qb0, qb1, qb2, -, -, -⟩ := box3_cells Bb.out
            obtain ⟨qg0, qg1, qg2, -, -, -⟩ := box3_cells Bg.out
            go_wp2_with fail
            refine (sameStripes_t v x1 N cv cx1 S P Q _ (by omega) AV.out AX.out).mono ?_
            rintro e y5 ⟨rfl, bz5⟩
            clear hV1 ekkg
            clear qx0 qx1 qx2
            clear qb0 qb1 qb2
            clear qg0 qg1 qg2
            replace Bx : Hid (y5.heap[kkx]? = some (.cells #[.slice x1 (N) cx1, .string (P), .string (Q)] 26 (0, 0))) := box_on Bx.out bz5
            replace Bb : Hid (y5.heap[kb]? = some (.cells #[.slice (some ⟨kg, 0, none⟩) (N) cg, .string (P'), .string (Q')] 26 (0, 0))) := box_on Bb.out bz5
            replace Bg : Hid (y5.heap[kkg]? = some (.cells #[.slice v (N) cv, .string (P), .string (Q)] 26 (0, 0))) := box_on Bg.out bz5
            replace AX : Hid (At y5 x1 N fun i => .string (S i)) := At.below AX.out bz5
            replace AK : Hid (At y5 (some ⟨kg, 0, none⟩) N fun i => .string (D' i)) := At.below AK.out bz5
            replace AV : Hid (At y5 v N fun i => .string (S i)) := At.below AV.out bz5
            replace G : Hid (Below w.heap.size w y5) := Below.comp G.out bz5
            clear bz5
            go_wp2
            go_meet
            exact G.out
    clear G
    have G : Hid (Below w.heap.size w wc) := hcut
    clear hcut
    go_wp2_with fail
    refine (drawTwo_any a' n' cap' T' _ hn' hT' (hc'.below G.out)).mono ?_
    rintro e y1 ⟨z, M, cz, R, PP, QQ, s, t, rfl, ⟨f1, f2, f3, f4, mz, gz⟩⟩
    unfold sv
    replace G : Hid (Below w.heap.size w y1) := Below.comp G.out gz
    have AZ : Hid (At y1 z M fun i => .string (R i)) := mz.strs
    clear gz mz
    have hRs : ∀ i, i < M → (R i).size ≤ 9223372036854775807 := fun i hi => by have := f2 i hi; omega
    have C1 : Hid (∀ W, At W z M (fun i => .string (R i)) → Tab W → 0 < W.heap.size → Calls Tryd.prog 12 #[sv z M cz PP QQ, .int .i64 s, .int .i64 t] W fun e w' => RO W e w' (okTwo M R PP QQ s t) (oneN M (okTwo M R PP QQ s t)) (tD M R PP QQ s.toNat t.toNat) (oneP (okTwo M R PP QQ s t) (tP M R PP QQ s.toNat t.toNat)) (oneP (okTwo M R PP QQ s t) (tQ M R PP QQ s.toNat t.toNat))) := fun W h1 h2 h3 => implTwo_any z M cz R PP QQ s t W (by omega) (by omega) (by omega) hRs h1 h2 h3
    have C2 : Hid (∀ W, At W z M (fun i => .string (R i)) → Calls Tryd.prog 16 #[sv z M cz PP QQ, .int .i64 s, .int .i64 t] W fun e w' => RO W e w' (okTwo M R PP QQ s t) (oneN M (okTwo M R PP QQ s t)) (tD M R PP QQ s.toNat t.toNat) (oneP (okTwo M R PP QQ s t) (tP M R PP QQ s.toNat t.toNat)) (oneP (okTwo M R PP QQ s t) (tQ M R PP QQ s.toNat t.toNat))) := fun W h1 => specTwo_any z M cz R PP QQ s t W (by omega) h1
    have hM2 := oneN_le M (okTwo M R PP QQ s t)
    generalize oneN M (okTwo M R PP QQ s t) = M2 at *
    generalize oneP (okTwo M R PP QQ s t) (tP M R PP QQ s.toNat t.toNat) = PA at *
    generalize oneP (okTwo M R PP QQ s t) (tQ M R PP QQ s.toNat t.toNat) = QA at *
    generalize tD M R PP QQ s.toNat t.toNat = RA at *
    generalize okTwo M R PP QQ s t = ok2 at *
    clear hRs f2
    unfold sv at C1 C2
    obtain ⟨V1, hV1⟩ : ∃ V1, y1.alloc (.cells #[.slice z (M) cz, .string (PP), .string (QQ)] 26) = V1 := ⟨_, rfl⟩
    obtain ⟨kkf, ekkf⟩ : ∃ kkf, y1.heap.size = kkf := ⟨_, rfl⟩
    have Bf : Hid (V1.heap[kkf]? = some (.cells #[.slice z (M) cz, .string (PP), .string (QQ)] 26 (0, 0))) := by show V1.heap[kkf]? = _; rw [← hV1, ← ekkf]; exact heap_alloc_new _ _
    have blV1 : Below y1.heap.size y1 V1 := by rw [← hV1]; exact below_alloc _ _
    replace AZ : Hid (At V1 z M fun i => .string (R i)) := At.below AZ.out blV1
    replace G : Hid (Below w.heap.size w V1) := Below.comp G.out blV1
    clear blV1
    obtain ⟨qf0, qf1, qf2, -, -, -⟩ := box3_cells Bf.out
    go_wp2_with fail
    refine (C1.out _ AZ.out (ht.below G.out hz0) (Nat.lt_of_lt_of_le hz0 G.out.size)).mono ?_
    rintro e y2 ⟨bz2, v, cv, rfl, mv⟩
    clear hV1 ekkf
    clear qf0 qf1 qf2
    replace Bf : Hid (y2.heap[kkf]? = some (.cells #[.slice z (M) cz, .string (PP), .string (QQ)] 26 (0, 0))) := box_on Bf.out bz2
    replace AZ : Hid (At y2 z M fun i => .string (R i)) := At.below AZ.out bz2
    replace G : Hid (Below w.heap.size w y2) := Below.comp G.out bz2
    have AV : Hid (At y2 v M2 fun j => .string (RA j)) := mv.strs
    clear bz2 mv
    unfold sv
    obtain ⟨V2, hV2⟩ : ∃ V2, y2.alloc (.cells #[.slice v (M2) cv, .string (PA), .string (QA)] 26) = V2 := ⟨_, rfl⟩
    obtain ⟨kkg, ekkg⟩ : ∃ kkg, y2.heap.size = kkg := ⟨_, rfl⟩
    have Bg : Hid (V2.heap[kkg]? = some (.cells #[.slice v (M2) cv, .string (PA), .string (QA)] 26 (0, 0))) := by show V2.heap[kkg]? = _; rw [← hV2, ← ekkg]; exact heap_alloc_new _ _
    have blV2 : Below y2.heap.size y2 V2 := by rw [← hV2]; exact below_alloc _ _
    replace Bf : Hid (V2.heap[kkf]? = some (.cells #[.slice z (M) cz, .string (PP), .string (QQ)] 26 (0, 0))) := box_on Bf.out blV2
    replace AZ : Hid (At V2 z M fun i => .string (R i)) := At.below AZ.out blV2
    replace AV : Hid (At V2 v M2 fun i => .string (RA i)) := At.below AV.out blV2
    replace G : Hid (Below w.heap.size w V2) := Below.comp G.out blV2
    clear blV2
    obtain ⟨qf0, qf1, qf2, -, -, -⟩ := box3_cells Bf.out
    obtain ⟨qg0, qg1, qg2, -, -, -⟩ := box3_cells Bg.out
    go_wp2_with fail
    refine (C2.out _ AZ.out).mono ?_
    rintro e y3 ⟨bz3, v', cv', rfl, mv'⟩
    clear hV2 ekkg
    clear qf0 qf1 qf2
    clear qg0 qg1 qg2
    replace Bf : Hid (y3.heap[kkf]? = some (.cells #[.slice z (M) cz, .string (PP), .string (QQ)] 26 (0, 0))) := box_on Bf.out bz3
    replace Bg : Hid (y3.heap[kkg]? = some (.cells #[.slice v (M2) cv, .string (PA), .string (QA)] 26 (0, 0))) := box_on Bg.out bz3
    replace AZ : Hid (At y3 z M fun i => .string (R i)) := At.below AZ.out bz3
    replace AV : Hid (At y3 v M2 fun i => .string (RA i)) := At.below AV.out bz3
    replace G : Hid (Below w.heap.size w y3) := Below.comp G.out bz3
    have AW : Hid (At y3 v' M2 fun j => .string (RA j)) := mv'.strs
    clear bz3 mv' C1 C2
    unfold sv
    obtain ⟨V3, hV3⟩ : ∃ V3, y3.alloc (.cells #[.slice v' (M2) cv', .string (PA), .string (QA)] 26) = V3 := ⟨_, rfl⟩
    obtain ⟨kkh, ekkh⟩ : ∃ kkh, y3.heap.size = kkh := ⟨_, rfl⟩
    have Bh : Hid (V3.heap[kkh]? = some (.cells #[.slice v' (M2) cv', .string (PA), .string (QA)] 26 (0, 0))) := by show V3.heap[kkh]? = _; rw [← hV3, ← ekkh]; exact heap_alloc_new _ _
    have blV3 : Below y3.heap.size y3 V3 := by rw [← hV3]; exact below_alloc _ _
    replace Bf : Hid (V3.heap[kkf]? = some (.cells #[.slice z (M) cz, .string (PP), .string (QQ)] 26 (0, 0))) := box_on Bf.out blV3
    replace Bg : Hid (V3.heap[kkg]? = some (.cells #[.slice v (M2) cv, .string (PA), .string (QA)] 26 (0, 0))) := box_on Bg.out blV3
    replace AZ : Hid (At V3 z M fun i => .string (R i)) := At.below AZ.out blV3
    replace AV : Hid (At V3 v M2 fun i => .string (RA i)) := At.below AV.out blV3
    replace AW : Hid (At V3 v' M2 fun i => .string (RA i)) := At.below AW.out blV3
    replace G : Hid (Below w.heap.size w V3) := Below.comp G.out blV3
    clear blV3
    obtain ⟨qf0, qf1, qf2, -, -, -⟩ := box3_cells Bf.out
    obtain ⟨qg0, qg1, qg2, -, -, -⟩ := box3_cells Bg.out
    obtain ⟨qh0, qh1, qh2, -, -, -⟩ := box3_cells Bh.out
    have hM3 : M2 ≤ 9223372036854775807 := by omega
    cases ok2
    · go_wp2_with fail
      refine (sameStripes_t v v' M2 cv cv' RA PA QA _ hM3 AV.out AW.out).mono ?_
      rintro e y4 ⟨rfl, bz4⟩
      have GF := Below.comp G.out bz4
      clear bz4
      go_wp2
      go_ret
      exact ⟨rfl, GF⟩
    · go_wp2_with fail
      refine (sameStripes_t v v' M2 cv cv' RA PA QA _ hM3 AV.out AW.out).mono ?_
      rintro e y4 ⟨rfl, bz4⟩
      have GF := Below.comp G.out bz4
      clear bz4
      go_wp2
      go_ret
      exact ⟨rfl, GF⟩
end Go.Proofs.YtgipopkjjhehlaaDoor
