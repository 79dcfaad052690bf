import Derived.Test.YtggkpcgjmanelaaL3
/- What the laws do with trees: copy, compare, measure. -/
namespace Go.Proofs.Ytggkpcgjmanelaa
open Go.ChangeShapes Go.WideShapes Go.ChangeAt Go.RowKit
set_option linter.unusedVariables false
open Bt

attribute [local go_sem] Oper.semAt_some

set_option maxHeartbeats 1000000 in
theorem eqNodeS_same (a a' : Option Addr) (N : List Nd) (cap cap' : Nat) (w : World) (hn : N.length ≤ 9223372036854775807) (hnk : ∀ i, i < N.length → (gn N i).ks.length ≤ 9223372036854775807 ∧ (gn N i).cs.length ≤ 9223372036854775807) (hc : Nodes w a N) (hc' : Nodes w a' N) :
    Calls Try.prog 61 #[.slice a N.length cap, .slice a' N.length cap'] w fun e w' => e = .returned (.bool true) ∧ Below w.heap.size w w' := by
  unfold Nodes at hc hc'
  have Hc : Hid _ := hc
  have Hc' : Hid _ := hc'
  clear hc hc'
  generalize N.length = n at *
  go_enter Try.func61, Try.ntmps61
  go_wp2
  go_loopw [5] (fun i wr => ∃ (k : Nat), k ≤ n ∧ i = .int .i64 k ∧ Below w.heap.size w wr) (fun i _ => n - (intOf i).toNat)
  case atStart => exact ⟨0, Nat.zero_le _, rfl, Below.refl _ _⟩
  case round =>
    obtain ⟨k, hk, rfl, hb⟩ := hrel
    by_cases hlt : k < n
    · obtain ⟨b, off, rfl, hcell⟩ := Hc.out (by omega)
      obtain ⟨b', off', rfl, hcell'⟩ := Hc'.out (by omega)
      obtain ⟨ka, kc, ca, cc, k0, k1, k2, k3, k4, -, -⟩ := (hcell k hlt).below hb
      obtain ⟨ka', kc', ca', cc', k0', k1', k2', k3', k4', -, -⟩ := (hcell' k hlt).below hb
      clear hcell hcell' Hc Hc'
      have hlt' : (k : Int) < (n : Int) := by omega
      have hnk' := hnk k hlt
      generalize gn N k = nd at k0 k1 k2 k3 k4 k0' k1' k2' k3' k4' hnk'
      obtain ⟨lf, ks, cs⟩ := nd
      simp only at k0 k1 k2 k3 k4 k0' k1' k2' k3' k4' hnk'
      have cE := fun W h1 h2 h3 h4 => eqNode_same lf ka kc ca cc ka' kc' ca' cc' ks cs W hnk'.1 hnk'.2 h1 h2 h3 h4
      have SI : Hid (∀ W, Below wr.heap.size wr W → Ints W ka ks ∧ Ints W ca cs ∧ Ints W ka' ks ∧ Ints W ca' cs) := fun W g => ⟨k3.below g, k4.below g, k3'.below g, k4'.below g⟩
      clear k3 k4 k3' k4'
      generalize ks.length = m at *
      generalize cs.length = m' at *
      have SB : Hid (∀ W, Below wr.heap.size wr W → W.cell? ⟨b, off + k * 3, none⟩ = some (.bool lf) ∧ W.cell? ⟨b, off + k * 3 + 1, none⟩ = some (.slice ka m kc) ∧ W.cell? ⟨b, off + k * 3 + 2, none⟩ = some (.slice ca m' cc) ∧ W.cell? ⟨b', off' + k * 3, none⟩ = some (.bool lf) ∧ W.cell? ⟨b', off' + k * 3 + 1, none⟩ = some (.slice ka' m kc') ∧ W.cell? ⟨b', off' + k * 3 + 2, none⟩ = some (.slice ca' m' cc') ∧ Below wr.heap.size wr W) := fun W g => ⟨cell_on k0 g, cell_on k1 g, cell_on k2 g, cell_on k0' g, cell_on k1' g, cell_on k2' g, g⟩
      clear k0 k1 k2 k0' k1' k2' hnk hnk'
      go_wp2
      go_region_held3 (fun W => W.cell? ⟨b, off + k * 3, none⟩ = some (.bool lf) ∧ W.cell? ⟨b, off + k * 3 + 1, none⟩ = some (.slice ka m kc) ∧ W.cell? ⟨b, off + k * 3 + 2, none⟩ = some (.slice ca m' cc) ∧ W.cell? ⟨b', off' + k * 3, none⟩ = some (.bool lf) ∧ W.cell? ⟨b', off' + k * 3 + 1, none⟩ = some (.slice ka' m kc') ∧ W.cell? ⟨b', off' + k * 3 + 2, none⟩ = some (.slice ca' m' cc') ∧ Below wr.heap.size wr W)
        ((refine SB.out _ ?_; first | assumption | exact Below.drew (Below.refl _ _)))
        (first
        | (go_at_call 88; obtain ⟨-, -, -, -, -, -, hw0⟩ := ‹_ ∧ _ ∧ _ ∧ _ ∧ _ ∧ _ ∧ Below wr.heap.size wr _›; obtain ⟨u1, u2, u3, u4⟩ := SI.out _ hw0; refine (cE _ u1 u2 u3 u4).mono ?_; rintro e w1 ⟨rfl, g1⟩; have g2 := Below.comp hw0 g1))
      all_goals go_wp2
      go_roundw
      case rel => exact ⟨k + 1, by omega, by go_num, Below.comp hb (by assumption)⟩
      case measure => simp [intOf]; omega
    · go_wp2
      go_ret
      exact ⟨rfl, hb⟩
theorem szNodeS_any (a : Option Addr) (N : List Nd) (cap : Nat) (left : Int) (w : World) (hn : N.length ≤ 9223372036854775807) (hnk : ∀ i, i < N.length → (gn N i).ks.length ≤ 9223372036854775807 ∧ (gn N i).cs.length ≤ 9223372036854775807) (hc : Nodes w a N) (h0 : 0 ≤ left) (h1 : left ≤ 1048576) :
    Calls Try.prog 64 #[.slice a N.length cap, .int .i64 left] w fun e w' => Below w.heap.size w w' ∧ ∃ r : Int, e = .returned (.int .i64 r) ∧ (r < 0 ∨ r + N.length + bk N N.length ≤ left) := by
  unfold Nodes at hc
  have Hc : Hid _ := hc
  clear hc
  generalize N.length = n at *
  have e1 : IntKind.i64.wrap (left - (n : Int)) = left - n := wrapI (by omega) (by omega)
  by_cases hl : left - (n : Int) < 0
  · go_enter Try.func64, Try.ntmps64
    go_wp2
    go_ret
    exact ⟨Below.refl _ _, -1, rfl, .inl (by omega)⟩
  · have hl' : 0 ≤ left - (n : Int) := by omega
    go_enter Try.func64, Try.ntmps64
    go_wp2
    go_loopw [1, 5] (fun lv i wr => ∃ (k : Nat) (q : Int), k ≤ n ∧ lv = .int .i64 q ∧ i = .int .i64 k ∧ 0 ≤ q ∧ q + bk N k ≤ left - n ∧ Below w.heap.size w wr) (fun _ i _ => n - (intOf i).toNat)
    case atStart => exact ⟨0, left - n, Nat.zero_le _, rfl, rfl, hl', by simp [bk], Below.refl _ _⟩
    case round =>
      obtain ⟨k, q, hk, rfl, rfl, hq0, hq1, hb⟩ := hrel
      by_cases hlt : k < n
      · obtain ⟨b, off, rfl, hcell⟩ := Hc.out (by omega)
        obtain ⟨ka, kc, ca, cc, k0, k1, k2, -, -, -, -⟩ := (hcell k hlt).below hb
        clear hcell Hc
        have hnk' := hnk k hlt
        have hbk : bk N (k + 1) = bk N k + ((gn N k).ks.length + (gn N k).cs.length) := rfl
        generalize gn N k = nd at k0 k1 k2 hnk' hbk
        obtain ⟨lf, ks, cs⟩ := nd
        simp only at k0 k1 k2 hnk' hbk
        generalize ks.length = m at *
        generalize cs.length = m' at *
        have HQ : Hid _ := hbk
        clear hbk
        have cE := fun W => szNode_any lf ka kc ca cc m m' q W hnk'.1 hnk'.2 hq0 (by omega)
        go_wp2_with fail
        refine (cE _).mono ?_
        rintro e w1 ⟨b1, r, rfl, hr1, hr2⟩
        by_cases hr : r < 0
        · go_wp2_with fail
          go_ret
          exact ⟨Below.comp hb b1, -1, rfl, .inl (by omega)⟩
        · go_wp2_with fail
          go_roundw
          case rel => exact ⟨k + 1, r, by omega, rfl, by go_num, by omega, by rw [HQ.out]; omega, Below.comp hb b1⟩
          case measure => simp [intOf]; omega
      · go_wp2
        go_ret
        have hkn : k = n := by omega
        subst hkn
        exact ⟨hb, q, rfl, .inr (by omega)⟩
theorem szTree_any (a : Option Addr) (N : List Nd) (cap : Nat) (root : Int) (w : World) (hn : N.length ≤ 9223372036854775807) (hnk : ∀ i, i < N.length → (gn N i).ks.length ≤ 9223372036854775807 ∧ (gn N i).cs.length ≤ 9223372036854775807) (hc : Nodes w a N) :
    Calls Try.prog 29 #[tv a N.length cap root, .int .i64 1048576] w fun e w' => Below w.heap.size w w' ∧ ∃ r : Int, e = .returned (.int .i64 r) ∧ (r < 0 ∨ (N.length ≤ 1048576 ∧ bk N N.length ≤ 1048576)) := by
  have c1 := fun W h => szNodeS_any a N cap 1048576 W hn hnk h (by omega) (by omega)
  generalize N.length = n at *
  go_enter Try.func29, Try.ntmps29
  go_wp2_with fail
  refine (c1 _ (hc.below (below_alloc _ _))).mono ?_
  rintro e w1 ⟨b1, r, rfl, hr⟩
  by_cases h : r < 0
  · go_wp2
    go_ret
    exact ⟨Below.comp (below_alloc _ _) b1, -1, rfl, .inl (by omega)⟩
  · go_wp2
    go_ret
    exact ⟨Below.comp (below_alloc _ _) b1, r, rfl, .inr (by omega)⟩
theorem toTree_any (a : Option Addr) (N : List Nd) (cap : Nat) (root : Int) (w : World) (hn : N.length ≤ 1048576) (hbk : bk N N.length ≤ 1048576) (hc : Nodes w a N) :
    Calls Try.prog 31 #[tv a N.length cap root] w fun e w' => Below w.heap.size w w' ∧ ∃ a' c', e = .returned (tv a' N.length c' root) ∧ N.length ≤ c' ∧ TOwn w' w.heap.size w'.heap.size a' N := by
  have c1 := fun W h => toNodeS_any a N cap W hn hbk h
  generalize hln : N.length = n at *
  have Hln : Hid _ := hln
  clear hln
  obtain ⟨s, hs⟩ : ∃ s, w.heap.size = s := ⟨_, rfl⟩
  obtain ⟨W0, hW0⟩ : ∃ W0, ((w.alloc (.cells #[.slice a n cap, .int .i64 root] 47)).alloc (.cells #[.slice none 0 0, .int .i64 0] 27)).alloc (.cells #[.slice none 0 0, .int .i64 0] 27) = W0 := ⟨_, rfl⟩
  have hb0 : Below s w W0 := by subst hW0 hs; exact ba3 _ _ _ _
  obtain ⟨B1, B2, B3⟩ : W0.heap[s]? = some (.cells #[.slice a n cap, .int .i64 root] 47 (0, 0)) ∧ W0.heap[s + 1]? = some (.cells #[.slice none 0 0, .int .i64 0] 27 (0, 0)) ∧ W0.heap[s + 1 + 1]? = some (.cells #[.slice none 0 0, .int .i64 0] 27 (0, 0)) := by subst hW0 hs; exact al3 _ _ _ _
  have z0 : s + 1 + 1 < W0.heap.size := box_lt B3
  have H1 : Hid _ := B1
  have H2 : Hid _ := B2
  have H3 : Hid _ := B3
  obtain ⟨i0, i1, -, -⟩ := box2_cells B1
  clear B1 B2 B3
  have hb0' : Below w.heap.size w W0 := hs ▸ hb0
  go_enter Try.func31, Try.ntmps31
  go_wp2_with fail
  refine (c1 _ (hc.below hb0')).mono ?_
  rintro e w1 ⟨b1, a', c', rfl, hc', m1⟩
  clear hW0 i0 i1
  have z1 := b1.size
  obtain ⟨K1, K2, K3⟩ : Hid (w1.heap[s]? = _) ∧ Hid (w1.heap[s + 1]? = _) ∧ Hid (w1.heap[s + 1 + 1]? = _) := ⟨box_on H1.out b1, box_on H2.out b1, box_on H3.out b1⟩
  obtain ⟨r0, r1, q0, q1⟩ := box2_cells K3.out
  obtain ⟨e0, e1, d0, d1⟩ := box2_cells K2.out
  obtain ⟨j0, j1, -, -⟩ := box2_cells K1.out
  go_wp2
  obtain ⟨W3, hW3⟩ : ∃ W3, (((w1.setCell ⟨s + 1 + 1, 0, none⟩ (.slice a' n c')).setCell ⟨s + 1 + 1, 1, none⟩ (.int .i64 root)).setCell ⟨s + 1, 0, none⟩ (.slice a' n c')).setCell ⟨s + 1, 1, none⟩ (.int .i64 root) = W3 := ⟨_, rfl⟩
  have o2 : Out (s + 1) (s + 1 + 1 + 1) w1 W3 := by
    subst hW3
    exact ((((Out.refl _ _ _).setCell (by omega) (by omega) _ _).setCell (by omega) (by omega) _ _).setCell (by omega) (by omega) _ _).setCell (by omega) (by omega) _ _
  have R : W3.heap[s + 1]? = some (.cells #[.slice a' n c', .int .i64 root] 27 (0, 0)) := by
    subst hW3
    exact box2_set (box_out (box_out K2.out (out_setCell _ _ _ _) (by omega)) (out_setCell _ _ _ _) (by omega))
  rw [hW3]
  clear hW3 r0 r1 q0 q1 e0 e1 d0 d1 j0 j1
  obtain ⟨t0, t1, -, -⟩ := box2_cells R
  have z4 := o2.size
  refine bodyPost_ret (v := tv a' n c' root) (by simp [results, Try.results31, go_sem, t0, t1]) rfl ⟨?_, a', c', rfl, hc', ?_⟩
  · exact (Below.comp hb0' b1).trans ((o2.below (by omega)).mono (by omega))
  · exact (m1.out o2 (.inr (by omega))).mono (by omega) (by omega)
theorem eqTree_same (a a' : Option Addr) (N : List Nd) (cap cap' : Nat) (root : Int) (w : World) (hn : N.length ≤ 9223372036854775807) (hnk : ∀ i, i < N.length → (gn N i).ks.length ≤ 9223372036854775807 ∧ (gn N i).cs.length ≤ 9223372036854775807) (hc : Nodes w a N) (hc' : Nodes w a' N) :
    Calls Try.prog 26 #[tv a N.length cap root, tv a' N.length cap' root] w fun e w' => e = .returned (.bool true) ∧ Below w.heap.size w w' := by
  have c1 := fun W h h' => eqNodeS_same a a' N cap cap' W hn hnk h h'
  generalize N.length = n at *
  obtain ⟨s, hs⟩ : ∃ s, w.heap.size = s := ⟨_, rfl⟩
  obtain ⟨W0, hW0⟩ : ∃ W0, (w.alloc (.cells #[.slice a n cap, .int .i64 root] 27)).alloc (.cells #[.slice a' n cap', .int .i64 root] 27) = W0 := ⟨_, rfl⟩
  have hb0' : Below w.heap.size w W0 := by subst hW0; exact ba2 _ _ _
  obtain ⟨B1, B2⟩ : W0.heap[s]? = some (.cells #[.slice a n cap, .int .i64 root] 27 (0, 0)) ∧ W0.heap[s + 1]? = some (.cells #[.slice a' n cap', .int .i64 root] 27 (0, 0)) := by subst hW0 hs; exact al2 _ _ _
  have H1 : Hid _ := B1
  have H2 : Hid _ := B2
  obtain ⟨i0, i1, -, -⟩ := box2_cells B1
  obtain ⟨j0, j1, -, -⟩ := box2_cells B2
  clear B1 B2
  go_enter Try.func26, Try.ntmps26
  go_wp2_with fail
  refine (c1 _ (hc.below hb0') (hc'.below hb0')).mono ?_
  rintro e w1 ⟨rfl, b1⟩
  clear hW0 i0 i1 j0 j1
  obtain ⟨i0, i1, -, -⟩ := box2_cells (box_on H1.out b1)
  obtain ⟨j0, j1, -, -⟩ := box2_cells (box_on H2.out b1)
  go_wp2
  go_ret
  exact ⟨rfl, Below.comp hb0' b1⟩
end Go.Proofs.Ytggkpcgjmanelaa
