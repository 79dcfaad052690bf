import Derived.Test.YtpolhigpcllhiaaIE
import Derived.Lib.AppendZeros
import Derived.Test.YtpolhigpcllhiaaOL
/- Rows of items joined by the library; free room copied. -/
namespace Go.Proofs.Ytpolhigpcllhiaa
open Go.ChangeShapes Go.WideShapes Go.ChangeAt Go.RowKit
set_option linter.unusedVariables false
open Room

attribute [local go_sem] Oper.semAt_some

set_option maxRecDepth 10000 in
theorem GrowI_any (n : Nat) (w : World) (hn : n ≤ 4000000) :
    Calls Try.prog 77 #[.slice none 0 0, .int .i64 n] w fun e w' => Below w.heap.size w w' ∧ ∃ x c, e = .returned (.slice x 0 c) ∧ OwnI w' w.heap.size (.slice x 0 c) [] := by
  by_cases h0 : n = 0
  · subst h0
    go_enter Try.func77, Try.ntmps77
    go_wp2
    go_ret
    exact ⟨Below.refl _ _, _, _, rfl, OwnI.nil _ _⟩
  · obtain ⟨i, hi, hz0, hz1, hz2⟩ := info_parts infoIt
    have happ := Lib.run_append_nil_zeros (P := Try.prog) w 25 3 25 71 i (.agg #[.int .i64 0, .int .i64 0, .int .i64 0, .int .i64 0, .int .i64 0]) .i64 .i64 Try.underlying25 Try.underlying3 hi hz0 n (by omega) (by rw [hz1]; omega) (by omega) (by rw [hz2]; omega)
    generalize hcap : grownCap w n 0 71 = cap2 at happ
    have hcapge : n ≤ cap2 := by rw [← hcap]; exact grownCap_ge w _ 0 71
    have hcaple : cap2 ≤ maxLen := by rw [← hcap]; exact grownCap_le_maxLen w _ 0 71 (by unfold maxLen; omega)
    generalize hZ : (Builtin.zeroCells (Value.agg #[.int .i64 0, .int .i64 0, .int .i64 0, .int .i64 0, .int .i64 0]).cells n ++ Builtin.zeroCells (Value.agg #[.int .i64 0, .int .i64 0, .int .i64 0, .int .i64 0, .int .i64 0]).cells (cap2 - n)) = Z at happ
    have hZs : Z.size = cap2 * 5 := by rw [← hZ]; simp [size_zeroCells, Value.cells]; omega
    clear hcap hZ
    have h0' : (0 : Int) < (n : Int) := by omega
    have hsl := slice_toI (some ⟨w.heap.size, 0, none⟩) n cap2 0 (Nat.zero_le _)
    have hs0 : subI (some ⟨w.heap.size, 0, none⟩) 0 cap2 = some ⟨w.heap.size, 0, none⟩ := by
      unfold subI
      split
      · rfl
      · simp [Addr.add]
    rw [hs0] at hsl
    clear hi hz0 hz1 hz2 hs0 h0
    go_enter Try.func77, Try.ntmps77
    go_wp2_with (at_builtin; refine Lib.wpList_append_run _ rfl _ _ _ _ rfl _ _ rfl rfl _ _ happ ?_)
    go_ret
    refine ⟨(Below.refl _ _).drew.alloc (Nat.le_refl _) _, _, _, rfl, rfl, .inr ⟨w.heap.size, cap2, Z, rfl, Nat.le_refl _, heap_alloc_new w.drew _, Nat.zero_le _, hcaple, hZs, rfl⟩⟩

/-- So many lists, one behind the other. -/
def flatI (L : Nat → List It) : Nat → List It
  | 0 => []
  | n + 1 => flatI L n ++ L n
theorem flatI_len (L : Nat → List It) : ∀ n, (flatI L (n + 1)).length = (flatI L n).length + (L n).length := fun n => by simp [flatI]

set_option maxHeartbeats 1000000 in
theorem ConcatI_any (b n cap : Nat) (A : Nat → Option Addr) (C : Nat → Nat) (L : Nat → List It) (w : World) (hn : n ≤ 3) (hl : ∀ i, i < n → (L i).length ≤ 1048576) (hc : ∀ i, i < n → w.cell? ⟨b, i, none⟩ = some (.slice (A i) (L i).length (C i))) (hr : ∀ i, i < n → Its w (A i) (L i)) :
    Calls Try.prog 66 #[.slice (some ⟨b, 0, none⟩) n cap] w fun e w' => Below w.heap.size w w' ∧ ∃ x c, e = .returned (.slice x (flatI L n).length c) ∧ OwnI w' w.heap.size (.slice x (flatI L n).length c) (flatI L n) := by
  have hfl : ∀ k, k ≤ n → (flatI L k).length ≤ k * 1048576 := fun k => by
    induction k with
    | zero => simp [flatI]
    | succ k ih => intro h; have := ih (by omega); have := hl k (by omega); rw [flatI_len]; omega
  have Hfl : Hid _ := hfl
  have Hr : Hid _ := hr
  have Hl : Hid _ := hl
  clear hfl hr hl
  go_enter Try.func66, Try.ntmps66
  go_wp2
  go_loop [11, 3] (fun i q => ∃ (k : Nat), k ≤ n ∧ i = .int .i64 k ∧ q = .int .i64 ((flatI L k).length : Nat)) (fun i _ => n - (intOf i).toNat)
  case atStart => exact ⟨0, Nat.zero_le _, rfl, rfl⟩
  case round =>
    obtain ⟨k, hk, rfl, rfl⟩ := hrel
    by_cases hlt : k < n
    · have hck := hc k hlt
      have h1 := Hfl.out k hk
      have h2 := Hl.out k hlt
      have h3 := flatI_len L k
      generalize hq1 : (flatI L k).length = q1 at *
      generalize hq2 : (L k).length = q2 at *
      have h4 : ¬ ((q1 : Int) + (q2 : Int) < 0) := by omega
      have H3 : Hid _ := h3
      clear h3 hq1 hq2 hc
      go_wp2
      go_round
      case rel => exact ⟨k + 1, by omega, by go_num, by rw [H3.out]; simp⟩
      case measure => simp [intOf]; omega
    · have hkn : k = n := by omega
      subst hkn
      have h1 := Hfl.out k (Nat.le_refl _)
      have c108 := GrowI_any (flatI L k).length w (by omega)
      go_wp2_with fail
      refine c108.mono ?_
      rintro e w1 ⟨b1, x, c, rfl, own1⟩
      clear c108
      have HO : Hid (OwnI w1 w.heap.size (.slice x 0 c) []) := own1
      clear own1
      go_wp2
      go_loopw [27, 6] (fun i o wr => ∃ (j : Nat) (y : Option Addr) (cy : Nat), j ≤ k ∧ i = .int .i64 j ∧ o = .slice y (flatI L j).length cy ∧ Hid (OwnI wr w.heap.size (.slice y (flatI L j).length cy) (flatI L j)) ∧ Below w.heap.size w wr) (fun i _ _ => k - (intOf i).toNat)
      case atStart => exact ⟨0, x, c, Nat.zero_le _, rfl, rfl, HO, b1⟩
      case round =>
        obtain ⟨j, y, cy, hj, rfl, rfl, HJ, hb⟩ := hrel
        by_cases hjk : j < k
        · have hcj := cell_on (hc j hjk) hb
          clear hc
          have st := RowI.src ((Hr.out j hjk).below hb)
          have h2 := Hl.out j hjk
          have h3 := Hfl.out j hj
          have hcl := cis_len (L j)
          have z := hb.size
          have ho := HJ.out
          have e1 : (flatI L (j + 1)).length = (flatI L j).length + (L j).length := flatI_len L j
          have e2 : cis (flatI L (j + 1)) = cis (flatI L j) ++ cis (L j) := by rw [flatI, cis_app]
          have HE : Hid _ := And.intro e1 e2
          have Hcl : Hid _ := hcl
          clear e1 e2 hcl
          have HOJ : Hid (wr.ownsRow w.heap.size 71 5 (.slice y (flatI L j).length cy) (flatI L j).length (cis (flatI L j))) := ho
          clear ho
          generalize (flatI L j).length = q1 at *
          generalize (L j).length = q2 at *
          go_wp2_with (at_builtin; refine wpList_append_src rfl _ _ 25 rfl w.heap.size 71 _ 5 40 Try.underlying25 infoIt rfl (by decide) (.slice y q1 cy) q1 (cis (flatI L j)) rfl HOJ.out (A j) q2 (C j) (cis (L j)) rfl Hcl.out st (cis_one _) (by omega) (by decide) z ?_; intro v2 w2 own2 gr2; obtain ⟨y2, c2, e2⟩ := owns_form own2; subst e2; have b2 : Below w.heap.size w w2 := hb.trans (Grown.below gr2 z (owns_ge HOJ.out)); have HO2 : Hid (w2.ownsRow w.heap.size 71 5 (.slice y2 (q1 + q2) c2) (q1 + q2) (cis (flatI L j) ++ cis (L j))) := own2; clear own2 gr2)
          go_roundw
          case rel => exact ⟨j + 1, y2, c2, by omega, by go_num, by rw [HE.out.1], by show OwnI _ _ _ _; unfold OwnI; rw [HE.out.1, HE.out.2]; exact HO2.out, b2⟩
          case measure => simp [intOf]; omega
        · have hjk' : j = k := by omega
          subst hjk'
          go_wp2
          go_ret
          exact ⟨hb, y, cy, rfl, HJ.out⟩


/-- Free room whose two rows lie apart, between two marks of the heap. -/
def FrM (w : World) (B C : Nat) (v : Value) (b : Int) (n n' : Nat) (f f' : Nat → Ex) : Prop :=
  ∃ x c x' c' p1 q1 p2 q2, v = fv b x n c x' n' c' ∧ (B ≤ p1 ∧ q1 ≤ C ∧ B ≤ p2 ∧ q2 ≤ C) ∧ (q1 ≤ p2 ∨ q2 ≤ p1) ∧ MineX w p1 q1 x n f ∧ MineX w p2 q2 x' n' f'
theorem FrM.out {w w' : World} {B C B' C' : Nat} {v : Value} {b : Int} {n n' : Nat} {f f' : Nat → Ex} (h : FrM w B C v b n n' f f') (ho : Out B' C' w w') (hd : C ≤ B' ∨ C' ≤ B) : FrM w' B C v b n n' f f' := by
  obtain ⟨x, c, x', c', p1, q1, p2, q2, rfl, h0, h0', h1, h2⟩ := h
  exact ⟨x, c, x', c', p1, q1, p2, q2, rfl, h0, h0', h1.out ho (by omega), h2.out ho (by omega)⟩
theorem FrM.below {w w' : World} {B C : Nat} {v : Value} {b : Int} {n n' : Nat} {f f' : Nat → Ex} (h : FrM w B C v b n n' f f') (hb : Below w.heap.size w w') : FrM w' B C v b n n' f f' :=
  h.out (Out.of_below (B := C) (C := C) hb) (.inl (Nat.le_refl _))
theorem FrM.mono {w : World} {B C B' C' : Nat} {v : Value} {b : Int} {n n' : Nat} {f f' : Nat → Ex} (h : FrM w B C v b n n' f f') (h1 : B' ≤ B) (h2 : C ≤ C') : FrM w B' C' v b n n' f f' := by
  obtain ⟨x, c, x', c', p1, q1, p2, q2, rfl, h0, h0', k1, k2⟩ := h
  exact ⟨x, c, x', c', p1, q1, p2, q2, rfl, by omega, h0', k1, k2⟩
theorem copyList_mine (a : Option Addr) (cap : Nat) (l : List Ex) (w : World) (hn : l.length ≤ 1048576) (hc : Exs w a l) :
    Calls Try.prog 76 #[.slice a l.length cap] w fun e w' => Below w.heap.size w w' ∧ ∃ x c, e = .returned (.slice x l.length c) ∧ MineX w' w.heap.size w'.heap.size x l.length (gx l) := by
  refine (copyList_any a cap l w hn hc).mono ?_
  rintro e w1 ⟨g1, rfl, c, hc1, hc2⟩
  exact ⟨g1, _, _, rfl, .inr ⟨_, c, Nat.le_refl _, box_lt hc1, rfl, hc1, hc2⟩⟩
set_option maxHeartbeats 2000000 in
theorem copyFree_any (b : Int) (a : Option Addr) (ca : Nat) (a' : Option Addr) (ca' : Nat) (l s : List Ex) (w : World) (hn : l.length ≤ 1048576) (hn' : s.length ≤ 1048576) (ha : Exs w a l) (ha' : Exs w a' s) :
    Calls Try.prog 65 #[fv b a l.length ca a' s.length ca'] w fun e w' => Below w.heap.size w w' ∧ ∃ v, e = .returned v ∧ FrM w' w.heap.size w'.heap.size v b l.length s.length (gx l) (gx s) := by
  have c1 := fun W h => copyList_mine a ca l W hn (ha.below h)
  have c2 := fun W h => copyList_mine a' ca' s W hn' (ha'.below h)
  clear ha ha'
  generalize gx l = f at *
  generalize gx s = f' at *
  generalize l.length = n at *
  generalize s.length = n' at *
  obtain ⟨D, hD⟩ : ∃ D, w.heap.size = D := ⟨_, rfl⟩
  obtain ⟨W0, hW0⟩ : ∃ W0, (w.alloc (.cells #[.int .i64 b, .slice a n ca, .slice a' n' ca'] 24)).alloc (.cells #[.int .i64 0, .slice none 0 0, .slice none 0 0] 24) = W0 := ⟨_, rfl⟩
  have g0 : Below w.heap.size w W0 := by subst hW0; exact ba2 _ _ _
  obtain ⟨B1, B2⟩ : W0.heap[D]? = some (.cells #[.int .i64 b, .slice a n ca, .slice a' n' ca'] 24 (0, 0)) ∧ W0.heap[D + 1]? = some (.cells #[.int .i64 0, .slice none 0 0, .slice none 0 0] 24 (0, 0)) := by subst hW0 hD; exact al2 _ _ _
  have H1 : Hid (W0.heap[D]? = some (.cells #[.int .i64 b, .slice a n ca, .slice a' n' ca'] 24 (0, 0))) := B1
  have H2 : Hid (W0.heap[D + 1]? = some (.cells #[.int .i64 0, .slice none 0 0, .slice none 0 0] 24 (0, 0))) := B2
  have z0 := box_lt B2
  have SB : Hid (∀ W, Below W0.heap.size W0 W → W.cell? ⟨D, 0, none⟩ = some (.int .i64 b) ∧ W.cell? ⟨D, 1, none⟩ = some (.slice a n ca) ∧ W.cell? ⟨D, 2, none⟩ = some (.slice a' n' ca') ∧ W.cell? ⟨D + 1, 0, none⟩ = some (.int .i64 0) ∧ W.cell? ⟨D + 1, 1, none⟩ = some (.slice none 0 0) ∧ W.cell? ⟨D + 1, 2, none⟩ = some (.slice none 0 0) ∧ W.frozen? ⟨D + 1, 0, none⟩ = false ∧ W.frozen? ⟨D + 1, 1, none⟩ = false ∧ W.frozen? ⟨D + 1, 2, none⟩ = false ∧ Below W0.heap.size W0 W) := fun W z => by
    obtain ⟨h0, h1, h2, -, -, -⟩ := box3_cells (box_on H1.out z)
    obtain ⟨k0, k1, k2, k3, k4, k5⟩ := box3_cells (box_on H2.out z)
    exact ⟨h0, h1, h2, k0, k1, k2, k3, k4, k5, z⟩
  clear B1 B2
  go_enter Try.func65, Try.ntmps65
  go_wp2
  clear hW0
  refine wp_region_L (fun W => Below W0.heap.size W0 W) 9 10 (by kernel_rfl) rfl (Below.drew (Below.refl _ _)) (fun hS0 => ?_)
  refine tkL (i := 0) (d := 3) (v := ?_) rfl rfl (by kernel_rfl) (by kernel_rfl) (by kernel_rfl) (by kernel_rfl) (fun _ _ _ h => h) (Or.inl ⟨by rfl, by intro wq hSq; obtain ⟨q0, q1, q2, -, -, -, -, -, -, -⟩ := SB.out wq hSq; go_simp; try with_reducible rfl⟩) (by assumption) ?_
  simp only [List.setIfInBounds_toArray, List.set_cons_zero, List.set_cons_succ]
  refine tkL (i := 1) (d := 4) (v := ?_) rfl rfl (by kernel_rfl) (by kernel_rfl) (by kernel_rfl) (by kernel_rfl) (fun _ _ _ h => h) (Or.inl ⟨by rfl, by intro wq hSq; obtain ⟨q0, q1, q2, -, -, -, -, -, -, -⟩ := SB.out wq hSq; go_simp; try with_reducible rfl⟩) (by assumption) ?_
  simp only [List.setIfInBounds_toArray, List.set_cons_zero, List.set_cons_succ]
  refine tkL (i := 2) (d := 5) (v := ?_) rfl rfl (by kernel_rfl) (by kernel_rfl) (by kernel_rfl) (by kernel_rfl) (fun _ _ _ h => h) (Or.inl ⟨by rfl, by intro wq hSq; obtain ⟨q0, q1, q2, -, -, -, -, -, -, -⟩ := SB.out wq hSq; go_simp; try with_reducible rfl⟩) (by assumption) ?_
  simp only [List.setIfInBounds_toArray, List.set_cons_zero, List.set_cons_succ]
  refine tkL (i := 3) (d := 6) (v := ?_) rfl rfl (by kernel_rfl) (by kernel_rfl) (by kernel_rfl) (by kernel_rfl) (fun _ _ _ h => h) (Or.inl ⟨by rfl, by intro wq hSq; obtain ⟨q0, q1, q2, -, -, -, -, -, -, -⟩ := SB.out wq hSq; go_simp; try with_reducible rfl⟩) (by assumption) ?_
  simp only [List.setIfInBounds_toArray, List.set_cons_zero, List.set_cons_succ]
  refine tkL (i := 5) (d := 8) (v := ?_) rfl rfl (by kernel_rfl) (by kernel_rfl) (by kernel_rfl) (by kernel_rfl) (fun _ _ _ h => h) (Or.inl ⟨by rfl, by intro wq hSq; obtain ⟨q0, q1, q2, -, -, -, -, -, -, -⟩ := SB.out wq hSq; go_simp; try with_reducible rfl⟩) (by assumption) ?_
  simp only [List.setIfInBounds_toArray, List.set_cons_zero, List.set_cons_succ]
  refine tkL (i := 6) (d := 9) (v := ?_) rfl rfl (by kernel_rfl) (by kernel_rfl) (by kernel_rfl) (by kernel_rfl) (fun _ _ _ h => h) (Or.inl ⟨by rfl, by intro wq hSq; obtain ⟨q0, q1, q2, -, -, -, -, -, -, -⟩ := SB.out wq hSq; go_simp; try with_reducible rfl⟩) (by assumption) ?_
  simp only [List.setIfInBounds_toArray, List.set_cons_zero, List.set_cons_succ]
  refine oneL (i := 4) rfl (by kernel_rfl) (fun K hK => ?_)
  go_simp
  refine (c1 _ (Below.comp g0 hS0)).mono ?_
  rintro e w1 ⟨b1, x, cx, rfl, m1⟩
  have s1 : Below W0.heap.size W0 w1 := Below.comp hS0 b1
  refine hK.out _ _ s1 (fun _ => ?_)
  clear hK K
  refine oneL (i := 7) rfl (by kernel_rfl) (fun K hK => ?_)
  go_simp
  refine (c2 _ (Below.comp g0 s1)).mono ?_
  rintro e w2 ⟨b2, x', cx', rfl, m2⟩
  have s2 : Below W0.heap.size W0 w2 := Below.comp s1 b2
  refine hK.out _ _ s2 (fun hS2 => ?_)
  clear hK K
  refine tkL (i := 8) (d := 11) (v := ?_) rfl rfl (by kernel_rfl) (by kernel_rfl) (by kernel_rfl) (by kernel_rfl) (fun _ _ _ h => h) (Or.inl ⟨by rfl, by intro wq hSq; go_simp; try with_reducible rfl⟩) (by assumption) ?_
  simp only [List.setIfInBounds_toArray, List.set_cons_zero, List.set_cons_succ]
  obtain ⟨-, -, -, k0, k1, k2, k3, k4, k5, -⟩ := SB.out w2 s2
  have R2 : w2.heap[D + 1]? = some (.cells #[.int .i64 0, .slice none 0 0, .slice none 0 0] 24 (0, 0)) := box_on H2.out s2
  refine lastL rfl (by kernel_rfl) (by kernel_rfl) (fun K hK => ?_)
  go_simp
  refine hK.out _ _ ?_
  clear hK K
  obtain ⟨W3, hW3⟩ : ∃ W3, ((w2.setCell ⟨D + 1, 0, none⟩ (.int .i64 b)).setCell ⟨D + 1, 1, none⟩ (.slice x n cx)).setCell ⟨D + 1, 2, none⟩ (.slice x' n' cx') = W3 := ⟨_, rfl⟩
  have o3 : Out (D + 1) (D + 1 + 1) w2 W3 := by subst hW3; exact box3_out _ _ _ _ _
  have R : W3.heap[D + 1]? = some (.cells #[.int .i64 b, .slice x n cx, .slice x' n' cx'] 24 (0, 0)) := by subst hW3; exact box3_set R2
  first | rw [hW3] | skip
  obtain ⟨t0, t1, t2, -, -, -⟩ := box3_cells R
  have z1 : W0.heap.size ≤ w1.heap.size := s1.size
  have zd : W0.drew.heap.size = W0.heap.size := rfl
  have z2 := b2.size
  have z3 := o3.size
  go_wp2
  refine bodyPost_ret (v := fv b x n cx x' n' cx') (by simp [results, Try.results65, go_sem, t0, t1, t2]) rfl ?_
  exact ⟨(Below.comp g0 s2).trans ((o3.below (by omega)).mono (by omega)), _, rfl, x, cx, x', cx', W0.heap.size, w1.heap.size, w1.heap.size, w2.heap.size, rfl, by omega, by omega, (m1.below b2).out o3 (.inr (by omega)), m2.out o3 (.inr (by omega))⟩
end Go.Proofs.Ytpolhigpcllhiaa
