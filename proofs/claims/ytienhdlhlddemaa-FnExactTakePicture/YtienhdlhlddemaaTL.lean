import Derived.Test.YtienhdlhlddemaaTK
/- impl.TakePicture, the walk. -/
namespace Go.Proofs.Ytienhdlhlddemaa
open Go.ChangeShapes Go.WideShapes Go.ChangeAt Go.RowKit
set_option linter.unusedVariables false
open Hd

attribute [local go_sem] Oper.semAt_some

set_option maxRecDepth 20000 in
set_option maxHeartbeats 8000000 in
theorem implTake_any (v : Value) (c : Co) (x : Int) (w : World) (hc : CowAt w v c) (hf : FewW c) :
    Calls Try.prog 8 #[v, .int .i64 x] w fun e w' => Below w.heap.size w w' ∧ ∃ v', e = .returned (.tuple #[v', .bool (tkB c x)]) ∧ Fk.WOwn w' w.heap.size w'.heap.size v' (tkD c x) := by
  have cO := fun W b h h2 => opened_any v c [x] b 1 W (hc.below h) hf h2 (by simp)
  obtain ⟨a, ca, a', ca', rfl, -, -, -, -⟩ := hc
  clear hf
  unfold kv at *
  generalize hn : c.cs.length = n at *
  generalize hm : c.rs.length = m at *
  generalize hlv : c.lv = lv at *
  have Hn : Hid (c.cs.length = n) := hn
  have Hm : Hid (c.rs.length = m) := hm
  have Hlv : Hid (c.lv = lv) := hlv
  clear hn hm hlv
  obtain ⟨E, hE⟩ : ∃ E, w.heap.size = E := ⟨_, rfl⟩
  have HE : Hid (w.heap.size = E) := hE
  obtain ⟨W0, hW0⟩ : ∃ W0, (w.alloc (.cells #[.slice a n ca, .slice a' m ca', .int .i64 lv] 29)).alloc (.cells #[.slice none 0 0, .slice none 0 0, .int .i64 0] 29) = W0 := ⟨_, rfl⟩
  have q0 : Below w.heap.size w W0 := by subst hW0; exact ba2 _ _ _
  obtain ⟨B1, B2⟩ : W0.heap[E]? = some (.cells #[.slice a n ca, .slice a' m ca', .int .i64 lv] 29 (0, 0)) ∧ W0.heap[E + 1]? = some (.cells #[.slice none 0 0, .slice none 0 0, .int .i64 0] 29 (0, 0)) := by subst hW0 hE; exact al2 _ _ _
  have H2 : Hid _ := B2
  obtain ⟨i0, i1, i2⟩ := box3_one B1
  clear B1 B2
  obtain ⟨W1, hW1⟩ : ∃ W1, W0.alloc (.cells #[.int .i64 x] 3) = W1 := ⟨_, rfl⟩
  have q1 : Below W0.heap.size W0 W1 := by subst hW1; exact below_alloc _ _
  have HX : W1.heap[W0.heap.size]? = some (.cells #[.int .i64 x] 3 (0, 0)) := by subst hW1; exact al1 _ _
  have q01 := Below.comp q0 q1
  have c0 := cO W1 (some ⟨W0.heap.size, 0, none⟩) q01 (int_one HX)
  have R1 : Hid (W1.heap[E + 1]? = some (.cells #[.slice none 0 0, .slice none 0 0, .int .i64 0] 29 (0, 0))) := box_on H2.out q1
  clear cO HX
  go_enter Try.func8, Try.ntmps8
  go_wp2_with fail
  refine c0.mono ?_
  rintro e w1 ⟨b1, y, rfl, hyF, hno, hyes⟩
  clear i0 i1 i2 hW0 hW1 c0
  have g1 : Below w.heap.size w w1 := Below.comp q01 b1
  have R2 : Hid (w1.heap[E + 1]? = some (.cells #[.slice none 0 0, .slice none 0 0, .int .i64 0] 29 (0, 0))) := box_on R1.out b1
  obtain ⟨Eo, hEo⟩ : ∃ Eo, w1.heap.size = Eo := ⟨_, rfl⟩
  have HEo : Hid (w1.heap.size = Eo) := hEo
  have hEE : E + 1 < Eo := by rw [← hEo]; exact box_lt R2.out
  have hall : ([x].all (inB c.rs.length)) = inB m x := by rw [Hm.out]; simp
  rw [hall] at hno hyes ⊢
  obtain ⟨fl, hfl⟩ : ∃ fl, (gI c && inB m x) = fl := ⟨_, rfl⟩
  have HFl : Hid ((gI c && inB m x) = fl) := hfl
  rw [hfl] at hno hyes ⊢
  clear hfl hall
  cases fl with
  | false =>
    have hz := hno rfl
    subst hz
    have HTk : Hid (tkB c x = false) := by
      show _ = _
      have h := HFl.out
      unfold tkB
      rw [Hm.out]
      cases h1 : gI c with
      | false => rfl
      | true => rw [h1] at h; simp only [Bool.true_and] at h ⊢; rw [h]; rfl
    obtain ⟨W2, hW2⟩ : ∃ W2, w1.alloc (.cells #[.slice none 0 0, .slice none 0 0, .slice none 0 0, .int .i64 0] 47) = W2 := ⟨_, rfl⟩
    have q2 : Below w1.heap.size w1 W2 := by subst hW2; exact below_alloc _ _
    have HB2 : Hid (W2.heap[Eo]? = some (.cells #[.slice none 0 0, .slice none 0 0, .slice none 0 0, .int .i64 0] 47 (0, 0))) := by subst hW2 hEo; exact al1 _ _
    obtain ⟨⟨x0, x1, x2, x3⟩, f0, f1, f2, f3⟩ := box4_cells HB2.out
    obtain ⟨W3, hW3⟩ : ∃ W3, (((W2.setCell ⟨Eo, 0, none⟩ (.slice none 0 0)).setCell ⟨Eo, 1, none⟩ (.slice none 0 0)).setCell ⟨Eo, 2, none⟩ (.slice none 0 0)).setCell ⟨Eo, 3, none⟩ (.int .i64 0) = W3 := ⟨_, rfl⟩
    have o3 : Out Eo (Eo + 1) W2 W3 := by subst hW3; exact box4_out _ _ _ _ _ _
    have g3 : Below w1.heap.size w1 W3 := q2.trans ((o3.below (Nat.le_of_lt (box_lt HB2.out))).mono (by rw [HEo.out]; exact Nat.le_refl _))
    have R3 : Hid (W3.heap[E + 1]? = some (.cells #[.slice none 0 0, .slice none 0 0, .int .i64 0] 29 (0, 0))) := box_on R2.out g3
    obtain ⟨j0, j1, j2, f4, f5, f6⟩ := box3_cells R3.out
    obtain ⟨W4, hW4⟩ : ∃ W4, ((W3.setCell ⟨E + 1, 0, none⟩ (.slice none 0 0)).setCell ⟨E + 1, 1, none⟩ (.slice none 0 0)).setCell ⟨E + 1, 2, none⟩ (.int .i64 0) = W4 := ⟨_, rfl⟩
    have R4 : W4.heap[E + 1]? = some (.cells #[.slice none 0 0, .slice none 0 0, .int .i64 0] 29 (0, 0)) := by subst hW4; exact box3_set R3.out
    have o4 : Out (E + 1) (E + 1 + 1) W3 W4 := by subst hW4; exact (((Out.refl _ _ _).setCell (Nat.le_refl _) (Nat.lt_succ_self _) _ _).setCell (Nat.le_refl _) (Nat.lt_succ_self _) _ _).setCell (Nat.le_refl _) (Nat.lt_succ_self _) _ _
    have hb4 : Hid (Below w.heap.size w W4) := (Below.comp g1 g3).trans ((o4.below (Nat.le_of_lt (box_lt R3.out))).mono (by rw [HE.out]; omega))
    have HT : Hid _ := box3_one R4
    clear R4 hno hyes
    go_wp2_with fail
    try rw [hW4]
    obtain ⟨t0, t1, t2⟩ := HT.out
    have e1 : tkD c x = zCo := by unfold tkD; rw [HTk.out]; rfl
    have HE1 : Hid (tkD c x = zCo) := e1
    clear e1
    exact bodyPost_ret (v := .tuple #[zk, .bool false]) (by simp [results, Try.results8, go_sem, t0, t1, t2]) rfl ⟨hb4.out, zk, by rw [HTk.out], by rw [HE1.out]; exact zCo_own hb4.out.size⟩
  | true =>
    obtain ⟨u, ku, d, kd, gr, rfl, hcu, hcd, hgr, hrow, hcw⟩ := hyes rfl
    have HCap : Hid (c.cs.length ≤ ku ∧ c.cs.length ≤ kd) := ⟨hcu, hcd⟩
    clear hcu hcd
    have HCw : Hid (∀ W, Out gr (gr + 1) w1 W → Cws W u c.cs ∧ Ints W d (c.cs.map (·.ct))) := hcw
    have HRow : Hid (Row w1 gr c.rs) := hrow
    clear hno hyes hcw hrow hyF
    have hgi : gI c = true ∧ inB m x = true := by have h := HFl.out; simpa using h
    obtain ⟨hg, hin⟩ := hgi
    have HG : Hid (gI c = true) := hg
    obtain ⟨hn80, hm1, hm8, hl1, hl3⟩ := gI_few' hg
    rw [Hn.out] at hn80
    rw [Hm.out] at hm1 hm8
    have hx : 0 ≤ x ∧ x < m := by unfold inB at hin; simpa using hin
    obtain ⟨p, rfl⟩ : ∃ p : Nat, x = (p : Int) := ⟨x.toNat, by omega⟩
    have hpm : p < m := by omega
    have hpm' : (p : Int) < (m : Int) := by omega
    clear hg hin hx
    rw [Hn.out, Hm.out, Hlv.out]
    unfold ov
    obtain ⟨W3, hW3⟩ : ∃ W3, w1.alloc (.cells #[.slice u n ku, .slice d n kd, .slice (some ⟨gr, 0, none⟩) m m, .int .i64 lv] 47) = W3 := ⟨_, rfl⟩
    have g3 : Below w1.heap.size w1 W3 := by subst hW3; exact below_alloc _ _
    have HB3 : Hid (W3.heap[Eo]? = some (.cells #[.slice u n ku, .slice d n kd, .slice (some ⟨gr, 0, none⟩) m m, .int .i64 lv] 47 (0, 0))) := by subst hW3 hEo; exact al1 _ _
    have HR3 : Hid (Row W3 gr c.rs) := box_on HRow.out g3
    obtain ⟨kx, hkx⟩ : ∃ kx, gi c.rs p = kx := ⟨_, rfl⟩
    have HKx : Hid (gi c.rs p = kx) := hkx
    have y2 := (box4_cells HB3.out).1.2.2.1
    have SB : Hid (∀ W, Below W3.heap.size W3 W → W.cell? ⟨Eo, 2, none⟩ = some (.slice (some ⟨gr, 0, none⟩) m m)) := fun W h => cell_on y2 h
    have hgrE : gr < Eo := by rw [← hEo]; exact HRow.out.lt
    clear hkx y2
    go_wp2_with fail
    clear hW3 hEo
    refine wp_region_noPanic ?_
    refine wp_region_L (fun W => W.cell? ⟨Eo, 2, none⟩ = some (.slice (some ⟨gr, 0, none⟩) m m)) 10 11 (by kernel_rfl) rfl (SB.out _ (Below.drew (Below.refl _ _))) (fun hS0 => ?_)
    refine tkL (i := 0) (d := 18) (v := ?_) rfl rfl (by kernel_rfl) (by kernel_rfl) (by kernel_rfl) (by kernel_rfl) (fun _ _ _ h => h) (Or.inl ⟨by rfl, by intro wq hSq; go_simp; try with_reducible rfl⟩) (by assumption) ?_
    simp only [List.setIfInBounds_toArray, List.set_cons_zero, List.set_cons_succ]
    refine tkL (i := 1) (d := 19) (v := ?_) rfl rfl (by kernel_rfl) (by kernel_rfl) (by kernel_rfl) (by kernel_rfl) (fun _ _ _ h => h) (Or.inl ⟨by rfl, by intro wq hSq; go_simp; try with_reducible rfl⟩) (by assumption) ?_
    simp only [List.setIfInBounds_toArray, List.set_cons_zero, List.set_cons_succ]
    refine tkL (i := 2) (d := 20) (v := ?_) rfl rfl (by kernel_rfl) (by kernel_rfl) (by kernel_rfl) (by kernel_rfl) (fun _ _ _ h => h) (Or.inl ⟨by rfl, by intro wq hSq; go_simp; try with_reducible rfl⟩) (by assumption) ?_
    simp only [List.setIfInBounds_toArray, List.set_cons_zero, List.set_cons_succ]
    refine tkL (i := 3) (d := 21) (v := ?_) rfl rfl (by kernel_rfl) (by kernel_rfl) (by kernel_rfl) (by kernel_rfl) (fun _ _ _ h => h) (Or.inl ⟨by rfl, by intro wq hSq; go_simp; try with_reducible rfl⟩) (by assumption) ?_
    simp only [List.setIfInBounds_toArray, List.set_cons_zero, List.set_cons_succ]
    refine tkL (i := 4) (d := 22) (v := ?_) rfl rfl (by kernel_rfl) (by kernel_rfl) (by kernel_rfl) (by kernel_rfl) (fun _ _ _ h => h) (Or.inl ⟨by rfl, by intro wq hSq; go_simp; try with_reducible rfl⟩) (by assumption) ?_
    simp only [List.setIfInBounds_toArray, List.set_cons_zero, List.set_cons_succ]
    refine tkL (i := 5) (d := 23) (v := ?_) rfl rfl (by kernel_rfl) (by kernel_rfl) (by kernel_rfl) (by kernel_rfl) (fun _ _ _ h => h) (Or.inl ⟨by rfl, by intro wq hSq; go_simp; try with_reducible rfl⟩) (by assumption) ?_
    simp only [List.setIfInBounds_toArray, List.set_cons_zero, List.set_cons_succ]
    have bd : Below W3.heap.size W3 W3.drew := Below.drew (Below.refl _ _)
    have HRd : Row W3.drew gr c.rs := HR3.out
    obtain ⟨t0, -⟩ := HRd.cell (i := p) (by rw [Hm.out]; exact hpm)
    rw [HKx.out] at t0
    refine oneL (i := 6) rfl (by kernel_rfl) (fun K hK => ?_)
    go_simp
    refine hK.out _ _ (SB.out _ bd) (fun _ => ?_)
    clear hK K t0
    refine oneL (i := 7) rfl (by kernel_rfl) (fun K hK => ?_)
    go_simp
    obtain ⟨W4, hW4⟩ : ∃ W4, (W3.alloc (.cells #[.int .i64 kx] 3)).drew = W4 := ⟨_, rfl⟩
    have b4 : Below W3.heap.size W3 W4 := by subst hW4; exact Below.drew (below_alloc _ _)
    have sr4 : (1 : Nat) = 0 ∨ ∃ ad, some (⟨W3.heap.size, 0, none⟩ : Addr) = some ad ∧ ∀ j u, [Value.int .i64 kx][j]? = some u → W4.cell? (ad.add j) = some u := by
      rcases src_new W3 (.int .i64 kx) 3 with h | ⟨ad, h1, h2⟩
      · omega
      · exact .inr ⟨ad, h1, fun j u hj => by subst hW4; exact h2 j u hj⟩
    have HR4 : Hid (W4.heap[gr]? = some (.cells (c.rs.map iv).toArray 3 (0, 0))) := box_on HR3.out b4
    have own4 : W4.ownsRow w.heap.size 3 1 (.slice (some ⟨gr, 0, none⟩) m m) m (cis c.rs) := ⟨by rw [cis_len, Hm.out]; omega, .inr ⟨gr, m, (c.rs.map iv).toArray, rfl, by have := q01.size; omega, HR4.out, Nat.le_refl _, by unfold maxLen; omega, by simp [Hm.out], by simp only [Nat.mul_one]; exact List.take_of_length_le (by simp [Hm.out])⟩⟩
    first | rw [hW4] | skip
    refine hK.out _ _ (SB.out _ b4) (fun _ => ?_)
    clear hK K hW4
    refine oneL (i := 8) rfl (by kernel_rfl) (fun K hK => ?_)
    rw [if_pos (by rfl)]
    refine wp_append_src _ _ 23 rfl w.heap.size 3 _ 1 8 Try.underlying23 info3 rfl (by decide) (.slice (some ⟨gr, 0, none⟩) m m) m (cis c.rs) rfl own4 (some ⟨W3.heap.size, 0, none⟩) 1 1 [.int .i64 kx] rfl rfl sr4 (by simp [Value.oneCell']) (by omega) (by decide) (by have h1 := (Below.comp g1 g3).size; have h2 := b4.size; omega) ?_
    intro v7 w7 own7 gr7
    obtain ⟨y7, c7, rfl⟩ := owns_form own7
    have hne7 : ∀ k, (Value.slice (some (⟨gr, 0, none⟩ : Addr)) m m).ownBlock = some k → k = gr := fun k hk => by simp [Value.ownBlock] at hk; exact hk.symm
    have gW4 : Below w.heap.size w W4 := Below.comp (Below.comp g1 g3) b4
    have HB7 : Hid (w7.heap[Eo]? = some (.cells #[.slice u n ku, .slice d n kd, .slice (some ⟨gr, 0, none⟩) m m, .int .i64 lv] 47 (0, 0))) := box_grown (box_on HB3.out b4) gr7 (fun k hk => by rw [hne7 k hk]; omega)
    have gW7 : Below w.heap.size w w7 := grown_on gW4 gW4.size own4 gr7
    have R7 : w7.heap[E + 1]? = some (.cells #[.slice none 0 0, .slice none 0 0, .int .i64 0] 29 (0, 0)) := box_grown (box_on (box_on R2.out g3) b4) gr7 (fun k hk => by rw [hne7 k hk]; have h1 := box_lt R1.out; have h2 := hgr; omega)
    obtain ⟨⟨x0, x1, x2, x3⟩, f0, f1, f2, f3⟩ := box4_cells HB7.out
    have b14 : Below w1.heap.size w1 W4 := Below.comp g3 b4
    have HOut7 : Hid (∀ W8, Out Eo (Eo + 1) w7 W8 → Out gr (gr + 1) w1 W8) := fun W8 o8 =>
      ⟨o8.os.trans (gr7.os.trans b14.os), o8.tape.trans (gr7.tape.trans b14.tape), o8.output.trans (gr7.output.trans b14.output), Nat.le_trans b14.size (Nat.le_trans gr7.size o8.size), fun j hj hs => by
        have h1 : j < Eo := by have h := HEo.out; omega
        have h2 : j < W4.heap.size := Nat.lt_of_lt_of_le hj b14.size
        rw [o8.block j (Nat.lt_of_lt_of_le h2 gr7.size) (.inl h1), gr7.block j h2 (by simp [Value.ownBlock]; omega), b14.block j hj]⟩
    have HOw7 : Hid (w7.ownsRow w.heap.size 3 1 (.slice y7 (m + 1) c7) (m + 1) (cis c.rs ++ [.int .i64 kx])) := own7
    refine hK.out _ _ x2 (fun _ => ?_)
    clear hK K own7 gr7 own4 sr4 hne7 gW4 b14 hS0
    simp only [Act.put]
    refine oneL (i := 9) rfl (by kernel_rfl) (fun K hK => ?_)
    go_simp
    refine hK.out _ _ x2 (fun _ => ?_)
    clear hK K
    refine lastL rfl (by kernel_rfl) (by kernel_rfl) (fun K hK => ?_)
    rw [if_pos (by rfl)]
    go_simp
    obtain ⟨W8, hW8⟩ : ∃ W8, w7.setCell ⟨Eo, 2, none⟩ (.slice y7 (m + 1) c7) = W8 := ⟨_, rfl⟩
    have o8 : Out Eo (Eo + 1) w7 W8 := by subst hW8; exact out_setCell _ _ _ _
    have HB8 : Hid (W8.heap[Eo]? = some (.cells #[.slice u n ku, .slice d n kd, .slice y7 (m + 1) c7, .int .i64 lv] 47 (0, 0))) := by subst hW8; exact block_set HB7.out
    rw [hW8]
    refine hK.out _ _ (NoPanic.normal ?_)
    clear hK K hW8 x0 x1 x2 x3 f0 f1 f2 f3
    have R8 : Hid (W8.heap[E + 1]? = some (.cells #[.slice none 0 0, .slice none 0 0, .int .i64 0] 29 (0, 0))) := box_out R7 o8 (.inl hEE)
    have g8 : Below w.heap.size w W8 := gW7.trans ((o8.below (Nat.le_of_lt (box_lt HB7.out))).mono (by rw [HE.out]; omega))
    have hl8 : (c.rs ++ [kx]).length = m + 1 := by rw [List.length_append, Hm.out]; rfl
    have HI8 : OwnI W8 w.heap.size (.slice y7 (m + 1) c7) (c.rs ++ [kx]) := by
      refine ⟨by rw [cis_len]; omega, ?_⟩
      rcases HOw7.out.2 with h6 | ⟨g', cap, cur, k1, k2, k3, k4, k5, k6, k7⟩
      · have := h6.2; omega
      · refine .inr ⟨g', cap, cur, by rw [hl8]; exact k1, k2, box_out k3 o8 ?_, by rw [hl8]; exact k4, k5, k6, by rw [hl8, cis_app]; exact k7⟩
        have : g' ≠ Eo := fun e => by
          subst e
          rw [HB7.out] at k3
          simp at k3
        omega
    obtain ⟨y8, c8, e8, hc8, hi8⟩ := OwnI.ints HI8
    rw [hl8] at e8
    simp only [Value.slice.injEq, true_and] at e8
    obtain ⟨rfl, rfl⟩ := e8
    rw [hl8] at hc8
    have HOp : Hid (OpAt W8 (ov u n ku d n kd y7 (m + 1) c7 lv) c.cs (c.cs.map (·.ct)) (c.rs ++ [kx]) lv) := by
      obtain ⟨h1, h2⟩ := HCw.out W8 (HOut7.out W8 o8)
      have h3 := HCap.out
      refine ⟨u, ku, d, kd, y7, c7, ?_, h3.1, by rw [List.length_map]; exact h3.2, by rw [hl8]; exact hc8, h1, h2, hi8⟩
      rw [List.length_map, Hn.out, hl8]
    clear hi8 HI8 R7 gW7 o8
    obtain ⟨⟨x0, x1, x2, x3⟩, -⟩ := box4_cells HB8.out
    have hE8 : E + 1 < W8.heap.size := box_lt R8.out
    by_cases hm88 : m = 8
    · have HTk : Hid (tkB c (p : Int) = false) := by
        show _ = _
        unfold tkB
        rw [Hm.out, hm88]
        simp
      have cL := closed_no u d y7 n ku n kd (m + 1) c7 lv W8 hn80 (by omega) (by omega)
      unfold ov at cL
      clear HOp HCw HOut7 HOw7 hm88
      go_wp2_with fail
      refine cL.mono ?_
      rintro e w9 ⟨b9, rfl⟩
      clear x0 x1 x2 x3 cL
      obtain ⟨r0, r1, r2, f4, f5, f6⟩ := box3_cells (box_on R8.out b9)
      have R9 := box_on R8.out b9
      obtain ⟨W10, hW10⟩ : ∃ W10, ((w9.setCell ⟨E + 1, 0, none⟩ (.slice none 0 0)).setCell ⟨E + 1, 1, none⟩ (.slice none 0 0)).setCell ⟨E + 1, 2, none⟩ (.int .i64 0) = W10 := ⟨_, rfl⟩
      have R10 : W10.heap[E + 1]? = some (.cells #[.slice none 0 0, .slice none 0 0, .int .i64 0] 29 (0, 0)) := by subst hW10; exact box3_set R9
      have o10 : Out (E + 1) (E + 1 + 1) w9 W10 := by subst hW10; exact (((Out.refl _ _ _).setCell (Nat.le_refl _) (Nat.lt_succ_self _) _ _).setCell (Nat.le_refl _) (Nat.lt_succ_self _) _ _).setCell (Nat.le_refl _) (Nat.lt_succ_self _) _ _
      have hb10 : Hid (Below w.heap.size w W10) := (Below.comp g8 b9).trans ((o10.below (Nat.le_of_lt (box_lt R9))).mono (by rw [HE.out]; omega))
      have HT : Hid _ := box3_one R10
      have HE1 : Hid (tkD c (p : Int) = zCo) := by show _ = _; unfold tkD; exact if_neg (by rw [HTk.out]; decide)
      clear R10 R9
      go_wp2_with fail
      try rw [hW10]
      obtain ⟨t0, t1, t2⟩ := HT.out
      exact bodyPost_ret (v := .tuple #[zk, .bool false]) (by simp [results, Try.results8, go_sem, t0, t1, t2]) rfl ⟨hb10.out, zk, by rw [HTk.out], by rw [HE1.out]; exact zCo_own hb10.out.size⟩
    · have HTk : Hid (tkB c (p : Int) = true) := by
        show _ = _
        unfold tkB inB
        rw [HG.out, Hm.out]
        simp
        omega
      obtain ⟨-, hok, hro, -⟩ := gI_parts HG.out
      have hpL : p < c.rs.length := by rw [Hm.out]; exact hpm
      have cL := closed_any (ov u n ku d n kd y7 (m + 1) c7 lv) c.cs (c.cs.map (·.ct)) (c.rs ++ [kx]) lv c.lv.toNat W8 HOp.out hok (by rw [Hn.out]; exact hn80) (by rw [hl8]; omega) (by rw [hl8]; omega) (by omega) (fun y hy => by
        rcases List.mem_append.1 hy with h | h
        · exact hro y h
        · simp at h
          subst h
          rw [← HKx.out, gi_eq hpL]
          exact hro _ (List.getElem_mem _)) (by rw [← HKx.out]; exact tk_pos HG.out hpL)
      have HDe : Hid (tkD c (p : Int) = ⟨clo c.cs ((c.rs ++ [kx]).foldl (mt c.cs c.lv.toNat) (zer c.cs.length)), c.rs ++ [kx], lv⟩) := by
        show _ = _
        unfold tkD
        rw [if_pos HTk.out]
        have h := take_clo HG.out p hpL
        unfold met at h
        rw [HKx.out] at h
        rw [h]
        unfold tkV
        simp only [Int.toNat_natCast]
        rw [HKx.out, Hlv.out]
      rw [← HDe.out] at cL
      clear hok hro hl8
      unfold ov at cL
      go_wp2_with fail
      refine cL.mono ?_
      rintro e w9 ⟨b9, v9, rfl, own9⟩
      obtain ⟨ra, rk, rb, rk', e9, -⟩ := own9.at_
      unfold kv at e9
      subst e9
      have HO9 : Hid (Fk.WOwn w9 W8.heap.size w9.heap.size (.agg #[.slice ra (tkD c (p : Int)).cs.length rk, .slice rb (tkD c (p : Int)).rs.length rk', .int .i64 (tkD c (p : Int)).lv]) (tkD c (p : Int))) := own9
      clear x0 x1 x2 x3 cL own9
      generalize (tkD c (p : Int)).cs.length = nn at *
      generalize (tkD c (p : Int)).rs.length = mm at *
      generalize (tkD c (p : Int)).lv = ll at *
      have R9 := box_on R8.out b9
      obtain ⟨r0, r1, r2, f4, f5, f6⟩ := box3_cells R9
      obtain ⟨W10, hW10⟩ : ∃ W10, ((w9.setCell ⟨E + 1, 0, none⟩ (.slice ra nn rk)).setCell ⟨E + 1, 1, none⟩ (.slice rb mm rk')).setCell ⟨E + 1, 2, none⟩ (.int .i64 ll) = W10 := ⟨_, rfl⟩
      have R10 : W10.heap[E + 1]? = some (.cells #[.slice ra nn rk, .slice rb mm rk', .int .i64 ll] 29 (0, 0)) := by subst hW10; exact box3_set R9
      have o10 : Out (E + 1) (E + 1 + 1) w9 W10 := by subst hW10; exact (((Out.refl _ _ _).setCell (Nat.le_refl _) (Nat.lt_succ_self _) _ _).setCell (Nat.le_refl _) (Nat.lt_succ_self _) _ _).setCell (Nat.le_refl _) (Nat.lt_succ_self _) _ _
      have hb10 : Hid (Below w.heap.size w W10) := (Below.comp g8 b9).trans ((o10.below (Nat.le_of_lt (box_lt R9))).mono (by rw [HE.out]; omega))
      have HV10 : Hid (Fk.WOwn W10 w.heap.size W10.heap.size (.agg #[.slice ra nn rk, .slice rb mm rk', .int .i64 ll]) (tkD c (p : Int))) := Fk.WOwn.mono (Fk.WOwn.out HO9.out o10 (.inr (by omega))) g8.size o10.size
      have HT : Hid _ := box3_one R10
      clear R10 R9 o10
      go_wp2_with fail
      try rw [hW10]
      obtain ⟨t0, t1, t2⟩ := HT.out
      exact bodyPost_ret (v := .tuple #[.agg #[.slice ra nn rk, .slice rb mm rk', .int .i64 ll], .bool true]) (by simp [results, Try.results8, go_sem, t0, t1, t2]) rfl ⟨hb10.out, _, by rw [HTk.out], HV10.out⟩
end Go.Proofs.Ytienhdlhlddemaa
