import Derived.Test.YtkkakidhdnfilaaV7
/- The specification: the leaves of a picture. -/
namespace Go.Proofs.Ytkkakidhdnfilaa
open Go.ChangeShapes Go.WideShapes Go.ChangeAt Go.RowKit
set_option linter.unusedVariables false
open Hd

attribute [local go_sem] Oper.semAt_some

open Go in
theorem wp_append_src {P : Program} {w : World} {o : Oper} {a : Act} {K : Act → World → Prop} {Q : Exit → Act → World → Prop} (s x : Operand) (t : TypeId)
    (ho : o.op = .call { callee := .builtin .append, args := #[s, x], argTypes := #[t, t] })
    (base : Nat) (e : TypeId) (z : Value) (size bytes : Nat) (ht : P.underlying t = some (.slice e)) (hinfo : (P.info? e).map (fun i => (i.zero, i.size, i.bytes)) = some (some z, size, bytes)) (hzs : z.cells.size = size) (hsz : 0 < size)
    (v : Value) (n : Nat) (xs : List Value) (hs : a.eval s = v) (hown : w.ownsRow base e size v n xs)
    (sa : Option Addr) (m c : Nat) (news : List Value) (hx : a.eval x = .slice sa m c) (hl : news.length = m * size) (hsrc : m = 0 ∨ ∃ ad, sa = some ad ∧ ∀ j u, news[j]? = some u → w.cell? (ad.add j) = some u) (h1 : ∀ u ∈ news, u.oneCell' = true)
    (h63 : n + m ≤ 1000000000) (hbytes : bytes ≤ 100000) (hbase : base ≤ w.heap.size)
    (h : ∀ v' w', w'.ownsRow base e size v' (n + m) (xs ++ news) → w.grownBy w' v.ownBlock → K (a.put o.dst v') w') : Oper.wp P o a w K Q := by
  obtain ⟨i, hi, hz0, hz1, hz2⟩ := info_parts hinfo
  have hb2 : (n + m) * bytes ≤ 1000000000 * 100000 := Nat.mul_le_mul h63 hbytes
  obtain ⟨v', w', hrun, r1, r2⟩ := run_append_src (P := P) w base t o.type e i z size bytes ht hi hz0 hz1 hz2 hzs hsz v n xs hown sa m c news hl hsrc h1 (by unfold maxLen; omega) (by omega) hbase
  unfold Oper.wp
  simp [execOp, ho, resolve, invoke, builtin, hs, hx, hrun, Result.andThen]
  exact h v' w' r1 r2
theorem take_gs {l : List ByteArray} {j : Nat} (h : j < l.length) : l.take (j + 1) = l.take j ++ [gs l j] := by
  rw [List.take_succ_eq_append_getElem h, gs_eq h]
set_option maxHeartbeats 4000000 in
theorem specLeaves_yes (v : Value) (c : Co) (x : Int) (w : World) (hc : CowAt w v c) (hf : FewW c) (hs : Sml c) (hB : lvB c x = true) :
    Calls Try.prog 26 #[v, .int .i64 x] w fun e w' => Below w.heap.size w w' ∧ ∃ u, e = .returned (.tuple #[u, .bool true]) ∧ OwnS w' w.heap.size u (lvL c x) := by
  obtain ⟨hLn, hLt⟩ := lvL_len hB
  obtain ⟨hg, hx⟩ := lvB_parts hB
  obtain ⟨h1, h2⟩ : 0 ≤ x ∧ x < c.rs.length := by unfold inB at hx; simpa using hx
  obtain ⟨p, rfl⟩ : ∃ p : Nat, x = p := ⟨x.toNat, by omega⟩
  rw [Int.toNat_natCast] at hLt
  obtain ⟨hn, hm1, hm8, hl1, hl3⟩ := gI_few' hg
  obtain ⟨-, hok, hro, -⟩ := gI_parts hg
  have hpo := hro (gi c.rs p) (by rw [gi_eq (by omega)]; exact List.getElem_mem _)
  have hl : lv1 c ≤ 2 := by unfold lv1; omega
  have hlv : c.lv = (lv1 c : Int) + 1 := by unfold lv1; omega
  rw [show c.lv.toNat = lv1 c + 1 by unfold lv1; omega] at hpo
  have hpw := pow_lt _ hl
  have cL : ∀ W, Below w.heap.size w W → ∀ q : Nat, q < 4 ^ lv1 c → Calls Try.prog 50 #[v, .int .i64 (gi c.rs p), .int .i64 (q : Int)] W fun e w' => e = .returned (.string (gs (lvL c (p : Int)) q)) ∧ Below W.heap.size W w' := fun W h q hq => by
    rw [hLt q hq]
    exact specLeaf_any hok v W (hc.below h) hn (lv1 c) hl hlv (gi c.rs p) hpo q hq
  have cG := fun W h => specGood_any v c W (hc.below h) hf hs
  rw [hg] at cG
  have cI1 := fun W => l1In_yes (x := (p : Int)) (lo := 0) (hi := (c.rs.length : Int) - 1) (by omega) (by omega) W
  obtain ⟨a, ca, a', ca', rfl, -, -, -, hR⟩ := hc
  have cP := fun W => places14_any a c.cs.length ca a' c.rs.length ca' (lv1 c) hl W
  rw [← hlv] at cP
  obtain ⟨rb, ro, rfl, hcc⟩ := hR (by omega)
  have cp0 : w.cell? ⟨rb, ro + p, none⟩ = some (.int .i64 (gi c.rs p)) := hcc p (by omega)
  clear hcc hR hpo hro hok hf hs hg hx hlv hLt hB
  obtain ⟨F, hF⟩ : ∃ F, lvL c (p : Int) = F := ⟨_, rfl⟩
  rw [hF] at cL hLn ⊢
  clear hF
  generalize gi c.rs p = RP at *
  generalize 4 ^ lv1 c = N at *
  have HcL : Hid _ := cL
  clear cL
  unfold kv at *
  generalize c.cs.length = n at *
  generalize c.rs.length = m at *
  generalize c.lv = lv at *
  obtain ⟨W0, hW0⟩ : ∃ W0, w.alloc (.cells #[.slice a n ca, .slice (some ⟨rb, ro, none⟩) m ca', .int .i64 lv] 25) = W0 := ⟨_, rfl⟩
  have q0 : Below w.heap.size w W0 := by subst hW0; exact below_alloc _ _
  have H1 : Hid (W0.heap[w.heap.size]? = some (.cells #[.slice a n ca, .slice (some ⟨rb, ro, none⟩) m ca', .int .i64 lv] 25 (0, 0))) := by subst hW0; exact al1 _ _
  obtain ⟨i0, i1, i2⟩ := box3_one H1.out
  have hkp : (p : Int) < (m : Int) := by omega
  go_enter Try.func26, Try.ntmps26
  go_wp2_with fail
  refine (cG _ q0).mono ?_
  rintro e w1 ⟨rfl, b1⟩
  clear i0 i1 i2 hW0
  have g1 := Below.comp q0 b1
  have H2 : Hid _ := box_on H1.out b1
  obtain ⟨i0, i1, i2⟩ := box3_one H2.out
  go_wp2_with fail
  refine (cI1 _).mono ?_
  rintro e w1' ⟨rfl, hw⟩
  have hw' := hw.symm
  subst hw'
  clear hw
  go_wp2_with fail
  have SB : Hid (∀ W, Below w1.heap.size w1 W → W.cell? ⟨w.heap.size, 0, none⟩ = some (.slice a n ca) ∧ W.cell? ⟨w.heap.size, 1, none⟩ = some (.slice (some ⟨rb, ro, none⟩) m ca') ∧ W.cell? ⟨w.heap.size, 2, none⟩ = some (.int .i64 lv) ∧ W.cell? ⟨rb, ro + p, none⟩ = some (.int .i64 RP) ∧ Below w1.heap.size w1 W) := fun W z => ⟨(box3_one (box_on H2.out z)).1, (box3_one (box_on H2.out z)).2.1, (box3_one (box_on H2.out z)).2.2, cell_on cp0 (Below.comp g1 z), z⟩
  clear i0 i1 i2
  go_loopw [6, 7] (fun s6 s7 wr => ∃ j : Nat, j ≤ N ∧ s7 = .int .i64 j ∧ Hid (OwnS wr w1.heap.size s6 (F.take j)) ∧ Below w1.heap.size w1 wr) (fun _ s7 _ => N - (intOf s7).toNat)
  case atStart => exact ⟨0, by omega, rfl, OwnS.nil _ _, Below.refl _ _⟩
  case round =>
    obtain ⟨j, hj, rfl, HO, hb⟩ := hrel
    obtain ⟨y, yc, hy⟩ := owns_form HO.out
    subst hy
    have hM : (F.take j).length = j := by rw [List.length_take]; omega
    obtain ⟨i0, i1, i2, -, -⟩ := SB.out wr hb
    go_wp2_with fail
    refine (cP _).mono ?_
    rintro e w2 ⟨rfl, b2⟩
    have g2 := Below.comp hb b2
    clear i0 i1 i2
    by_cases hlt : j < N
    · have hlt' : (j : Int) < (N : Int) := by omega
      have cl := fun W h => HcL.out W h j hlt
      have HT : Hid (F.take (j + 1) = F.take j ++ [gs F j]) := take_gs (by omega)
      have own2 : Hid (OwnS w2 w1.heap.size (.slice y j yc) (F.take j)) := by have h6 := HO.out.below b2; rw [hM] at h6; exact h6
      rw [hM]
      generalize gs F j = z at *
      generalize F.take j = P at *
      have HM : Hid _ := hM
      obtain ⟨i0, i1, i2, -, -⟩ := SB.out w2 g2
      clear hM
      go_wp2_with fail
      refine wp_region_noPanic ?_
      refine wp_region_L (fun W => W.cell? ⟨w.heap.size, 0, none⟩ = some (.slice a n ca) ∧ W.cell? ⟨w.heap.size, 1, none⟩ = some (.slice (some ⟨rb, ro, none⟩) m ca') ∧ W.cell? ⟨w.heap.size, 2, none⟩ = some (.int .i64 lv) ∧ W.cell? ⟨rb, ro + p, none⟩ = some (.int .i64 RP) ∧ Below w1.heap.size w1 W) 11 12 (by kernel_rfl) rfl (SB.out _ (Below.drew g2)) (fun hS0 => ?_)
      refine tkL (i := 0) (d := 26) (v := ?_) rfl rfl (by kernel_rfl) (by kernel_rfl) (by kernel_rfl) (by kernel_rfl) (fun _ _ _ h => h) (Or.inl ⟨by rfl, by intro wq hSq; obtain ⟨hq1, hq2, hq3, hq4, hq5⟩ := hSq; go_simp; try with_reducible rfl⟩) (by assumption) ?_
      simp only [List.setIfInBounds_toArray, List.set_cons_zero, List.set_cons_succ]
      refine tkL (i := 1) (d := 27) (v := ?_) rfl rfl (by kernel_rfl) (by kernel_rfl) (by kernel_rfl) (by kernel_rfl) (fun _ _ _ h => h) (Or.inl ⟨by rfl, by intro wq hSq; obtain ⟨hq1, hq2, hq3, hq4, hq5⟩ := hSq; go_simp; try with_reducible rfl⟩) (by assumption) ?_
      simp only [List.setIfInBounds_toArray, List.set_cons_zero, List.set_cons_succ]
      refine tkL (i := 2) (d := 28) (v := ?_) rfl rfl (by kernel_rfl) (by kernel_rfl) (by kernel_rfl) (by kernel_rfl) (fun _ _ _ h => h) (Or.inl ⟨by rfl, by intro wq hSq; obtain ⟨hq1, hq2, hq3, hq4, hq5⟩ := hSq; go_simp; try with_reducible rfl⟩) (by assumption) ?_
      simp only [List.setIfInBounds_toArray, List.set_cons_zero, List.set_cons_succ]
      refine tkL (i := 3) (d := 29) (v := ?_) rfl rfl (by kernel_rfl) (by kernel_rfl) (by kernel_rfl) (by kernel_rfl) (fun _ _ _ h => h) (Or.inl ⟨by rfl, by intro wq hSq; obtain ⟨hq1, hq2, hq3, hq4, hq5⟩ := hSq; go_simp; try with_reducible rfl⟩) (by assumption) ?_
      simp only [List.setIfInBounds_toArray, List.set_cons_zero, List.set_cons_succ]
      refine tkL (i := 4) (d := 30) (v := ?_) rfl rfl (by kernel_rfl) (by kernel_rfl) (by kernel_rfl) (by kernel_rfl) (fun _ _ _ h => h) (Or.inl ⟨by rfl, by intro wq hSq; obtain ⟨hq1, hq2, hq3, hq4, hq5⟩ := hSq; go_simp; try with_reducible rfl⟩) (by assumption) ?_
      simp only [List.setIfInBounds_toArray, List.set_cons_zero, List.set_cons_succ]
      refine tkL (i := 5) (d := 31) (v := ?_) rfl rfl (by kernel_rfl) (by kernel_rfl) (by kernel_rfl) (by kernel_rfl) (fun _ _ _ h => h) (Or.inl ⟨by rfl, by intro wq hSq; obtain ⟨hq1, hq2, hq3, hq4, hq5⟩ := hSq; go_simp; try with_reducible rfl⟩) (by assumption) ?_
      simp only [List.setIfInBounds_toArray, List.set_cons_zero, List.set_cons_succ]
      refine tkL (i := 6) (d := 32) (v := ?_) rfl rfl (by kernel_rfl) (by kernel_rfl) (by kernel_rfl) (by kernel_rfl) (fun _ _ _ h => h) (Or.inl ⟨by rfl, by intro wq hSq; obtain ⟨hq1, hq2, hq3, hq4, hq5⟩ := hSq; go_simp; try with_reducible rfl⟩) (by assumption) ?_
      simp only [List.setIfInBounds_toArray, List.set_cons_zero, List.set_cons_succ]
      refine tkL (i := 7) (d := 33) (v := ?_) rfl rfl (by kernel_rfl) (by kernel_rfl) (by kernel_rfl) (by kernel_rfl) (fun _ _ _ h => h) (Or.inl ⟨by rfl, by intro wq hSq; obtain ⟨hq1, hq2, hq3, hq4, hq5⟩ := hSq; go_simp; try with_reducible rfl⟩) (by assumption) ?_
      simp only [List.setIfInBounds_toArray, List.set_cons_zero, List.set_cons_succ]
      refine oneL (i := 8) rfl (by kernel_rfl) (fun K hK => ?_)
      go_simp
      refine Calls.mono (cl _ (Below.comp g1 (Below.drew g2))) ?_
      rintro e w3 ⟨rfl, b3⟩
      have b23 : Below w2.heap.size w2 w3 := (Below.drew (Below.refl _ _)).trans b3
      have b4 := Below.comp g2 b23
      refine hK.out _ _ (SB.out _ b4) (fun hS1 => ?_)
      clear hK K
      obtain ⟨w4, hw4⟩ : ∃ w4, w3.alloc (.cells #[.string z] 9) = w4 := ⟨_, rfl⟩
      have b34 : Below w3.heap.size w3 w4 := by subst hw4; exact below_alloc _ _
      have sr4 : (1 : Nat) = 0 ∨ ∃ ad, some (⟨w3.heap.size, 0, none⟩ : Addr) = some ad ∧ ∀ j x, [Value.string z][j]? = some x → w4.cell? (ad.add j) = some x := by subst hw4; exact src_new w3 (.string z) 9
      refine oneL (i := 9) rfl (by kernel_rfl) (fun K hK => ?_)
      go_simp
      have b5 := Below.comp b4 b34
      refine hK.out _ _ (SB.out _ b5) (fun hS2 => ?_)
      clear hK K hw4
      have own4 : w4.ownsRow w1.heap.size 9 1 (.slice y j yc) j (css P) := by
        have h6 := owns_below own2.out (Below.comp b23 b34)
        rwa [HM.out] at h6
      refine oneL (i := 10) rfl (by kernel_rfl) (fun K hK => ?_)
      rw [if_pos (by rfl)]
      refine wp_append_src _ _ 43 rfl w1.heap.size 9 _ 1 16 Try.underlying43 info9 rfl (by decide) (.slice y j yc) j (css P) rfl own4 (some ⟨w3.heap.size, 0, none⟩) 1 1 [.string z] rfl rfl sr4 (by simp [Value.oneCell']) (by omega) (by decide) b5.size ?_
      intro v6 w6 own6 gr6
      have b6 : Below w1.heap.size w1 w6 := grown_on b5 b5.size own4 gr6
      refine hK.out _ _ (SB.out _ b6) (fun hS3 => ?_)
      clear hK K
      refine oneL (i := 11) rfl (by kernel_rfl) (fun K hK => ?_)
      go_simp
      refine hK.out _ _ (SB.out _ b6) (fun hS4 => ?_)
      clear hK K
      refine ⟨by kernel_rfl, NoPanic.normal ?_⟩
      have OW6 : Hid (OwnS w6 w1.heap.size v6 (P ++ [z])) := by
        show OwnS _ _ _ _
        unfold OwnS
        rw [List.length_append, css_app, HM.out]
        exact own6
      clear own6 gr6
      go_wp2
      go_roundw
      case rel => exact ⟨j + 1, by omega, by go_num, by rw [HT.out]; exact OW6.out, b6⟩
      case measure => simp [intOf]; omega
    · have hjN : j = N := by omega
      subst hjN
      have hfin : F.take j = F := List.take_of_length_le (by omega)
      go_wp2
      go_ret2
      refine ⟨Below.comp g1 g2, _, rfl, ?_⟩
      have h9 := owns_mono (HO.out.below b2) g1.size
      rw [hfin] at h9
      rw [hM] at *
      unfold OwnS
      rw [hLn]
      rw [hLn] at h9
      exact h9
end Go.Proofs.Ytkkakidhdnfilaa
