import Derived.Test.YtkkakidhdnfilaaM6
/- The program: how many cells two roots share. -/
namespace Go.Proofs.Ytkkakidhdnfilaa
open Go.ChangeShapes Go.WideShapes Go.ChangeAt Go.RowKit
set_option linter.unusedVariables false
open Hd

attribute [local go_sem] Oper.semAt_some

open Go in
section
variable {P : Program} {ops : Array Oper} {Q : Exit → Act → World → Prop} {md : Region.Mode} {S : World → Prop} {last : Nat}
/-- Any of those that may come up now. -/
theorem someL {fuel : Nat} {listed : Array Bool} {a : Act} {w : World} (l : List Nat) (hr : Region.ready md ops listed = l) (hne : l ≠ [])
    (h : ∀ i, i ∈ l → wpOp P ops Q i (fun a' w' => (i ≠ last → S w') ∧ wpAnyL P md ops Q S last fuel (listed.setIfInBounds i true) a' w') a w) : wpAnyL P md ops Q S last (fuel + 1) listed a w :=
  ⟨fun h0 => absurd (hr.symm.trans h0) hne, fun i hi => h i (hr ▸ hi)⟩
theorem stepL {i : Nat} {o : Oper} {fuel : Nat} {listed : Array Bool} {a : Act} {w : World} (ho : ops[i]? = some o)
    (h : ∀ K' : Act → World → Prop, Shut (∀ a w, S w → (S w → wpAnyL P md ops Q S last fuel (listed.setIfInBounds i true) a w) → K' a w) → if Region.wanted o (yielded ops a.tmps) = true then Oper.wp P o a w K' Q else K' (a.put o.dst undef) w) :
    wpOp P ops Q i (fun a' w' => (i ≠ last → S w') ∧ wpAnyL P md ops Q S last fuel (listed.setIfInBounds i true) a' w') a w :=
  wpOp_step ho (fun K' hK => h K' (fun a w hS hW => hK a w ⟨fun _ => hS, hW hS⟩))
end
theorem int_one {W : World} {A : Nat} {x : Int} (h : W.heap[A]? = some (.cells #[.int .i64 x] 3 (0, 0))) : Ints W (some ⟨A, 0, none⟩) [x] := fun _ => ⟨A, 0, rfl, fun i hi => by
  have : i = 0 := by simp at hi; omega
  subst this
  exact cell_of_block h rfl⟩
set_option maxHeartbeats 8000000 in
set_option maxRecDepth 20000 in
theorem implShared_yes (v : Value) (c : Co) (x y : Int) (w : World) (hc : CowAt w v c) (hf : FewW c) (hg : gI c = true) (hx : inB c.rs.length x = true) (hy : inB c.rs.length y = true) :
    Calls Try.prog 32 #[v, .int .i64 x, .int .i64 y] w fun e w' => e = .returned (.tuple #[.int .i64 ((sh (mk c.cs c.lv.toNat (zeb c.cs.length) (gi c.rs x.toNat)) (mk c.cs c.lv.toNat (zeb c.cs.length) (gi c.rs y.toNat)) c.cs.length : Nat) : Int), .bool true]) ∧ Below w.heap.size w w' := by
  have hall : (gI c && [x, y].all (inB c.rs.length)) = true := by simp [hg, hx, hy]
  obtain ⟨h1, h2⟩ : 0 ≤ x ∧ x < c.rs.length := by unfold inB at hx; simpa using hx
  obtain ⟨h3, h4⟩ : 0 ≤ y ∧ y < c.rs.length := by unfold inB at hy; simpa using hy
  obtain ⟨p, rfl⟩ : ∃ p : Nat, x = p := ⟨x.toNat, by omega⟩
  obtain ⟨q, rfl⟩ : ∃ q : Nat, y = q := ⟨y.toNat, by omega⟩
  rw [Int.toNat_natCast, Int.toNat_natCast]
  obtain ⟨hn, hm1, hm8, hl1, hl3⟩ := gI_few' hg
  obtain ⟨-, hok, hro, -⟩ := gI_parts hg
  have hpo := hro (gi c.rs p) (by rw [gi_eq (by omega)]; exact List.getElem_mem _)
  have hqo := hro (gi c.rs q) (by rw [gi_eq (by omega)]; exact List.getElem_mem _)
  have hM : ∀ z, isO c.cs c.lv.toNat z = true → ∀ j, gb' (mk c.cs c.lv.toNat (zeb c.cs.length) z) j = decide (0 < gi (Hd.mt c.cs c.lv.toNat (zer c.cs.length) z) j) := fun z hz j => by
    have := mk_mt c.cs c.lv.toNat (zeb c.cs.length) (zer c.cs.length) z hz (fun j => by rw [zeb_gb, zer_gi]; simp) (zer_nn _) (zeb_len _) (zer_len _) j
    rw [Bool.eq_iff_iff, decide_eq_true_eq]
    exact this
  have hMp := hM _ hpo
  have hMq := hM _ hqo
  have hMt := fun z (hz : isO c.cs c.lv.toNat z = true) v W (h : OpAt W v c.cs (c.cs.map (·.ct)) c.rs c.lv) b hK => metFrom_any hok hn v W h c.lv.toNat (by omega) [z] b 1 (by simp) (fun x hx => by simp at hx; rw [hx]; exact hz) hK
  have mA := hMt _ hpo
  have mB := hMt _ hqo
  simp only [List.foldl_cons, List.foldl_nil, List.length_cons, List.length_nil] at mA mB
  have HXl : Hid ((Hd.mt c.cs c.lv.toNat (zer c.cs.length) (gi c.rs p)).length = c.cs.length ∧ (Hd.mt c.cs c.lv.toNat (zer c.cs.length) (gi c.rs q)).length = c.cs.length) := ⟨by rw [mt_len, zer_len], by rw [mt_len, zer_len]⟩
  obtain ⟨a, ca, a', ca', rfl, hca, hca', hI, hR⟩ := hc
  have HcAt : Hid (∀ W, Below w.heap.size w W → CowAt W (kv a c.cs.length ca a' c.rs.length ca' c.lv) c) := fun W h => ⟨a, ca, a', ca', rfl, hca, hca', hI.below h, hR.below h⟩
  obtain ⟨W0, hW0⟩ : ∃ W0, (w.alloc (.cells #[.slice a c.cs.length ca, .slice a' c.rs.length ca', .int .i64 c.lv] 25)).alloc (.cells #[.int .i64 (p : Int), .int .i64 (q : Int)] 3) = W0 := ⟨_, rfl⟩
  have q0 : Below w.heap.size w W0 := by subst hW0; exact ba2 _ _ _
  obtain ⟨B1, B2⟩ : W0.heap[w.heap.size]? = some (.cells #[.slice a c.cs.length ca, .slice a' c.rs.length ca', .int .i64 c.lv] 25 (0, 0)) ∧ W0.heap[w.heap.size + 1]? = some (.cells #[.int .i64 (p : Int), .int .i64 (q : Int)] 3 (0, 0)) := by subst hW0; exact al2 _ _ _
  have hrq : Ints W0 (some ⟨w.heap.size + 1, 0, none⟩) [(p : Int), (q : Int)] := fun _ => ⟨w.heap.size + 1, 0, rfl, fun i hi => by
    have : i = 0 ∨ i = 1 := by simp at hi; omega
    rcases this with rfl | rfl
    · exact cell_of_block B2 rfl
    · exact cell_of_block B2 rfl⟩
  have hO := opened_any _ c [(p : Int), (q : Int)] (some ⟨w.heap.size + 1, 0, none⟩) 2 W0 (HcAt.out W0 q0) hf hrq (by simp)
  unfold OpenR at hO
  rw [hall] at hO
  simp only [List.length_cons, List.length_nil] at hO
  have HO : Hid _ := hO
  obtain ⟨i0, i1, i2⟩ := box3_one B1
  clear hI hR hf hall hM hMt hpo hqo hro hok hO hrq B1 B2 hca hca' hg hx hy HcAt
  have HMp : Hid _ := hMp
  have HMq : Hid _ := hMq
  obtain ⟨X, hX⟩ : ∃ X, Hd.mt c.cs c.lv.toNat (zer c.cs.length) (gi c.rs p) = X := ⟨_, rfl⟩
  obtain ⟨Y, hY⟩ : ∃ Y, Hd.mt c.cs c.lv.toNat (zer c.cs.length) (gi c.rs q) = Y := ⟨_, rfl⟩
  rw [hX] at mA HXl HMp
  rw [hY] at mB HXl HMq
  clear hX hY hMp hMq
  obtain ⟨MX, hMX⟩ : ∃ MX, mk c.cs c.lv.toNat (zeb c.cs.length) (gi c.rs p) = MX := ⟨_, rfl⟩
  obtain ⟨MY, hMY⟩ : ∃ MY, mk c.cs c.lv.toNat (zeb c.cs.length) (gi c.rs q) = MY := ⟨_, rfl⟩
  rw [hMX] at HMp ⊢
  rw [hMY] at HMq ⊢
  clear hMX hMY
  obtain ⟨RP, hRP⟩ : ∃ RP, gi c.rs p = RP := ⟨_, rfl⟩
  obtain ⟨RQ, hRQ⟩ : ∃ RQ, gi c.rs q = RQ := ⟨_, rfl⟩
  have HRPQ : Hid (gi c.rs p = RP ∧ gi c.rs q = RQ) := ⟨hRP, hRQ⟩
  rw [hRP] at mA
  rw [hRQ] at mB
  clear hRP hRQ
  have hkp : (p : Int) < (c.rs.length : Int) := by omega
  have hkq : (q : Int) < (c.rs.length : Int) := by omega
  unfold kv
  go_enter Try.func32, Try.ntmps32
  go_wp2_with fail
  refine Calls.mono HO.out ?_
  rintro e w1 ⟨b1, v1, rfl, -, -, hOwn⟩
  obtain ⟨pa, kp, pb, kq, gr, rfl, hkp1, hkq1, hgr, hRw, hW⟩ := hOwn (by trivial)
  clear i0 i1 i2 hW0
  obtain ⟨hCw, hIw⟩ := hW w1 (Out.refl _ _ _)
  have hOp : OpAt w1 (ov pa c.cs.length kp pb (c.cs.map (·.ct)).length kq (some ⟨gr, 0, none⟩) c.rs.length c.rs.length c.lv) c.cs (c.cs.map (·.ct)) c.rs c.lv :=
    ⟨pa, kp, pb, kq, _, _, rfl, hkp1, by rw [List.length_map]; exact hkq1, Nat.le_refl _, hCw, hIw, fun _ => ⟨gr, 0, rfl, fun i hi => by rw [Nat.zero_add]; exact (hRw.cell hi).1⟩⟩
  have cp0 : w1.cell? ⟨gr, p, none⟩ = some (.int .i64 RP) := by rw [← HRPQ.out.1]; exact (hRw.cell (by omega)).1
  have cq0 : w1.cell? ⟨gr, q, none⟩ = some (.int .i64 RQ) := by rw [← HRPQ.out.2]; exact (hRw.cell (by omega)).1
  rw [List.length_map] at hOp
  have HOp : Hid _ := hOp
  have g1 := Below.comp q0 b1
  clear hW hRw hCw hIw hOp hOwn
  unfold ov at *
  obtain ⟨W2, hW2⟩ : ∃ W2, w1.alloc (.cells #[.slice pa c.cs.length kp, .slice pb c.cs.length kq, .slice (some ⟨gr, 0, none⟩) c.rs.length c.rs.length, .int .i64 c.lv] 64) = W2 := ⟨_, rfl⟩
  have q2 : Below w1.heap.size w1 W2 := by subst hW2; exact below_alloc _ _
  have H2 : Hid (W2.heap[w1.heap.size]? = some (.cells #[.slice pa c.cs.length kp, .slice pb c.cs.length kq, .slice (some ⟨gr, 0, none⟩) c.rs.length c.rs.length, .int .i64 c.lv] 64 (0, 0))) := by subst hW2; exact al1 _ _
  have HMA : Hid (∀ W b, Below W2.heap.size W2 W → Ints W b [RP] → _) := fun W b h hK => mA _ W (OpAt.below HOp.out (Below.comp q2 h)) b hK
  have HMB : Hid (∀ W b, Below W2.heap.size W2 W → Ints W b [RQ] → _) := fun W b h hK => mB _ W (OpAt.below HOp.out (Below.comp q2 h)) b hK
  have SB : Hid (∀ W, Below W2.heap.size W2 W → W.cell? ⟨w1.heap.size, 0, none⟩ = some (.slice pa c.cs.length kp) ∧ W.cell? ⟨w1.heap.size, 1, none⟩ = some (.slice pb c.cs.length kq) ∧ W.cell? ⟨w1.heap.size, 2, none⟩ = some (.slice (some ⟨gr, 0, none⟩) c.rs.length c.rs.length) ∧ W.cell? ⟨w1.heap.size, 3, none⟩ = some (.int .i64 c.lv) ∧ W.cell? ⟨gr, p, none⟩ = some (.int .i64 RP) ∧ W.cell? ⟨gr, q, none⟩ = some (.int .i64 RQ)) := fun W h => by
    obtain ⟨⟨u0, u1, u2, u3⟩, -⟩ := box4_cells (box_on H2.out h)
    exact ⟨u0, u1, u2, u3, cell_on (cell_on cp0 q2) h, cell_on (cell_on cq0 q2) h⟩
  obtain ⟨j0, j1, j2, j3⟩ := (box4_cells H2.out).1
  clear mA mB cp0 cq0
  generalize hNN : c.cs.length = n at *
  have HNN : Hid _ := hNN
  clear hNN
  generalize c.rs.length = m at *
  generalize c.lv = lv at *
  go_wp2_with fail
  clear j0 j1 j2 j3 hW2
  go_cut [10, 11] (fun s10 s11 wx => ∃ gA gB, s10 = .slice (some ⟨gA, 0, none⟩) n n ∧ s11 = .slice (some ⟨gB, 0, none⟩) n n ∧ Row wx gA X ∧ Row wx gB Y ∧ Below W2.heap.size W2 wx)
  case first =>
    refine wp_region_L (fun W => Below W2.heap.size W2 W) 18 18 (by kernel_rfl) rfl (Below.drew (Below.refl _ _)) (fun hS0 => ?_)
    obtain ⟨W2d, hWd⟩ : ∃ Wd, W2.drew = Wd := ⟨_, rfl⟩
    rw [hWd] at hS0
    rw [hWd]
    have bW2d : Below W2.heap.size W2 W2d := hS0
    clear hWd
    refine tkL (i := 0) (d := 24) (v := ?_) rfl rfl (by kernel_rfl) (by kernel_rfl) (by kernel_rfl) (by kernel_rfl) (fun _ _ _ h => h) (Or.inl ⟨by rfl, by intro wq hSq; obtain ⟨hq0, hq1, hq2, hq3, hq4, hq5⟩ := SB.out wq hSq; go_simp; try with_reducible rfl⟩) (by assumption) ?_
    simp only [List.setIfInBounds_toArray, List.set_cons_zero, List.set_cons_succ]
    refine tkL (i := 1) (d := 25) (v := ?_) rfl rfl (by kernel_rfl) (by kernel_rfl) (by kernel_rfl) (by kernel_rfl) (fun _ _ _ h => h) (Or.inl ⟨by rfl, by intro wq hSq; obtain ⟨hq0, hq1, hq2, hq3, hq4, hq5⟩ := SB.out wq hSq; go_simp; try with_reducible rfl⟩) (by assumption) ?_
    simp only [List.setIfInBounds_toArray, List.set_cons_zero, List.set_cons_succ]
    refine tkL (i := 2) (d := 26) (v := ?_) rfl rfl (by kernel_rfl) (by kernel_rfl) (by kernel_rfl) (by kernel_rfl) (fun _ _ _ h => h) (Or.inl ⟨by rfl, by intro wq hSq; obtain ⟨hq0, hq1, hq2, hq3, hq4, hq5⟩ := SB.out wq hSq; go_simp; try with_reducible rfl⟩) (by assumption) ?_
    simp only [List.setIfInBounds_toArray, List.set_cons_zero, List.set_cons_succ]
    refine tkL (i := 3) (d := 27) (v := ?_) rfl rfl (by kernel_rfl) (by kernel_rfl) (by kernel_rfl) (by kernel_rfl) (fun _ _ _ h => h) (Or.inl ⟨by rfl, by intro wq hSq; obtain ⟨hq0, hq1, hq2, hq3, hq4, hq5⟩ := SB.out wq hSq; go_simp; try with_reducible rfl⟩) (by assumption) ?_
    simp only [List.setIfInBounds_toArray, List.set_cons_zero, List.set_cons_succ]
    refine tkL (i := 4) (d := 28) (v := ?_) rfl rfl (by kernel_rfl) (by kernel_rfl) (by kernel_rfl) (by kernel_rfl) (fun _ _ _ h => h) (Or.inl ⟨by rfl, by intro wq hSq; obtain ⟨hq0, hq1, hq2, hq3, hq4, hq5⟩ := SB.out wq hSq; go_simp; try with_reducible rfl⟩) (by assumption) ?_
    simp only [List.setIfInBounds_toArray, List.set_cons_zero, List.set_cons_succ]
    refine tkL (i := 5) (d := 29) (v := ?_) rfl rfl (by kernel_rfl) (by kernel_rfl) (by kernel_rfl) (by kernel_rfl) (fun _ _ _ h => h) (Or.inl ⟨by rfl, by intro wq hSq; obtain ⟨hq0, hq1, hq2, hq3, hq4, hq5⟩ := SB.out wq hSq; go_simp; try with_reducible rfl⟩) (by assumption) ?_
    simp only [List.setIfInBounds_toArray, List.set_cons_zero, List.set_cons_succ]
    refine tkL (i := 8) (d := 32) (v := ?_) rfl rfl (by kernel_rfl) (by kernel_rfl) (by kernel_rfl) (by kernel_rfl) (fun _ _ _ h => h) (Or.inl ⟨by rfl, by intro wq hSq; obtain ⟨hq0, hq1, hq2, hq3, hq4, hq5⟩ := SB.out wq hSq; go_simp; try with_reducible rfl⟩) (by assumption) ?_
    simp only [List.setIfInBounds_toArray, List.set_cons_zero, List.set_cons_succ]
    refine tkL (i := 9) (d := 33) (v := ?_) rfl rfl (by kernel_rfl) (by kernel_rfl) (by kernel_rfl) (by kernel_rfl) (fun _ _ _ h => h) (Or.inl ⟨by rfl, by intro wq hSq; obtain ⟨hq0, hq1, hq2, hq3, hq4, hq5⟩ := SB.out wq hSq; go_simp; try with_reducible rfl⟩) (by assumption) ?_
    simp only [List.setIfInBounds_toArray, List.set_cons_zero, List.set_cons_succ]
    refine tkL (i := 10) (d := 34) (v := ?_) rfl rfl (by kernel_rfl) (by kernel_rfl) (by kernel_rfl) (by kernel_rfl) (fun _ _ _ h => h) (Or.inl ⟨by rfl, by intro wq hSq; obtain ⟨hq0, hq1, hq2, hq3, hq4, hq5⟩ := SB.out wq hSq; go_simp; try with_reducible rfl⟩) (by assumption) ?_
    simp only [List.setIfInBounds_toArray, List.set_cons_zero, List.set_cons_succ]
    refine tkL (i := 11) (d := 35) (v := ?_) rfl rfl (by kernel_rfl) (by kernel_rfl) (by kernel_rfl) (by kernel_rfl) (fun _ _ _ h => h) (Or.inl ⟨by rfl, by intro wq hSq; obtain ⟨hq0, hq1, hq2, hq3, hq4, hq5⟩ := SB.out wq hSq; go_simp; try with_reducible rfl⟩) (by assumption) ?_
    simp only [List.setIfInBounds_toArray, List.set_cons_zero, List.set_cons_succ]
    refine tkL (i := 12) (d := 36) (v := ?_) rfl rfl (by kernel_rfl) (by kernel_rfl) (by kernel_rfl) (by kernel_rfl) (fun _ _ _ h => h) (Or.inl ⟨by rfl, by intro wq hSq; obtain ⟨hq0, hq1, hq2, hq3, hq4, hq5⟩ := SB.out wq hSq; go_simp; try with_reducible rfl⟩) (by assumption) ?_
    simp only [List.setIfInBounds_toArray, List.set_cons_zero, List.set_cons_succ]
    refine tkL (i := 13) (d := 37) (v := ?_) rfl rfl (by kernel_rfl) (by kernel_rfl) (by kernel_rfl) (by kernel_rfl) (fun _ _ _ h => h) (Or.inl ⟨by rfl, by intro wq hSq; obtain ⟨hq0, hq1, hq2, hq3, hq4, hq5⟩ := SB.out wq hSq; go_simp; try with_reducible rfl⟩) (by assumption) ?_
    simp only [List.setIfInBounds_toArray, List.set_cons_zero, List.set_cons_succ]
    refine someL [6, 14] (by kernel_rfl) (by simp) (fun iq hiq => ?_)
    simp only [List.mem_cons, List.not_mem_nil, or_false] at hiq
    rcases hiq with rfl | rfl
    · refine stepL (o := _) rfl (fun K hK => ?_)
      go_simp
      obtain ⟨wA, hwA⟩ : ∃ wz, World.alloc W2d (.cells #[.int .i64 RP] 3) = wz := ⟨_, rfl⟩
      have bwAs : Below (World.heap W2d).size W2d wA := by subst hwA; exact below_alloc _ _
      have pA : wA.heap[(World.heap W2d).size]? = some (.cells #[.int .i64 RP] 3 (0, 0)) := by subst hwA; exact al1 _ _
      have bwA := Below.comp bW2d bwAs
      first | rw [hwA] | skip
      refine hK.out _ _ bwA (fun hSwA => ?_)
      clear hK K hwA
      refine someL [7, 14] (by kernel_rfl) (by simp) (fun iq hiq => ?_)
      simp only [List.mem_cons, List.not_mem_nil, or_false] at hiq
      rcases hiq with rfl | rfl
      · refine stepL (o := _) rfl (fun K hK => ?_)
        go_simp
        refine Calls.mono (HMA.out wA (some ⟨(World.heap W2d).size, 0, none⟩) bwA (int_one (pA))) ?_
        rintro e wB ⟨bwBs, gX, rfl, -, -, rgX⟩
        have bwB := Below.comp bwA bwBs
        refine hK.out _ _ bwB (fun hSwB => ?_)
        clear hK K
        refine oneL (i := 14) rfl (by kernel_rfl) (fun K hK => ?_)
        go_simp
        obtain ⟨wC, hwC⟩ : ∃ wz, World.alloc wB (.cells #[.int .i64 RQ] 3) = wz := ⟨_, rfl⟩
        have bwCs : Below (World.heap wB).size wB wC := by subst hwC; exact below_alloc _ _
        have pB : wC.heap[(World.heap wB).size]? = some (.cells #[.int .i64 RQ] 3 (0, 0)) := by subst hwC; exact al1 _ _
        have bwC := Below.comp bwB bwCs
        first | rw [hwC] | skip
        refine hK.out _ _ bwC (fun hSwC => ?_)
        clear hK K hwC
        refine oneL (i := 15) rfl (by kernel_rfl) (fun K hK => ?_)
        go_simp
        refine Calls.mono (HMB.out wC (some ⟨(World.heap wB).size, 0, none⟩) bwC (int_one (pB))) ?_
        rintro e wD ⟨bwDs, gY, rfl, -, -, rgY⟩
        have bwD := Below.comp bwC bwDs
        refine hK.out _ _ bwD (fun hSwD => ?_)
        clear hK K
        refine tkL (i := 16) (d := 10) (v := ?_) rfl rfl (by kernel_rfl) (by kernel_rfl) (by kernel_rfl) (by kernel_rfl) (fun _ _ _ h => h) (Or.inl ⟨by rfl, by intro wq hSq; go_simp; try with_reducible rfl⟩) (by assumption) ?_
        simp only [List.setIfInBounds_toArray, List.set_cons_zero, List.set_cons_succ]
        refine oneL (i := 17) rfl (by kernel_rfl) (fun K hK => ?_)
        go_simp
        refine hK.out _ _ bwD (fun _ => ?_)
        clear hK K
        refine ⟨by kernel_rfl, ?_⟩
        (try refine NoPanic.normal ?_)
        go_wp2_with fail
        go_meet
        exact ⟨gX, gY, rfl, rfl, rgX.below (bwCs.trans (bwDs.mono bwCs.size)), rgY, bwD⟩
      · refine stepL (o := _) rfl (fun K hK => ?_)
        go_simp
        obtain ⟨wB, hwB⟩ : ∃ wz, World.alloc wA (.cells #[.int .i64 RQ] 3) = wz := ⟨_, rfl⟩
        have bwBs : Below (World.heap wA).size wA wB := by subst hwB; exact below_alloc _ _
        have pB : wB.heap[(World.heap wA).size]? = some (.cells #[.int .i64 RQ] 3 (0, 0)) := by subst hwB; exact al1 _ _
        have bwB := Below.comp bwA bwBs
        first | rw [hwB] | skip
        refine hK.out _ _ bwB (fun hSwB => ?_)
        clear hK K hwB
        refine oneL (i := 7) rfl (by kernel_rfl) (fun K hK => ?_)
        go_simp
        refine Calls.mono (HMA.out wB (some ⟨(World.heap W2d).size, 0, none⟩) bwB (int_one (box_on pA bwBs))) ?_
        rintro e wC ⟨bwCs, gX, rfl, -, -, rgX⟩
        have bwC := Below.comp bwB bwCs
        refine hK.out _ _ bwC (fun hSwC => ?_)
        clear hK K
        refine oneL (i := 15) rfl (by kernel_rfl) (fun K hK => ?_)
        go_simp
        refine Calls.mono (HMB.out wC (some ⟨(World.heap wA).size, 0, none⟩) bwC (int_one (box_on pB bwCs))) ?_
        rintro e wD ⟨bwDs, gY, rfl, -, -, rgY⟩
        have bwD := Below.comp bwC bwDs
        refine hK.out _ _ bwD (fun hSwD => ?_)
        clear hK K
        refine tkL (i := 16) (d := 10) (v := ?_) rfl rfl (by kernel_rfl) (by kernel_rfl) (by kernel_rfl) (by kernel_rfl) (fun _ _ _ h => h) (Or.inl ⟨by rfl, by intro wq hSq; go_simp; try with_reducible rfl⟩) (by assumption) ?_
        simp only [List.setIfInBounds_toArray, List.set_cons_zero, List.set_cons_succ]
        refine oneL (i := 17) rfl (by kernel_rfl) (fun K hK => ?_)
        go_simp
        refine hK.out _ _ bwD (fun _ => ?_)
        clear hK K
        refine ⟨by kernel_rfl, ?_⟩
        (try refine NoPanic.normal ?_)
        go_wp2_with fail
        go_meet
        exact ⟨gX, gY, rfl, rfl, rgX.below bwDs, rgY, bwD⟩
    · refine stepL (o := _) rfl (fun K hK => ?_)
      go_simp
      obtain ⟨wA, hwA⟩ : ∃ wz, World.alloc W2d (.cells #[.int .i64 RQ] 3) = wz := ⟨_, rfl⟩
      have bwAs : Below (World.heap W2d).size W2d wA := by subst hwA; exact below_alloc _ _
      have pB : wA.heap[(World.heap W2d).size]? = some (.cells #[.int .i64 RQ] 3 (0, 0)) := by subst hwA; exact al1 _ _
      have bwA := Below.comp bW2d bwAs
      first | rw [hwA] | skip
      refine hK.out _ _ bwA (fun hSwA => ?_)
      clear hK K hwA
      refine oneL (i := 6) rfl (by kernel_rfl) (fun K hK => ?_)
      go_simp
      obtain ⟨wB, hwB⟩ : ∃ wz, World.alloc wA (.cells #[.int .i64 RP] 3) = wz := ⟨_, rfl⟩
      have bwBs : Below (World.heap wA).size wA wB := by subst hwB; exact below_alloc _ _
      have pA : wB.heap[(World.heap wA).size]? = some (.cells #[.int .i64 RP] 3 (0, 0)) := by subst hwB; exact al1 _ _
      have bwB := Below.comp bwA bwBs
      first | rw [hwB] | skip
      refine hK.out _ _ bwB (fun hSwB => ?_)
      clear hK K hwB
      refine oneL (i := 7) rfl (by kernel_rfl) (fun K hK => ?_)
      go_simp
      refine Calls.mono (HMA.out wB (some ⟨(World.heap wA).size, 0, none⟩) bwB (int_one (pA))) ?_
      rintro e wC ⟨bwCs, gX, rfl, -, -, rgX⟩
      have bwC := Below.comp bwB bwCs
      refine hK.out _ _ bwC (fun hSwC => ?_)
      clear hK K
      refine oneL (i := 15) rfl (by kernel_rfl) (fun K hK => ?_)
      go_simp
      refine Calls.mono (HMB.out wC (some ⟨(World.heap W2d).size, 0, none⟩) bwC (int_one (box_on (box_on pB bwBs) bwCs))) ?_
      rintro e wD ⟨bwDs, gY, rfl, -, -, rgY⟩
      have bwD := Below.comp bwC bwDs
      refine hK.out _ _ bwD (fun hSwD => ?_)
      clear hK K
      refine tkL (i := 16) (d := 10) (v := ?_) rfl rfl (by kernel_rfl) (by kernel_rfl) (by kernel_rfl) (by kernel_rfl) (fun _ _ _ h => h) (Or.inl ⟨by rfl, by intro wq hSq; go_simp; try with_reducible rfl⟩) (by assumption) ?_
      simp only [List.setIfInBounds_toArray, List.set_cons_zero, List.set_cons_succ]
      refine oneL (i := 17) rfl (by kernel_rfl) (fun K hK => ?_)
      go_simp
      refine hK.out _ _ bwD (fun _ => ?_)
      clear hK K
      refine ⟨by kernel_rfl, ?_⟩
      (try refine NoPanic.normal ?_)
      go_wp2_with fail
      go_meet
      exact ⟨gX, gY, rfl, rfl, rgX.below bwDs, rgY, bwD⟩
  case rest =>
    obtain ⟨gA, gB, rfl, rfl, hRA, hRB, b3⟩ := hcut
    generalize wc = w3 at *
    obtain ⟨HRA, HRB⟩ : Hid (Row w3 gA X) ∧ Hid (Row w3 gB Y) := ⟨hRA, hRB⟩
    clear hRA hRB
    have g3 : Below w.heap.size w w3 := Below.comp (Below.comp g1 q2) b3
    obtain ⟨j0, j1, j2, j3⟩ := (box4_cells (box_on H2.out b3)).1
    go_wp2_with fail
    clear j0 j1 j2 j3
    go_loop [12, 43] (fun s12 s43 => ∃ j : Nat, j ≤ n ∧ s43 = .int .i64 j ∧ s12 = .int .i64 (sh MX MY j : Nat)) (fun _ s43 => n - (intOf s43).toNat)
    case atStart => exact ⟨0, Nat.zero_le _, rfl, rfl⟩
    case round =>
      obtain ⟨j, hj, rfl, rfl⟩ := hrel
      by_cases hlt : j < n
      · obtain ⟨r0, -⟩ := HRA.out.cell (i := j) (by rw [HXl.out.1]; exact hlt)
        obtain ⟨r1, -⟩ := HRB.out.cell (i := j) (by rw [HXl.out.2]; exact hlt)
        have hjn : (j : Int) < (n : Int) := by omega
        have hsh : Hid (sh MX MY (j + 1) = sh MX MY j + (if (gb' MX j && gb' MY j) = true then 1 else 0)) := rfl
        have hshl := sh_le MX MY j
        have d0 := (HMp.out j).symm
        have d1 := (HMq.out j).symm
        generalize sh MX MY j = U at *
        generalize gb' MX j = bx at *
        generalize gb' MY j = bY at *
        generalize gi X j = gx at *
        generalize gi Y j = gy at *
        cases bx with
        | false =>
          go_wp2_with fail
          go_round
          case rel => exact ⟨j + 1, by omega, by go_num, by rw [hsh.out]; rfl⟩
          case measure => simp [intOf]; omega
        | true =>
          cases bY with
          | false =>
            go_wp2_with fail
            go_round
            case rel => exact ⟨j + 1, by omega, by go_num, by rw [hsh.out]; rfl⟩
            case measure => simp [intOf]; omega
          | true =>
            go_wp2_with fail
            go_round
            case rel => exact ⟨j + 1, by omega, by go_num, by rw [hsh.out]; simp⟩
            case measure => simp [intOf]; omega
      · have hjn : j = n := by omega
        subst hjn
        go_wp2
        go_ret2
        exact ⟨by rw [HNN.out]; rfl, g3⟩
end Go.Proofs.Ytkkakidhdnfilaa
