import Derived.Test.YtmijalmihfgolaaDoorX4
/- All of the log done: the program. -/
namespace Go.Proofs.YtmijalmihfgolaaDoor
open Go.ChangeShapes Go.WideShapes Go.ChangeAt Go.RowKit
set_option linter.unusedVariables false
open Tx

attribute [local go_sem] Oper.semAt_some

theorem dn_size {L : List ByteArray} {P : List Wr} (h8 : ∀ i, i < L.length → (gt L i).size = 8) (hf : ∀ i, i < P.length → fitB L.length (Tl P i) (Ul P i) = true) : ∀ i, i < (dn L P).length → (gt (dn L P) i).size = 8 := fun i hi => by
  rw [dn_len] at hi
  rw [dn, ltS_at hi]
  exact doneS_size h8 hf P.length (Nat.le_refl _) i hi
theorem fits_of {n : Nat} {ws : List Wr} (h : ∀ x ∈ ws, fit n x = true) : ∀ i, i < ws.length → fitB n (Tl ws i) (Ul ws i) = true := fun i hi => by
  have := h (gw ws i) (by rw [gw_lt hi]; exact List.getElem_mem _)
  exact this
theorem wrs_fits {n : Nat} {G : List ByteArray} (h : G.all (okG n) = true) : ∀ i, i < (wrs G).length → fitB n (Tl (wrs G) i) (Ul (wrs G) i) = true := fits_of fun x hx => wrs_fit (List.all_eq_true.1 h) hx
theorem wrs_320 {n : Nat} {G : List ByteArray} (h : G.all (okG n) = true) (h40 : G.length ≤ 40) : (wrs G).length ≤ 320 := by
  have := wrs_le (n := n) (G := G) G.length (Nat.le_refl _) (fun i hi => List.all_eq_true.1 h _ (by rw [gt_lt hi]; exact List.getElem_mem _))
  rw [List.take_length] at this
  omega
theorem map_short {L : List ByteArray} {P : List Wr} {G : List ByteArray} {q : Int} (h : gdS L P G q = true) : Short (G.map rdL) := by
  obtain ⟨_, h2, _, _, h5, _⟩ := gd_parts h
  refine ⟨by rw [List.length_map]; exact h2, fun i hi => ?_⟩
  rw [List.length_map] at hi
  rw [gl_map hi]
  exact rd_8 (List.all_eq_true.1 h5 _ (by rw [gt_lt hi]; exact List.getElem_mem _))
theorem flat_map (G : List ByteArray) : (G.map rdL).flatten = wrs G := by rw [← flt_all, flt_map, List.length_map, List.take_length]

set_option maxRecDepth 20000 in
set_option maxHeartbeats 8000000 in
theorem redo_any (o B : Nat) (x y : Option Addr) (cx cy : Nat) (L : List ByteArray) (P : List Wr) (G : List ByteArray) (v : Value) (q : Int) (w : World) (hgd : gdS L P G q = true) (hB : B ≤ o) (hO : OB w o (.slice x L.length cx) (.slice y P.length cy) v q) (mx : MineT w B w.heap.size x L) (my : MineW w B w.heap.size y P) (hl : LogR w B B v (G.map rdL)) :
    Calls Tryd.prog 80 #[.pointer (some ⟨o, 0, none⟩)] w fun e w' => e = .returned (.tuple #[]) ∧ Out o (o + 1) w w' ∧ ∃ x' cx', OB w' o (.slice x' L.length cx') (.slice none 0 0) (.slice none 0 0) 0 ∧ MineT w' w.heap.size w'.heap.size x' (dn (dn L P) (wrs G)) := by
  obtain ⟨hD, h40, _, _, hall, _⟩ := gd_parts hgd
  obtain ⟨g1, g2, g3, g4, g5⟩ := gdD_parts hD
  have cF := flush_any o x y cx cy L P v q w hD hO mx.strs my.wrts
  obtain ⟨A, C, h1, _⟩ := id hl
  obtain ⟨xv, cv, hv⟩ := owns_form h1
  subst hv
  have hlt := box_lt hO
  have hsh := map_short hgd
  have h320 := wrs_320 hall h40
  have hwf := wrs_fits hall
  have h8 := dn_size g4 g5
  have Hwf : Hid _ := hwf
  have H8 : Hid _ := h8
  have Hsh : Hid _ := hsh
  have Hfl : Hid _ := flat_map G
  have Hdl : Hid _ := dn_len L P
  clear h1 hwf h8 hsh g4 g5
  go_enter Tryd.func80, Tryd.ntmps80
  go_wp2_with fail
  refine cF.mono ?_
  rintro e w1 ⟨rfl, o1, x1, cx1, y1, cy1, hO1, mx1⟩
  have hl1 : Hid _ := LogR.out hl o1 hB hO (by decide) (by decide)
  have M1 : Hid _ := mx1
  have HO1 : Hid _ := hO1
  have s1 := o1.size
  obtain ⟨c0, c1, c2, c3⟩ := box4_cells hO1
  rw [List.length_map] at c2
  clear cF
  go_wp2
  refine wp_region_noPanic ?_
  refine wp_region_L (fun W => W.cell? ⟨o, 0, none⟩ = some (.slice x1 L.length cx1) ∧ W.cell? ⟨o, 1, none⟩ = some (.slice y1 0 cy1) ∧ W.cell? ⟨o, 2, none⟩ = some (.slice xv G.length cv)) 15 16 (by kernel_rfl) rfl ⟨c0, c1, c2⟩ (fun hS0 => ?_)
  refine tkL (i := 0) (d := 6) (v := ?_) rfl rfl (by kernel_rfl) (by kernel_rfl) (by kernel_rfl) (by kernel_rfl) (fun _ _ _ h => h) (Or.inl ⟨by rfl, by intro wq hSq; obtain ⟨hq1, hq2, hq3⟩ := hSq; go_simp; try with_reducible rfl⟩) (by assumption) ?_
  simp only [List.setIfInBounds_toArray, List.set_cons_zero, List.set_cons_succ]
  refine tkL (i := 1) (d := 7) (v := ?_) rfl rfl (by kernel_rfl) (by kernel_rfl) (by kernel_rfl) (by kernel_rfl) (fun _ _ _ h => h) (Or.inl ⟨by rfl, by intro wq hSq; obtain ⟨hq1, hq2, hq3⟩ := hSq; go_simp; try with_reducible rfl⟩) (by assumption) ?_
  simp only [List.setIfInBounds_toArray, List.set_cons_zero, List.set_cons_succ]
  refine tkL (i := 2) (d := 8) (v := ?_) rfl rfl (by kernel_rfl) (by kernel_rfl) (by kernel_rfl) (by kernel_rfl) (fun _ _ _ h => h) (Or.inl ⟨by rfl, by intro wq hSq; obtain ⟨hq1, hq2, hq3⟩ := hSq; go_simp; try with_reducible rfl⟩) (by assumption) ?_
  simp only [List.setIfInBounds_toArray, List.set_cons_zero, List.set_cons_succ]
  refine tkL (i := 3) (d := 9) (v := ?_) rfl rfl (by kernel_rfl) (by kernel_rfl) (by kernel_rfl) (by kernel_rfl) (fun _ _ _ h => h) (Or.inl ⟨by rfl, by intro wq hSq; obtain ⟨hq1, hq2, hq3⟩ := hSq; go_simp; try with_reducible rfl⟩) (by assumption) ?_
  simp only [List.setIfInBounds_toArray, List.set_cons_zero, List.set_cons_succ]
  refine tkL (i := 4) (d := 10) (v := ?_) rfl rfl (by kernel_rfl) (by kernel_rfl) (by kernel_rfl) (by kernel_rfl) (fun _ _ _ h => h) (Or.inl ⟨by rfl, by intro wq hSq; obtain ⟨hq1, hq2, hq3⟩ := hSq; go_simp; try with_reducible rfl⟩) (by assumption) ?_
  simp only [List.setIfInBounds_toArray, List.set_cons_zero, List.set_cons_succ]
  refine tkL (i := 5) (d := 11) (v := ?_) rfl rfl (by kernel_rfl) (by kernel_rfl) (by kernel_rfl) (by kernel_rfl) (fun _ _ _ h => h) (Or.inl ⟨by rfl, by intro wq hSq; obtain ⟨hq1, hq2, hq3⟩ := hSq; go_simp; try with_reducible rfl⟩) (by assumption) ?_
  simp only [List.setIfInBounds_toArray, List.set_cons_zero, List.set_cons_succ]
  refine tkL (i := 6) (d := 12) (v := ?_) rfl rfl (by kernel_rfl) (by kernel_rfl) (by kernel_rfl) (by kernel_rfl) (fun _ _ _ h => h) (Or.inl ⟨by rfl, by intro wq hSq; obtain ⟨hq1, hq2, hq3⟩ := hSq; go_simp; try with_reducible rfl⟩) (by assumption) ?_
  simp only [List.setIfInBounds_toArray, List.set_cons_zero, List.set_cons_succ]
  refine tkL (i := 7) (d := 13) (v := ?_) rfl rfl (by kernel_rfl) (by kernel_rfl) (by kernel_rfl) (by kernel_rfl) (fun _ _ _ h => h) (Or.inl ⟨by rfl, by intro wq hSq; obtain ⟨hq1, hq2, hq3⟩ := hSq; go_simp; try with_reducible rfl⟩) (by assumption) ?_
  simp only [List.setIfInBounds_toArray, List.set_cons_zero, List.set_cons_succ]
  refine tkL (i := 8) (d := 14) (v := ?_) rfl rfl (by kernel_rfl) (by kernel_rfl) (by kernel_rfl) (by kernel_rfl) (fun _ _ _ h => h) (Or.inl ⟨by rfl, by intro wq hSq; obtain ⟨hq1, hq2, hq3⟩ := hSq; go_simp; try with_reducible rfl⟩) (by assumption) ?_
  simp only [List.setIfInBounds_toArray, List.set_cons_zero, List.set_cons_succ]
  refine tkL (i := 9) (d := 15) (v := ?_) rfl rfl (by kernel_rfl) (by kernel_rfl) (by kernel_rfl) (by kernel_rfl) (fun _ _ _ h => h) (Or.inl ⟨by rfl, by intro wq hSq; obtain ⟨hq1, hq2, hq3⟩ := hSq; go_simp; try with_reducible rfl⟩) (by assumption) ?_
  simp only [List.setIfInBounds_toArray, List.set_cons_zero, List.set_cons_succ]
  refine oneL (i := 10) rfl (by kernel_rfl) (fun K hK => ?_)
  go_simp
  have hla := LogAt.below (w := w1) (w' := w1.drew) (LogR.at hl1.out) (Below.drew (Below.refl _ _))
  rw [List.length_map] at hla
  refine (ConcatL_any _ _ _ Hsh.out hla).mono ?_
  rintro e w2 ⟨b2, v2, rfl, o2⟩
  rw [Hfl.out] at o2
  obtain ⟨x2, c2', e2, _, m2⟩ := OwnW.form o2
  subst e2
  have n0 := cell_on (w := w1.drew) c0 b2
  have n1 := cell_on (w := w1.drew) c1 b2
  have n2 := cell_on (w := w1.drew) c2 b2
  refine hK.out _ _ ⟨n0, n1, n2⟩ (fun hS1 => ?_)
  clear hK K
  refine oneL (i := 11) rfl (by kernel_rfl) (fun K hK => ?_)
  go_simp
  have b12 : Below w1.heap.size w1 w2 := Below.comp (Below.drew (Below.refl _ _)) b2
  have cS := settle_any x1 y1 x2 (dn L P).length (wrs G).length 0 cx1 cy1 c2' (gt (dn L P)) (Tl (wrs G)) (Ul (wrs G)) w2 (by rw [Hdl.out]; exact g1) (by rw [Hdl.out]; exact g2) (by omega) (Mine.strs (Mine.below M1.out b12)) m2.wrts H8.out (by rw [Hdl.out]; exact Hwf.out)
  rw [Hdl.out] at cS
  refine cS.mono ?_
  rintro e w3 ⟨b3, x3, cx3, rfl, m3⟩
  refine hK.out _ _ ⟨cell_on n0 b3, cell_on n1 b3, cell_on n2 b3⟩ (fun hS2 => ?_)
  clear hK K
  refine oneL (i := 12) rfl (by kernel_rfl) (fun K hK => ?_)
  go_simp
  refine hK.out _ _ hS2 (fun _ => ?_)
  clear hK K
  refine oneL (i := 13) rfl (by kernel_rfl) (fun K hK => ?_)
  go_simp
  refine hK.out _ _ hS2 (fun _ => ?_)
  clear hK K
  refine oneL (i := 14) rfl (by kernel_rfl) (fun K hK => ?_)
  go_simp
  refine hK.out _ _ hS2 (fun _ => ?_)
  clear hK K
  have hO3 : Hid (OB w3 o (.slice x1 L.length cx1) (.slice y1 0 cy1) (.slice xv (G.map rdL).length cv) q) := box_on HO1.out (Below.comp b12 b3)
  obtain ⟨e0, e1, e2, e3⟩ := box4_cells hO3.out
  obtain ⟨f0, f1, f2, f3⟩ := box4_free hO3.out
  refine lastL (last := 15) rfl (by kernel_rfl) (by kernel_rfl) (fun K hK => ?_)
  go_simp
  refine hK.out _ _ ?_
  clear hK K
  refine NoPanic.normal ?_
  have hO4 : Hid (OB ((w3.setCell ⟨o, 0, none⟩ (.slice x3 L.length cx3)).setCell ⟨o, 1, none⟩ (.slice none 0 0)) o (.slice x3 L.length cx3) (.slice none 0 0) (.slice xv (G.map rdL).length cv) q) := by rw [Hid, OB, block_setz (block_setz hO3.out)]; rfl
  have o4 : Out o (o + 1) w3 ((w3.setCell ⟨o, 0, none⟩ (.slice x3 L.length cx3)).setCell ⟨o, 1, none⟩ (.slice none 0 0)) := Out.setCell (out_setCell w3 _ 0 _) (Nat.le_refl _) (Nat.lt_succ_self _) 1 _
  generalize (w3.setCell ⟨o, 0, none⟩ (.slice x3 L.length cx3)).setCell ⟨o, 1, none⟩ (.slice none 0 0) = W4 at *
  clear e0 e1 e2 e3 f0 f1 f2 f3 c0 c1 c2 c3 n0 n1 n2 hS0 hS1 hS2
  obtain ⟨e0, e1, e2, e3⟩ := box4_cells hO4.out
  obtain ⟨f0, f1, f2, f3⟩ := box4_free hO4.out
  go_wp2
  go_end0
  have o5 := Out.setCell (out_setCell W4 o 2 (.slice none 0 0)) (Nat.le_refl _) (Nat.lt_succ_self _) 3 (.int .i64 0)
  have s3 := b3.size
  have s12 := b12.size
  have s4 := o4.size
  have s5 := o5.size
  refine ⟨rfl, ((o1.trans (Out.of_below (Below.comp b12 b3))).trans o4).trans o5, x3, cx3, ?_, ?_⟩
  · rw [OB, block_setz (block_setz hO4.out)]
    rfl
  · have m5 := mineT_of ((m3.out o4 (.inr (by omega))).out o5 (.inr (by omega)))
    have e : dn (dn L P) (wrs G) = ltS L.length (doneS (gt (dn L P)) (Tl (wrs G)) (Ul (wrs G)) (wrs G).length) := by rw [dn, Hdl.out]
    rw [e]
    exact m5.mono (by omega) (by omega)
end Go.Proofs.YtmijalmihfgolaaDoor
