import Derived.Test.YtkkakidhdnfilaaV2
/- The specification: the leaf at a place of a picture. -/
namespace Go.Proofs.Ytkkakidhdnfilaa
open Go.ChangeShapes Go.WideShapes Go.ChangeAt Go.RowKit
set_option linter.unusedVariables false
open Hd

attribute [local go_sem] Oper.semAt_some

/-- How many places a picture has, less the step. -/
abbrev lv1 (c : Co) : Nat := c.lv.toNat - 1
/-- What LeafAt tells. -/
def lfB (c : Co) (x t : Int) : Bool := gI c && (inB c.rs.length x && inB (4 ^ lv1 c) t)
def lfS (c : Co) (x t : Int) : ByteArray := if lfB c x t = true then la c.cs (lv1 c) (gi c.rs x.toNat) t.toNat else ⟨#[]⟩
theorem lfB_parts {c : Co} {x t : Int} (h : lfB c x t = true) : gI c = true ∧ inB c.rs.length x = true ∧ inB (4 ^ lv1 c) t = true := by
  unfold lfB at h
  simp only [Bool.and_eq_true] at h
  exact h
theorem pow_lt (l : Nat) (h : l ≤ 2) : 4 ^ l ≤ 16 := by
  match l, h with
  | 0, _ => decide
  | 1, _ => decide
  | 2, _ => decide
set_option maxHeartbeats 4000000 in
theorem specLeafAt_yes (v : Value) (c : Co) (x y : Int) (w : World) (hc : CowAt w v c) (hf : FewW c) (hs : Sml c) (hg : gI c = true) (hx : inB c.rs.length x = true) (hy : inB (4 ^ lv1 c) y = true) :
    Calls Try.prog 20 #[v, .int .i64 x, .int .i64 y] w fun e w' => e = .returned (.tuple #[.string (la c.cs (lv1 c) (gi c.rs x.toNat) y.toNat), .bool true]) ∧ Below w.heap.size w w' := by
  obtain ⟨h1, h2⟩ : 0 ≤ x ∧ x < c.rs.length := by unfold inB at hx; simpa using hx
  obtain ⟨h3, h4⟩ : 0 ≤ y ∧ y < (4 ^ lv1 c : Nat) := by unfold inB at hy; simp only [Bool.and_eq_true, decide_eq_true_eq] at hy; exact hy
  obtain ⟨p, rfl⟩ : ∃ p : Nat, x = p := ⟨x.toNat, by omega⟩
  obtain ⟨q, rfl⟩ : ∃ q : Nat, y = q := ⟨y.toNat, by omega⟩
  rw [Int.toNat_natCast, Int.toNat_natCast]
  obtain ⟨hn, hm1, hm8, hl1, hl3⟩ := gI_few' hg
  obtain ⟨-, hok, hro, -⟩ := gI_parts hg
  have hpo := hro (gi c.rs p) (by rw [gi_eq (by omega)]; exact List.getElem_mem _)
  have hl : lv1 c ≤ 2 := by unfold lv1; omega
  have hlv : c.lv = (lv1 c : Int) + 1 := by unfold lv1; omega
  rw [show c.lv.toNat = lv1 c + 1 by unfold lv1; omega] at hpo
  have hpw := pow_lt _ hl
  have cL := fun W h => specLeaf_any hok v W (hc.below h) hn (lv1 c) hl hlv (gi c.rs p) hpo q (by omega)
  have cG := fun W h => specGood_any v c W (hc.below h) hf hs
  rw [hg] at cG
  have cI1 := fun W => l1In_yes (x := (p : Int)) (lo := 0) (hi := (c.rs.length : Int) - 1) (by omega) (by omega) W
  have cI2 := fun W => l1In_yes (x := (q : Int)) (lo := 0) (hi := ((4 ^ lv1 c : Nat) : Int) - 1) (by omega) (by omega) W
  have e1 : IntKind.i64.wrap (((4 ^ lv1 c : Nat) : Int) - 1) = ((4 ^ lv1 c : Nat) : Int) - 1 := wrapI (by omega) (by omega)
  obtain ⟨a, ca, a', ca', rfl, -, -, -, hR⟩ := hc
  have cP := fun W => places14_any a c.cs.length ca a' c.rs.length ca' (lv1 c) hl W
  rw [← hlv] at cP
  obtain ⟨rb, ro, rfl, hcc⟩ := hR (by omega)
  have cp0 : w.cell? ⟨rb, ro + p, none⟩ = some (.int .i64 (gi c.rs p)) := hcc p (by omega)
  clear hcc hR hpo hro hok hf hs hg hx hy hlv
  obtain ⟨X, hX⟩ : ∃ X, la c.cs (lv1 c) (gi c.rs p) q = X := ⟨_, rfl⟩
  rw [hX] at cL ⊢
  clear hX
  generalize gi c.rs p = RP at *
  generalize 4 ^ lv1 c = NN at *
  have HcL : Hid _ := cL
  clear cL
  unfold kv at *
  generalize c.cs.length = n at *
  generalize c.rs.length = m at *
  generalize c.lv = lv at *
  obtain ⟨W0, hW0⟩ : ∃ W0, w.alloc (.cells #[.slice a n ca, .slice (some ⟨rb, ro, none⟩) m ca', .int .i64 lv] 25) = W0 := ⟨_, rfl⟩
  have q0 : Below w.heap.size w W0 := by subst hW0; exact below_alloc _ _
  have H1 : Hid (W0.heap[w.heap.size]? = some (.cells #[.slice a n ca, .slice (some ⟨rb, ro, none⟩) m ca', .int .i64 lv] 25 (0, 0))) := by subst hW0; exact al1 _ _
  obtain ⟨i0, i1, i2⟩ := box3_one H1.out
  have hkp : (p : Int) < (m : Int) := by omega
  go_enter Try.func20, Try.ntmps20
  go_wp2_with fail
  refine (cG _ q0).mono ?_
  rintro e w1 ⟨rfl, b1⟩
  clear i0 i1 i2 hW0
  have g1 := Below.comp q0 b1
  obtain ⟨i0, i1, i2⟩ := box3_one (box_on H1.out b1)
  go_wp2_with fail
  refine (cI1 _).mono ?_
  rintro e w1' ⟨rfl, hw⟩
  have hw' := hw.symm
  subst hw'
  clear hw
  go_wp2_with fail
  refine (cP _).mono ?_
  rintro e w2 ⟨rfl, b2⟩
  clear i0 i1 i2
  have g2 := Below.comp g1 b2
  have H2 : Hid _ := box_on (box_on H1.out b1) b2
  obtain ⟨i0, i1, i2⟩ := box3_one H2.out
  go_wp2_with fail
  refine (cI2 _).mono ?_
  rintro e w1' ⟨rfl, hw⟩
  have hw' := hw.symm
  subst hw'
  clear hw
  have SB : Hid (∀ W, Below w2.heap.size w2 W → W.cell? ⟨w.heap.size, 0, none⟩ = some (.slice a n ca) ∧ W.cell? ⟨w.heap.size, 1, none⟩ = some (.slice (some ⟨rb, ro, none⟩) m ca') ∧ W.cell? ⟨w.heap.size, 2, none⟩ = some (.int .i64 lv) ∧ W.cell? ⟨rb, ro + p, none⟩ = some (.int .i64 RP) ∧ Below w2.heap.size w2 W) := fun W z => ⟨(box3_one (box_on H2.out z)).1, (box3_one (box_on H2.out z)).2.1, (box3_one (box_on H2.out z)).2.2, cell_on cp0 (Below.comp g2 z), z⟩
  clear i0 i1 i2
  have i0 := (SB.out w2 (Below.refl _ _)).1
  have i1 := (SB.out w2 (Below.refl _ _)).2.1
  have i2 := (SB.out w2 (Below.refl _ _)).2.2.1
  go_wp2_with fail
  go_region_held3 (fun W => W.cell? ⟨w.heap.size, 0, none⟩ = some (.slice a n ca) ∧ W.cell? ⟨w.heap.size, 1, none⟩ = some (.slice (some ⟨rb, ro, none⟩) m ca') ∧ W.cell? ⟨w.heap.size, 2, none⟩ = some (.int .i64 lv) ∧ W.cell? ⟨rb, ro + p, none⟩ = some (.int .i64 RP) ∧ Below w2.heap.size w2 W)
    ((refine SB.out _ ?_; first | assumption | exact Below.drew (Below.refl _ _)))
    (first
    | (go_at_call 50; obtain ⟨-, -, -, -, hw0⟩ := ‹_ ∧ _ ∧ _ ∧ _ ∧ Below w2.heap.size w2 _›; refine (HcL.out _ (Below.comp g2 hw0)).mono ?_; rintro e w3 ⟨rfl, b3⟩; have b4 := Below.comp hw0 b3))
  all_goals go_wp2
  all_goals go_ret2
  all_goals exact ⟨rfl, Below.comp g2 b4⟩
end Go.Proofs.Ytkkakidhdnfilaa
