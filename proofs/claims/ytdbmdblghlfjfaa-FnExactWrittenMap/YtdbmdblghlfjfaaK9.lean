import Derived.Test.YtdbmdblghlfjfaaL3
import Derived.Test.YtdbmdblghlfjfaaN3
/- The law of WrittenMap. -/
namespace Go.Proofs.Ytdbmdblghlfjfaa
open Go.ChangeShapes Go.WideShapes Go.ChangeAt Go.RowKit
set_option linter.unusedVariables false
open Mp

attribute [local go_sem] Oper.semAt_some

set_option maxRecDepth 20000 in
set_option maxHeartbeats 8000000 in
theorem lawWritten (a : Option Addr) (c : Nat) (l : List Pc) (f d : Int) (w : World) (hn : l.length ≤ 9223372036854775807) (hf : ∀ p, p ∈ l → Few p) (ha : Pcs w a l) (h1 : i64 f) (h2 : i64 d) :
    Calls Try.prog 7 #[mv a l.length c, .int .i64 f, .int .i64 d] w fun e w' => e = .returned (.bool true) ∧ Below w.heap.size w w' := by
  obtain ⟨G, hG⟩ := tel_ex (GM l)
  have HP : Hid (l.length ≤ 1048576 → ∀ W x, RowP W x l.length (gp l) → Calls Try.prog 29 #[mv x l.length l.length, .int .i64 f, .int .i64 d] W fun e w' => Below W.heap.size W w' ∧ Mpa w' W.heap.size e (wmR G l f d) (wmO G l f d)) := fun hs W x h => specWritten_any x l.length l f d G hG W hs (Nat.le_refl _) h1 h
  have HI : Hid (l.length ≤ 1048576 → ∀ W x, RowP W x l.length (gp l) → Calls Try.prog 30 #[mv x l.length l.length, .int .i64 f, .int .i64 d] W fun e w' => Below W.heap.size W w' ∧ Mpa w' W.heap.size e (wmR G l f d) (wmO G l f d)) := fun hs W x h => implWritten_any x l.length l f d G hG W hs (Nat.le_refl _) hf h1 h
  have hm40 : (wmR G l f d).length ≤ 40 := len_wmR
  have HR : Hid (RowP w a l.length (gp l)) := ha
  clear ha hf hG h1 h2
  generalize wmR G l f d = LM at *
  generalize wmO G l f d = O at *
  generalize gp l = g at *
  generalize l.length = n at *
  have hOO : (O != O) = false := by cases O <;> rfl
  have cE := fun W x cx y cy h1 h2 => eqMap_same x y LM.length cx cy (gp LM) W (by omega) h1 h2
  obtain ⟨D, hD⟩ : ∃ D, w.heap.size = D := ⟨_, rfl⟩
  obtain ⟨W0, hW0⟩ : ∃ W0, w.alloc (.cells #[.slice a n c] 24) = W0 := ⟨_, rfl⟩
  have g0 : Below w.heap.size w W0 := by subst hW0; exact below_alloc _ _
  have HB : Hid (W0.heap[D]? = some (.cells #[.slice a n c] 24 (0, 0))) := by subst hW0 hD; exact al1 _ _
  have i0 := (box1_cells HB.out).1
  have cS := szMap_any a n c W0 hn
  go_enter Try.func7, Try.ntmps7
  go_wp2_with fail
  refine cS.mono ?_
  rintro e w1 ⟨b1, q, rfl, hq⟩
  clear cS hW0 i0
  have g1 := Below.comp g0 b1
  have B1 : Hid (w1.heap[D]? = _) := box_on HB.out b1
  have i0 := (box1_cells B1.out).1
  by_cases hq0 : q < 0
  · go_wp2_with fail
    go_ret
    exact ⟨rfl, by first | exact g1 | exact (hD ▸ g1)⟩
  have hl : n ≤ 1048576 := hq.resolve_left hq0
  have cT := fun W h => toMap_any a n c g W hl h
  have cP := HP.out hl
  have cI := HI.out hl
  clear HP HI hq
  go_wp2_with fail
  refine (cT _ (RowP.below HR.out g1)).mono ?_
  rintro e w2 ⟨b2, x, rfl, m1⟩
  have g2 := Below.comp g1 b2
  clear i0
  go_wp2_with fail
  refine (cP _ x (MineP.row m1)).mono ?_
  rintro e w3 ⟨b3, xs, cs, rfl, -, ms⟩
  have g3 := Below.comp g2 b3
  clear m1 cP
  have B3 : Hid (w3.heap[D]? = _) := box_on B1.out (Below.comp b2 b3)
  obtain ⟨V3, hV3⟩ : ∃ V3, w3.alloc (.cells #[.slice xs LM.length cs] 29) = V3 := ⟨_, rfl⟩
  have b3' : Below w3.heap.size w3 V3 := by subst hV3; exact below_alloc _ _
  have z3' : V3.heap.size = w3.heap.size + 1 := by subst hV3; simp
  obtain ⟨Ew, hEw⟩ : ∃ Ew, w3.heap.size = Ew := ⟨_, rfl⟩
  have HEw : Hid (V3.heap[Ew]? = some (.cells #[.slice xs LM.length cs] 29 (0, 0))) := by subst hV3 hEw; exact al1 _ _
  have i0 := (box1_cells (box_on B3.out b3')).1
  have g3' := Below.comp g3 b3'
  have HZ3 : Hid (V3.heap.size = w3.heap.size + 1 ∧ w3.heap.size = Ew) := ⟨z3', hEw⟩
  clear z3'
  go_wp2_with fail
  refine (cT _ (RowP.below HR.out g3')).mono ?_
  rintro e w4 ⟨b4, y, rfl, my⟩
  clear i0 hV3
  have g4 := Below.comp g3' b4
  obtain ⟨E, hE⟩ : ∃ E, w4.heap.size = E := ⟨_, rfl⟩
  obtain ⟨W4, hW4⟩ : ∃ W4, w4.alloc (.cells #[.slice y n n] 29) = W4 := ⟨_, rfl⟩
  have b5 : Below w4.heap.size w4 W4 := by subst hW4; exact below_alloc _ _
  have HE : Hid (W4.heap[E]? = some (.cells #[.slice y n n] 29 (0, 0))) := by subst hW4 hE; exact al1 _ _
  have j0 := (box1_cells HE.out).1
  have HZ4 : Hid (W4.heap.size = w4.heap.size + 1 ∧ w4.heap.size = E) := ⟨by subst hW4; simp, hE⟩
  go_wp2_with fail
  refine (cI _ y (MineP.row (my.below b5))).mono ?_
  rintro e w6 ⟨b6, xg, cg, rfl, -, mg⟩
  clear hW4 j0
  obtain ⟨Eg, hEg⟩ : ∃ Eg, w6.heap.size = Eg := ⟨_, rfl⟩
  obtain ⟨W6, hW6⟩ : ∃ W6, w6.alloc (.cells #[.slice xg LM.length cg] 29) = W6 := ⟨_, rfl⟩
  have b6' : Below w6.heap.size w6 W6 := by subst hW6; exact below_alloc _ _
  have HEg : Hid (W6.heap[Eg]? = some (.cells #[.slice xg LM.length cg] 29 (0, 0))) := by subst hW6 hEg; exact al1 _ _
  have HZ6 : Hid (W6.heap.size = w6.heap.size + 1 ∧ w6.heap.size = Eg) := ⟨by subst hW6; simp, hEg⟩
  have b46 : Below w4.heap.size w4 W6 := Below.comp (Below.comp b5 b6) b6'
  have b36 : Below V3.heap.size V3 W6 := Below.comp b4 b46
  have g6 := Below.comp g3' b36
  have HD6 : Hid (W6.heap[D]? = _) := box_on (box_on B3.out b3') b36
  have HEw6 : Hid (W6.heap[Ew]? = _) := box_on HEw.out b36
  have HE6 : Hid (W6.heap[E]? = _) := box_on HE.out (Below.comp b6 b6')
  have Ms6 : Hid (MineP W6 w2.heap.size w3.heap.size xs LM.length (gp LM)) := Mine.below (Mine.below ms b3') b36
  have My6 : Hid (MineP W6 V3.heap.size w4.heap.size y n g) := Mine.below my b46
  have Mg6 : Hid (MineP W6 W4.heap.size w6.heap.size xg LM.length (gp LM)) := Mine.below mg b6'
  have hz : Hid (w.heap.size ≤ w2.heap.size ∧ D < w2.heap.size ∧ w2.heap.size ≤ w3.heap.size ∧ V3.heap.size ≤ w4.heap.size ∧ W4.heap.size ≤ w6.heap.size) := ⟨g2.size, by have := box_lt B1.out; have := b2.size; omega, b3.size, b4.size, b6.size⟩
  clear ms my mg hEw hE HEw HE
  obtain ⟨k0, -⟩ := box1_cells HEg.out
  obtain ⟨k1, -⟩ := box1_cells HEw6.out
  go_wp2_with fail
  refine (cE _ xg cg xs cs (MineP.row Mg6.out) (MineP.row Ms6.out)).mono ?_
  rintro e w8 ⟨rfl, b68⟩
  clear k0 k1 hW6 hEg
  have SB : Hid (∀ W, Below w8.heap.size w8 W → W.cell? ⟨D, 0, none⟩ = some (.slice a n c) ∧ W.cell? ⟨E, 0, none⟩ = some (.slice y n n) ∧ Below w8.heap.size w8 W) := fun W z => ⟨(box1_cells (box_on HD6.out (Below.comp b68 z))).1, (box1_cells (box_on HE6.out (Below.comp b68 z))).1, z⟩
  go_wp2_with fail
  go_region_held3 (fun W => W.cell? ⟨D, 0, none⟩ = some (.slice a n c) ∧ W.cell? ⟨E, 0, none⟩ = some (.slice y n n) ∧ Below w8.heap.size w8 W)
    ((refine SB.out _ ?_; first | assumption | exact Below.drew (Below.refl _ _)))
    (first
    | (go_at_call 14; obtain ⟨-, -, hw0⟩ := ‹_ ∧ _ ∧ Below w8.heap.size w8 _›; refine (cT _ (RowP.below HR.out (Below.comp (Below.comp g6 b68) hw0))).mono ?_; rintro e w9 ⟨b9, z, rfl, m7⟩; have b89 := Below.comp hw0 b9; clear hw0)
    | (go_at_call 16; refine (eqMap_same _ _ n _ _ g _ (by omega) (MineP.row (Mine.below My6.out (Below.comp b68 b89))) (MineP.row m7)).mono ?_; rintro e w10 ⟨rfl, b10⟩; have b810 := Below.comp b89 b10))
  clear m7 SB
  have b610 : Below W6.heap.size W6 w10 := Below.comp b68 (by assumption)
  have j0 := (box1_cells (box_on HE6.out b610)).1
  have c22 := markMap_any V3.heap.size w4.heap.size y n n g 1 w10 (by omega) (Mine.below My6.out b610)
  obtain ⟨K1, hK1⟩ : ∃ K : Int, ((1 + n * 4 : Nat) : Int) = K := ⟨_, rfl⟩
  have hK1' : ¬ K1 < 0 := by omega
  rw [hK1] at c22
  have HK1 : Hid _ := hK1
  clear hK1
  go_wp2_with fail
  refine c22.mono ?_
  rintro e w11 ⟨rfl, o11, -⟩
  clear c22 j0
  have HZ : Hid (W6.heap.size ≤ w10.heap.size ∧ w10.heap.size ≤ w11.heap.size) := ⟨b610.size, o11.size⟩
  have Q11 : Hid ((w11.heap[D]? = some (.cells #[.slice a n c] 24 (0, 0)) ∧ w11.heap[Ew]? = some (.cells #[.slice xs LM.length cs] 29 (0, 0)) ∧ w11.heap[Eg]? = some (.cells #[.slice xg LM.length cg] 29 (0, 0))) ∧ MineP w11 w2.heap.size w3.heap.size xs LM.length (gp LM) ∧ MineP w11 W4.heap.size w6.heap.size xg LM.length (gp LM)) := by
    have h1 := hz.out; have h2 := HZ3.out; have h3 := HZ4.out; have h4 := HZ6.out
    exact ⟨⟨box_out (box_on HD6.out b610) o11 (by omega), box_out (box_on HEw6.out b610) o11 (by omega), box_out (box_on HEg.out b610) o11 (by omega)⟩, Mine.out (Mine.below Ms6.out b610) o11 (by omega), Mine.out (Mine.below Mg6.out b610) o11 (by omega)⟩
  have g11 : Below w.heap.size w w11 := by
    have h1 := hz.out; have h2 := HZ3.out; have h4 := HZ6.out; have h5 := HZ.out; have h3 := HZ4.out
    exact (Below.comp g6 b610).trans ((o11.below (by omega)).mono (by omega))
  clear HD6 HEw6 HE6 HEg Ms6 My6 Mg6
  obtain ⟨k0, -⟩ := box1_cells Q11.out.1.2.2
  obtain ⟨k1, -⟩ := box1_cells Q11.out.1.2.1
  go_wp2_with fail
  refine (cE _ xg cg xs cs (MineP.row Q11.out.2.2) (MineP.row Q11.out.2.1)).mono ?_
  rintro e w13 ⟨rfl, b1113⟩
  clear k0 k1
  have k0 := (box1_cells (box_on Q11.out.1.2.2 b1113)).1
  have c22 := markMap_any W4.heap.size w6.heap.size xg LM.length cg (gp LM) 1 w13 (by omega) (Mine.below Q11.out.2.2 b1113)
  have c23 := fun W h => heldMap_any xg LM.length cg 1 W (by omega) h
  obtain ⟨K2, hK2⟩ : ∃ K : Int, ((1 + LM.length * 4 : Nat) : Int) = K := ⟨_, rfl⟩
  have hK2' : ¬ K2 < 0 := by omega
  rw [hK2] at c22 c23
  clear hK2
  go_wp2_with fail
  refine c22.mono ?_
  rintro e w15 ⟨rfl, o15, mg15⟩
  clear c22 k0
  have Q15 : Hid ((w15.heap[D]? = some (.cells #[.slice a n c] 24 (0, 0)) ∧ w15.heap[Ew]? = some (.cells #[.slice xs LM.length cs] 29 (0, 0)) ∧ w15.heap[Eg]? = some (.cells #[.slice xg LM.length cg] 29 (0, 0))) ∧ MineP w15 w2.heap.size w3.heap.size xs LM.length (gp LM) ∧ MineP w15 W4.heap.size w6.heap.size xg LM.length (mkp 1)) := by
    have h1 := hz.out; have h2 := HZ3.out; have h3 := HZ4.out; have h4 := HZ6.out
    exact ⟨⟨box_out (box_on Q11.out.1.1 b1113) o15 (by omega), box_out (box_on Q11.out.1.2.1 b1113) o15 (by omega), box_out (box_on Q11.out.1.2.2 b1113) o15 (by omega)⟩, Mine.out (Mine.below Q11.out.2.1 b1113) o15 (by omega), mg15⟩
  have g15 : Below w.heap.size w w15 := by
    have h1 := hz.out; have h2 := HZ3.out; have h3 := HZ4.out; have h4 := HZ6.out; have h5 := HZ.out
    have h6 := b1113.size
    exact (Below.comp g11 b1113).trans ((o15.below (by omega)).mono (by omega))
  clear mg15
  have k0 := (box1_cells Q15.out.1.2.2).1
  go_wp2_with fail
  refine (c23 _ (MineP.row Q15.out.2.2)).mono ?_
  rintro e w16 ⟨rfl, b16⟩
  clear k0
  have i0 := (box1_cells (box_on Q15.out.1.1 b16)).1
  have g16 := Below.comp g15 b16
  go_wp2_with fail
  refine (cT _ (RowP.below HR.out g16)).mono ?_
  rintro e w17 ⟨b17, t, rfl, mt⟩
  clear i0
  go_wp2_with fail
  refine (cI _ t (MineP.row mt)).mono ?_
  rintro e w18 ⟨b18, xh, ch, rfl, -, mh⟩
  obtain ⟨W18, hW18⟩ : ∃ W18, w18.alloc (.cells #[.slice xh LM.length ch] 29) = W18 := ⟨_, rfl⟩
  have b18' : Below w18.heap.size w18 W18 := by subst hW18; exact below_alloc _ _
  obtain ⟨Eh, hEh⟩ : ∃ Eh, w18.heap.size = Eh := ⟨_, rfl⟩
  have HEh : W18.heap[Eh]? = some (.cells #[.slice xh LM.length ch] 29 (0, 0)) := by subst hW18 hEh; exact al1 _ _
  have b1518 : Below w15.heap.size w15 W18 := Below.comp b16 (Below.comp (Below.comp b17 b18) b18')
  obtain ⟨k0, -⟩ := box1_cells HEh
  have k1 := (box1_cells (box_on Q15.out.1.2.1 b1518)).1
  have Hmh : Hid (MineP W18 w17.heap.size w18.heap.size xh LM.length (gp LM)) := Mine.below mh b18'
  clear mh mt HEh
  go_wp2_with fail
  refine (cE _ xh ch xs cs (MineP.row Hmh.out) (MineP.row (Mine.below Q15.out.2.1 b1518))).mono ?_
  rintro e w20 ⟨rfl, b20⟩
  clear k0 k1 hW18
  have b1520 := Below.comp b1518 b20
  have k0 := (box1_cells (box_on Q15.out.1.2.2 b1520)).1
  go_wp2_with fail
  refine (c23 _ (MineP.row (Mine.below Q15.out.2.2 b1520))).mono ?_
  rintro e w21 ⟨rfl, b21⟩
  clear k0
  have b1521 := Below.comp b1520 b21
  go_wp2_with fail
  go_ret
  exact ⟨rfl, by first | exact Below.comp g15 b1521 | exact (hD ▸ Below.comp g15 b1521)⟩
end Go.Proofs.Ytdbmdblghlfjfaa
