import Derived.Test.YtdbmdblghlfjfaaL3
import Derived.Test.YtdbmdblghlfjfaaV4
import Derived.Deep.DeepCutAuto
/- The law of MapPiece. -/
namespace Go.Proofs.Ytdbmdblghlfjfaa
open Go.ChangeShapes Go.WideShapes Go.ChangeAt Go.RowKit
set_option linter.unusedVariables false
open Mp

attribute [local go_sem] Oper.semAt_some

/-- A box that holds a map whose row was made between two marks. -/
def Boxm (w : World) (B C b : Nat) (LM : List Pc) : Prop := ∃ x c, w.heap[b]? = some (.cells #[.slice x LM.length c] 29 (0, 0)) ∧ MineP w B C x LM.length (gp LM)
theorem boxm_alloc {w : World} {B : Nat} {x : Option Addr} {c : Nat} {LM : List Pc} (h : MineP w B w.heap.size x LM.length (gp LM)) : Boxm (w.alloc (.cells #[.slice x LM.length c] 29)) B w.heap.size w.heap.size LM :=
  ⟨x, c, al1 _ _, Mine.below h (below_alloc _ _)⟩
theorem boxm_store {w : World} {B C b : Nat} {x : Option Addr} {c : Nat} {LM : List Pc} {v : Value} (h : MineP w B C x LM.length (gp LM)) (hb : w.heap[b]? = some (.cells #[v] 29 (0, 0))) (hd : b < B) : Boxm (w.setCell ⟨b, 0, none⟩ (.slice x LM.length c)) B C b LM :=
  ⟨x, c, (block_set hb).trans rfl, Mine.out h (out_setCell _ _ _ _) (by omega)⟩

set_option maxRecDepth 20000 in
set_option maxHeartbeats 8000000 in
theorem lawMapPiece (a : Option Addr) (c : Nat) (l : List Pc) (p : Pc) (w : World) (hn : l.length ≤ 9223372036854775807) (hf : ∀ p, p ∈ l → Few p) (ha : Pcs w a l) (hfp : Few p) :
    Calls Try.prog 5 #[mv a l.length c, pv p] w fun e w' => e = .returned (.bool true) ∧ Below w.heap.size w w' := by
  obtain ⟨G, hG⟩ := tel_ex (GM l)
  obtain ⟨M, hM⟩ := tel_ex (∀ q, q ∈ l → mts p q = false)
  have HP : Hid (l.length ≤ 1048576 → ∀ W x, RowP W x l.length (gp l) → Calls Try.prog 19 #[mv x l.length l.length, pv p] W fun e w' => Below W.heap.size W w' ∧ Mpa w' W.heap.size e (mpR G M l p) (mpO G M l p)) := fun hs W x h => specPiece_any x l.length l p G M hG hM W hs (Nat.le_refl _) hfp h
  have HI : Hid (l.length ≤ 1048576 → ∀ W x, RowP W x l.length (gp l) → Calls Try.prog 21 #[mv x l.length l.length, pv p] W fun e w' => Below W.heap.size W w' ∧ Mpa w' W.heap.size e (mpR G M l p) (mpO G M l p)) := fun hs W x h => implPiece_any x l.length l p G M hG hM W hs (Nat.le_refl _) hf hfp h
  have hm40 : (mpR G M l p).length ≤ 40 := len_mpR
  have HR : Hid (RowP w a l.length (gp l)) := ha
  clear ha hf hfp hG hM
  have cO := fun W => toPiece_any p W
  generalize mpR G M l p = LM at *
  generalize mpO G M l p = O at *
  generalize gp l = g at *
  generalize l.length = n at *
  have hOO : (O != O) = false := by cases O <;> rfl
  have cE := fun W x cx y cy h1 h2 => eqMap_same x y LM.length cx cy (gp LM) W (by omega) h1 h2
  obtain ⟨p0, p1, p2, p3⟩ := p
  try simp only at *
  obtain ⟨D, hD⟩ : ∃ D, w.heap.size = D := ⟨_, rfl⟩
  obtain ⟨W0, hW0⟩ : ∃ W0, (w.alloc (.cells #[.slice a n c] 24)).alloc (.cells #[.int .i64 p0, .int .i64 p1, .int .i64 p2, .bool p3] 37) = W0 := ⟨_, rfl⟩
  have g0 : Below w.heap.size w W0 := by subst hW0; exact ba2 _ _ _
  obtain ⟨A1, A2⟩ : W0.heap[D]? = some (.cells #[.slice a n c] 24 (0, 0)) ∧ W0.heap[D + 1]? = some (.cells #[.int .i64 p0, .int .i64 p1, .int .i64 p2, .bool p3] 37 (0, 0)) := by subst hW0 hD; exact al2 _ _ _
  have HB : Hid _ := And.intro A1 A2
  have i0 := (box1_cells A1).1
  clear A1 A2
  have cS := szMap_any a n c W0 hn
  go_enter Try.func5, Try.ntmps5
  go_wp2_with fail
  refine cS.mono ?_
  rintro e w1 ⟨b1, q, rfl, hq⟩
  clear cS hW0 i0
  have g1 := Below.comp g0 b1
  by_cases hq0 : q < 0
  · go_wp2_with fail
    go_ret
    exact ⟨rfl, by first | exact g1 | exact (hD ▸ g1)⟩
  have hl : n ≤ 1048576 := hq.resolve_left hq0
  have cT := fun W h => toMap_any a n c g W hl h
  have cP := HP.out hl
  have cI := HI.out hl
  clear HP HI hq
  have B1 : Hid (w1.heap[D]? = some (.cells #[.slice a n c] 24 (0, 0)) ∧ w1.heap[D + 1]? = some (.cells #[.int .i64 p0, .int .i64 p1, .int .i64 p2, .bool p3] 37 (0, 0))) := ⟨box_on HB.out.1 b1, box_on HB.out.2 b1⟩
  have SB : Hid (∀ W, Below w1.heap.size w1 W → W.cell? ⟨D, 0, none⟩ = some (.slice a n c) ∧ W.cell? ⟨D + 1, 0, none⟩ = some (.int .i64 p0) ∧ W.cell? ⟨D + 1, 1, none⟩ = some (.int .i64 p1) ∧ W.cell? ⟨D + 1, 2, none⟩ = some (.int .i64 p2) ∧ W.cell? ⟨D + 1, 3, none⟩ = some (.bool p3) ∧ Below w1.heap.size w1 W) := fun W z => by
    obtain ⟨j0, j1, j2, j3⟩ := box4_cells (box_on B1.out.2 z)
    exact ⟨(box1_cells (box_on B1.out.1 z)).1, j0, j1, j2, j3, z⟩
  go_wp2_with fail
  go_cut [6, 7] (fun p q wx => ∃ B C b, p = .pointer (some ⟨b, 0, none⟩) ∧ q = .bool O ∧ w1.heap.size ≤ B ∧ B ≤ C ∧ C ≤ wx.heap.size ∧ (b < B ∨ C ≤ b) ∧ w1.heap.size ≤ b ∧ b < wx.heap.size ∧ Boxm wx B C b LM ∧ Below w1.heap.size w1 wx)
  case first =>
    go_region_held3 (fun W => W.cell? ⟨D, 0, none⟩ = some (.slice a n c) ∧ W.cell? ⟨D + 1, 0, none⟩ = some (.int .i64 p0) ∧ W.cell? ⟨D + 1, 1, none⟩ = some (.int .i64 p1) ∧ W.cell? ⟨D + 1, 2, none⟩ = some (.int .i64 p2) ∧ W.cell? ⟨D + 1, 3, none⟩ = some (.bool p3) ∧ Below w1.heap.size w1 W)
      ((refine SB.out _ ?_; first | assumption | exact Below.drew (Below.refl _ _) | exact Below.drew (below_alloc _ _) | exact Below.comp (by assumption) (below_alloc _ _) | exact Below.setCell (by assumption) (by first | exact Nat.le_refl _ | exact b14.size | exact b13.size | exact b12.size) _ | exact Below.drew (Below.setCell (by assumption) (by first | exact Nat.le_refl _ | exact b14.size | exact b13.size | exact b12.size) _)))
      (first | (go_at_call 14; obtain ⟨-, -, -, -, -, hw0⟩ := ‹_ ∧ _ ∧ _ ∧ _ ∧ _ ∧ Below w1.heap.size w1 _›; refine (cT _ (RowP.below HR.out (Below.comp g1 hw0))).mono ?_; rintro e z2 ⟨y2, x, rfl, m1⟩; have b12 := Below.comp hw0 y2; have M1 : Hid (RowP z2 x n g) := MineP.row m1; (try have K2 : z2.heap[w1.heap.size]? = some (.cells #[.slice none 0 0] 29) := box_on (show (w1.alloc (.cells #[.slice none 0 0] 29)).drew.heap[w1.heap.size]? = some (.cells #[.slice none 0 0] 29) from al1 w1 (.cells #[.slice none 0 0] 29)) y2); clear hw0 m1) | (go_at_call 20; obtain ⟨-, -, -, -, -, hw0⟩ := ‹_ ∧ _ ∧ _ ∧ _ ∧ _ ∧ Below w1.heap.size w1 _›; refine (cO _).mono ?_; rintro e z3 ⟨rfl, y3⟩; have b13 := Below.comp hw0 y3; have M3 : Hid (RowP z3 x n g) := RowP.below (by first | exact M1.out | exact RowP.below M1.out (below_alloc _ _)) y3; (try have K3 := box_on (al1 _ (.cells #[.slice none 0 0] 29)) y3); (try have K3 := box_on K2 y3); clear hw0) | (go_at_call 19; obtain ⟨-, -, -, -, -, hw0⟩ := ‹_ ∧ _ ∧ _ ∧ _ ∧ _ ∧ Below w1.heap.size w1 _›; refine (cP _ x (by first | exact M3.out | exact RowP.below M3.out (below_alloc _ _))).mono ?_; rintro e z4 ⟨y4, xs, cs, rfl, hcs, ms⟩; have b14 := Below.comp hw0 y4; have lo4 := hw0.size; have zz4 := y4.size; (try (have K4 := box_on (al1 _ (.cells #[.slice none 0 0] 29)) y4; obtain ⟨u0, u1⟩ := box1_cells K4)); (try (have K4 := box_on K3 y4; obtain ⟨u0, u1⟩ := box1_cells K4)); clear hw0))
    all_goals go_wp2_with fail
    all_goals go_meet
    · exact ⟨_, _, _, rfl, rfl, lo4, zz4, by simp, .inr (Nat.le_refl _), Nat.le_trans lo4 zz4, by simp, boxm_alloc ms, Below.comp b14 (below_alloc _ _)⟩
    · exact ⟨_, _, _, rfl, rfl, lo4, zz4, by simp, .inl (by simp), b13.size, by have := box_lt K4; simpa [World.setCell] using this, boxm_store ms K4 (by simp), b14.setCell (b13.size) _⟩
    · exact ⟨_, _, _, rfl, rfl, lo4, zz4, by simp, .inl (box_lt K3), b12.size, by have := box_lt K4; simpa [World.setCell] using this, boxm_store ms K4 (box_lt K3), b14.setCell (b12.size) _⟩
    · exact ⟨_, _, _, rfl, rfl, lo4, zz4, by simp, .inl (box_lt K3), Nat.le_refl _, by have := box_lt K4; simpa [World.setCell] using this, boxm_store ms K4 (box_lt K3), b14.setCell (Nat.le_refl _) _⟩
  obtain ⟨BW, CW, bW, rfl, rfl, hW1, hW2, hW3, hW4, hW5, hW6, ⟨xs, cs, kW, mW⟩, bcut⟩ := hcut
  generalize wc = w3 at *
  clear SB cP
  have g3 := Below.comp g1 bcut
  have B3 : Hid (w3.heap[D]? = some (.cells #[.slice a n c] 24 (0, 0)) ∧ w3.heap[D + 1]? = some (.cells #[.int .i64 p0, .int .i64 p1, .int .i64 p2, .bool p3] 37 (0, 0))) := ⟨box_on B1.out.1 bcut, box_on B1.out.2 bcut⟩
  have KW : Hid (w3.heap[bW]? = some (.cells #[.slice xs LM.length cs] 29 (0, 0))) := kW
  have MW : Hid (MineP w3 BW CW xs LM.length (gp LM)) := mW
  have hD1 : D + 1 < w1.heap.size := box_lt B1.out.2
  have hz : Hid (w.heap.size = D ∧ D + 1 < w1.heap.size ∧ w1.heap.size ≤ BW ∧ BW ≤ CW ∧ CW ≤ w3.heap.size ∧ (bW < BW ∨ CW ≤ bW) ∧ w1.heap.size ≤ bW ∧ bW < w3.heap.size) := ⟨hD, hD1, hW1, hW2, hW3, hW4, hW5, hW6⟩
  clear kW mW bcut hD1 hW1 hW2 hW3 hW4 hW5 hW6 b1 B1
  have i0 := (box1_cells B3.out.1).1
  go_wp2_with fail
  refine (cT _ (RowP.below HR.out g3)).mono ?_
  rintro e w4 ⟨b4, y, rfl, my⟩
  clear i0
  have g4 := Below.comp g3 b4
  obtain ⟨E, hE⟩ : ∃ E, w4.heap.size = E := ⟨_, rfl⟩
  obtain ⟨W4, hW4⟩ : ∃ W4, w4.alloc (.cells #[.slice y n n] 29) = W4 := ⟨_, rfl⟩
  have b5 : Below w4.heap.size w4 W4 := by subst hW4; exact below_alloc _ _
  have HE : Hid (W4.heap[E]? = some (.cells #[.slice y n n] 29 (0, 0))) := by subst hW4 hE; exact al1 _ _
  have HZ4 : Hid (W4.heap.size = w4.heap.size + 1 ∧ w4.heap.size = E ∧ w3.heap.size ≤ w4.heap.size) := ⟨by subst hW4; simp, hE, b4.size⟩
  have b34 := Below.comp b4 b5
  have g5 := Below.comp g3 b34
  have B4 : Hid (W4.heap[D]? = some (.cells #[.slice a n c] 24 (0, 0)) ∧ W4.heap[D + 1]? = some (.cells #[.int .i64 p0, .int .i64 p1, .int .i64 p2, .bool p3] 37 (0, 0))) := ⟨box_on B3.out.1 b34, box_on B3.out.2 b34⟩
  have My4 : Hid (MineP W4 w3.heap.size w4.heap.size y n g) := Mine.below my b5
  have Hy : Hid (RowP W4 y n g) := MineP.row My4.out
  have KW4 : Hid (W4.heap[bW]? = some (.cells #[.slice xs LM.length cs] 29 (0, 0))) := box_on KW.out b34
  have MW4 : Hid (MineP W4 BW CW xs LM.length (gp LM)) := Mine.below MW.out b34
  clear my b34 B3 KW MW b4
  go_wp2_with fail
  clear hW4 b5 hE
  have SB : Hid (∀ W, Below W4.heap.size W4 W → W.cell? ⟨E, 0, none⟩ = some (.slice y n n) ∧ W.cell? ⟨D + 1, 0, none⟩ = some (.int .i64 p0) ∧ W.cell? ⟨D + 1, 1, none⟩ = some (.int .i64 p1) ∧ W.cell? ⟨D + 1, 2, none⟩ = some (.int .i64 p2) ∧ W.cell? ⟨D + 1, 3, none⟩ = some (.bool p3) ∧ Below W4.heap.size W4 W) := fun W z => by
    obtain ⟨j0, j1, j2, j3⟩ := box4_cells (box_on B4.out.2 z)
    exact ⟨(box1_cells (box_on HE.out z)).1, j0, j1, j2, j3, z⟩
  go_cut [9, 10] (fun p q wx => ∃ B C b, p = .pointer (some ⟨b, 0, none⟩) ∧ q = .bool O ∧ W4.heap.size ≤ B ∧ B ≤ C ∧ C ≤ wx.heap.size ∧ (b < B ∨ C ≤ b) ∧ W4.heap.size ≤ b ∧ b < wx.heap.size ∧ Boxm wx B C b LM ∧ Below W4.heap.size W4 wx)
  case first =>
    go_region_held3 (fun W => W.cell? ⟨E, 0, none⟩ = some (.slice y n n) ∧ W.cell? ⟨D + 1, 0, none⟩ = some (.int .i64 p0) ∧ W.cell? ⟨D + 1, 1, none⟩ = some (.int .i64 p1) ∧ W.cell? ⟨D + 1, 2, none⟩ = some (.int .i64 p2) ∧ W.cell? ⟨D + 1, 3, none⟩ = some (.bool p3) ∧ Below W4.heap.size W4 W)
      ((refine SB.out _ ?_; first | assumption | exact Below.drew (Below.refl _ _) | exact Below.drew (below_alloc _ _) | exact Below.comp (by assumption) (below_alloc _ _) | exact Below.setCell (by assumption) (by first | exact Nat.le_refl _ | exact b14.size | exact b13.size | exact b12.size) _ | exact Below.drew (Below.setCell (by assumption) (by first | exact Nat.le_refl _ | exact b14.size | exact b13.size | exact b12.size) _)))
      (first | (go_at_call 20; obtain ⟨-, -, -, -, -, hw0⟩ := ‹_ ∧ _ ∧ _ ∧ _ ∧ _ ∧ Below W4.heap.size W4 _›; refine (cO _).mono ?_; rintro e z3 ⟨rfl, y3⟩; have b13 := Below.comp hw0 y3; (try have K3 : z3.heap[W4.heap.size]? = some (.cells #[.slice none 0 0] 29) := box_on (show (W4.alloc (.cells #[.slice none 0 0] 29)).drew.heap[W4.heap.size]? = some (.cells #[.slice none 0 0] 29) from al1 W4 (.cells #[.slice none 0 0] 29)) y3); (try have K3 := box_on K2 y3); clear hw0) | (go_at_call 21; obtain ⟨-, -, -, -, -, hw0⟩ := ‹_ ∧ _ ∧ _ ∧ _ ∧ _ ∧ Below W4.heap.size W4 _›; refine (cI _ y (RowP.below Hy.out hw0)).mono ?_; rintro e z4 ⟨y4, xs, cs, rfl, hcs, ms⟩; have b14 := Below.comp hw0 y4; have lo4 := hw0.size; have zz4 := y4.size; (try (have K4 := box_on (al1 _ (.cells #[.slice none 0 0] 29)) y4; obtain ⟨u0, u1⟩ := box1_cells K4)); (try (have K4 := box_on K3 y4; obtain ⟨u0, u1⟩ := box1_cells K4)); clear hw0))
    all_goals go_wp2_with fail
    all_goals go_meet
    · exact ⟨_, _, _, rfl, rfl, lo4, zz4, by simp, .inr (Nat.le_refl _), Nat.le_trans lo4 zz4, by simp, boxm_alloc ms, Below.comp b14 (below_alloc _ _)⟩
    · exact ⟨_, _, _, rfl, rfl, lo4, zz4, by simp, .inl (by simp), b13.size, by have := box_lt K4; simpa [World.setCell] using this, boxm_store ms K4 (by simp), b14.setCell (b13.size) _⟩
    · exact ⟨_, _, _, rfl, rfl, lo4, zz4, by simp, .inl (box_lt K3), Nat.le_refl _, by have := box_lt K4; simpa [World.setCell] using this, boxm_store ms K4 (box_lt K3), b14.setCell (Nat.le_refl _) _⟩
  obtain ⟨BG, CG, bG, rfl, rfl, hW1, hW2, hW3, hW4, hW5, hW6, ⟨xg, cg, kG, mG⟩, bcut⟩ := hcut
  generalize wc = w6 at *
  clear SB Hy
  have g6 := Below.comp g5 bcut
  have hzG : Hid (W4.heap.size ≤ BG ∧ BG ≤ CG ∧ CG ≤ w6.heap.size ∧ (bG < BG ∨ CG ≤ bG) ∧ W4.heap.size ≤ bG ∧ bG < w6.heap.size) := ⟨hW1, hW2, hW3, hW4, hW5, hW6⟩
  have Q6 : Hid ((w6.heap[D]? = some (.cells #[.slice a n c] 24 (0, 0)) ∧ w6.heap[D + 1]? = some (.cells #[.int .i64 p0, .int .i64 p1, .int .i64 p2, .bool p3] 37 (0, 0)) ∧ w6.heap[bW]? = some (.cells #[.slice xs LM.length cs] 29 (0, 0)) ∧ w6.heap[E]? = some (.cells #[.slice y n n] 29 (0, 0)) ∧ w6.heap[bG]? = some (.cells #[.slice xg LM.length cg] 29 (0, 0))) ∧ MineP w6 BW CW xs LM.length (gp LM) ∧ MineP w6 BG CG xg LM.length (gp LM) ∧ MineP w6 w3.heap.size w4.heap.size y n g) := ⟨⟨box_on B4.out.1 bcut, box_on B4.out.2 bcut, box_on KW4.out bcut, box_on HE.out bcut, kG⟩, Mine.below MW4.out bcut, mG, Mine.below My4.out bcut⟩
  clear kG mG bcut hW1 hW2 hW3 hW4 hW5 hW6 B4 KW4 MW4 HE My4
  have k0 := (box1_cells Q6.out.1.2.2.2.2).1
  have k1 := (box1_cells Q6.out.1.2.2.1).1
  go_wp2_with fail
  refine (cE _ xg cg xs cs (MineP.row Q6.out.2.2.1) (MineP.row Q6.out.2.1)).mono ?_
  rintro e w8 ⟨rfl, b68⟩
  clear k0 k1
  have SB : Hid (∀ W, Below w8.heap.size w8 W → W.cell? ⟨D, 0, none⟩ = some (.slice a n c) ∧ W.cell? ⟨E, 0, none⟩ = some (.slice y n n) ∧ Below w8.heap.size w8 W) := fun W z => ⟨(box1_cells (box_on Q6.out.1.1 (Below.comp b68 z))).1, (box1_cells (box_on Q6.out.1.2.2.2.1 (Below.comp b68 z))).1, z⟩
  go_wp2_with fail
  go_region_held3 (fun W => W.cell? ⟨D, 0, none⟩ = some (.slice a n c) ∧ W.cell? ⟨E, 0, none⟩ = some (.slice y n n) ∧ Below w8.heap.size w8 W)
    ((refine SB.out _ ?_; first | assumption | exact Below.drew (Below.refl _ _)))
    (first
    | (go_at_call 14; obtain ⟨-, -, hw0⟩ := ‹_ ∧ _ ∧ Below w8.heap.size w8 _›; refine (cT _ (RowP.below HR.out (Below.comp (Below.comp g6 b68) hw0))).mono ?_; rintro e w9 ⟨b9, z, rfl, m7⟩; have b89 := Below.comp hw0 b9; clear hw0)
    | (go_at_call 16; refine (eqMap_same _ _ n _ _ g _ (by omega) (MineP.row (Mine.below Q6.out.2.2.2 (Below.comp b68 b89))) (MineP.row m7)).mono ?_; rintro e w10 ⟨rfl, b10⟩; have b810 := Below.comp b89 b10))
  clear m7 SB
  have b610 : Below w6.heap.size w6 w10 := Below.comp b68 (by assumption)
  have j0 := (box1_cells (box_on Q6.out.1.2.2.2.1 b610)).1
  have c22 := markMap_any w3.heap.size w4.heap.size y n n g 1 w10 (by omega) (Mine.below Q6.out.2.2.2 b610)
  obtain ⟨K1, hK1⟩ : ∃ K : Int, ((1 + n * 4 : Nat) : Int) = K := ⟨_, rfl⟩
  have hK1' : ¬ K1 < 0 := by omega
  rw [hK1] at c22
  have HK1 : Hid _ := hK1
  clear hK1
  go_wp2_with fail
  refine c22.mono ?_
  rintro e w11 ⟨rfl, o11, -⟩
  clear c22 j0
  have HZ : Hid (w6.heap.size ≤ w10.heap.size ∧ w10.heap.size ≤ w11.heap.size) := ⟨b610.size, o11.size⟩
  have Q11 : Hid ((w11.heap[D]? = some (.cells #[.slice a n c] 24 (0, 0)) ∧ w11.heap[D + 1]? = some (.cells #[.int .i64 p0, .int .i64 p1, .int .i64 p2, .bool p3] 37 (0, 0)) ∧ w11.heap[bW]? = some (.cells #[.slice xs LM.length cs] 29 (0, 0)) ∧ w11.heap[bG]? = some (.cells #[.slice xg LM.length cg] 29 (0, 0))) ∧ MineP w11 BW CW xs LM.length (gp LM) ∧ MineP w11 BG CG xg LM.length (gp LM)) := by
    have h1 := hz.out; have h2 := hzG.out; have h3 := HZ4.out; have q := Q6.out
    exact ⟨⟨box_out (box_on q.1.1 b610) o11 (by omega), box_out (box_on q.1.2.1 b610) o11 (by omega), box_out (box_on q.1.2.2.1 b610) o11 (by omega), box_out (box_on q.1.2.2.2.2 b610) o11 (by omega)⟩, Mine.out (Mine.below q.2.1 b610) o11 (by omega), Mine.out (Mine.below q.2.2.1 b610) o11 (by omega)⟩
  have g11 : Below w.heap.size w w11 := by
    have h1 := hz.out; have h2 := hzG.out; have h3 := HZ4.out; have h5 := HZ.out
    exact (Below.comp g6 b610).trans ((o11.below (by omega)).mono (by omega))
  clear Q6
  have k0 := (box1_cells Q11.out.1.2.2.2).1
  have k1 := (box1_cells Q11.out.1.2.2.1).1
  go_wp2_with fail
  refine (cE _ xg cg xs cs (MineP.row Q11.out.2.2) (MineP.row Q11.out.2.1)).mono ?_
  rintro e w13 ⟨rfl, b1113⟩
  clear k0 k1
  have k0 := (box1_cells (box_on Q11.out.1.2.2.2 b1113)).1
  have c22 := markMap_any BG CG xg LM.length cg (gp LM) 1 w13 (by omega) (Mine.below Q11.out.2.2 b1113)
  have c23 := fun W h => heldMap_any xg LM.length cg 1 W (by omega) h
  obtain ⟨K2, hK2⟩ : ∃ K : Int, ((1 + LM.length * 4 : Nat) : Int) = K := ⟨_, rfl⟩
  have hK2' : ¬ K2 < 0 := by omega
  rw [hK2] at c22 c23
  clear hK2
  go_wp2_with fail
  refine c22.mono ?_
  rintro e w15 ⟨rfl, o15, mg15⟩
  clear c22 k0
  have Q15 : Hid ((w15.heap[D]? = some (.cells #[.slice a n c] 24 (0, 0)) ∧ w15.heap[D + 1]? = some (.cells #[.int .i64 p0, .int .i64 p1, .int .i64 p2, .bool p3] 37 (0, 0)) ∧ w15.heap[bW]? = some (.cells #[.slice xs LM.length cs] 29 (0, 0)) ∧ w15.heap[bG]? = some (.cells #[.slice xg LM.length cg] 29 (0, 0))) ∧ MineP w15 BW CW xs LM.length (gp LM) ∧ MineP w15 BG CG xg LM.length (mkp 1)) := by
    have h1 := hz.out; have h2 := hzG.out; have h3 := HZ4.out; have q := Q11.out
    exact ⟨⟨box_out (box_on q.1.1 b1113) o15 (by omega), box_out (box_on q.1.2.1 b1113) o15 (by omega), box_out (box_on q.1.2.2.1 b1113) o15 (by omega), box_out (box_on q.1.2.2.2 b1113) o15 (by omega)⟩, Mine.out (Mine.below q.2.1 b1113) o15 (by omega), mg15⟩
  have g15 : Below w.heap.size w w15 := by
    have h1 := hz.out; have h2 := hzG.out; have h3 := HZ4.out; have h5 := HZ.out; have h6 := b1113.size
    exact (Below.comp g11 b1113).trans ((o15.below (by omega)).mono (by omega))
  clear mg15 Q11
  have k0 := (box1_cells Q15.out.1.2.2.2).1
  go_wp2_with fail
  refine (c23 _ (MineP.row Q15.out.2.2)).mono ?_
  rintro e w16 ⟨rfl, b16⟩
  clear k0
  have g16 := Below.comp g15 b16
  have B16 : Hid (w16.heap[D]? = some (.cells #[.slice a n c] 24 (0, 0)) ∧ w16.heap[D + 1]? = some (.cells #[.int .i64 p0, .int .i64 p1, .int .i64 p2, .bool p3] 37 (0, 0))) := ⟨box_on Q15.out.1.1 b16, box_on Q15.out.1.2.1 b16⟩
  have SB : Hid (∀ W, Below w16.heap.size w16 W → W.cell? ⟨D, 0, none⟩ = some (.slice a n c) ∧ W.cell? ⟨D + 1, 0, none⟩ = some (.int .i64 p0) ∧ W.cell? ⟨D + 1, 1, none⟩ = some (.int .i64 p1) ∧ W.cell? ⟨D + 1, 2, none⟩ = some (.int .i64 p2) ∧ W.cell? ⟨D + 1, 3, none⟩ = some (.bool p3) ∧ Below w16.heap.size w16 W) := fun W z => by
    obtain ⟨j0, j1, j2, j3⟩ := box4_cells (box_on B16.out.2 z)
    exact ⟨(box1_cells (box_on B16.out.1 z)).1, j0, j1, j2, j3, z⟩
  go_wp2_with fail
  go_cut [14, 15] (fun p q wx => ∃ B C b, p = .pointer (some ⟨b, 0, none⟩) ∧ q = .bool O ∧ w16.heap.size ≤ B ∧ B ≤ C ∧ C ≤ wx.heap.size ∧ (b < B ∨ C ≤ b) ∧ w16.heap.size ≤ b ∧ b < wx.heap.size ∧ Boxm wx B C b LM ∧ Below w16.heap.size w16 wx)
  case first =>
    go_region_held3 (fun W => W.cell? ⟨D, 0, none⟩ = some (.slice a n c) ∧ W.cell? ⟨D + 1, 0, none⟩ = some (.int .i64 p0) ∧ W.cell? ⟨D + 1, 1, none⟩ = some (.int .i64 p1) ∧ W.cell? ⟨D + 1, 2, none⟩ = some (.int .i64 p2) ∧ W.cell? ⟨D + 1, 3, none⟩ = some (.bool p3) ∧ Below w16.heap.size w16 W)
      ((refine SB.out _ ?_; first | assumption | exact Below.drew (Below.refl _ _) | exact Below.drew (below_alloc _ _) | exact Below.comp (by assumption) (below_alloc _ _) | exact Below.setCell (by assumption) (by first | exact Nat.le_refl _ | exact b14.size | exact b13.size | exact b12.size) _ | exact Below.drew (Below.setCell (by assumption) (by first | exact Nat.le_refl _ | exact b14.size | exact b13.size | exact b12.size) _)))
      (first | (go_at_call 14; obtain ⟨-, -, -, -, -, hw0⟩ := ‹_ ∧ _ ∧ _ ∧ _ ∧ _ ∧ Below w16.heap.size w16 _›; refine (cT _ (RowP.below HR.out (Below.comp g16 hw0))).mono ?_; rintro e z2 ⟨y2, x, rfl, m1⟩; have b12 := Below.comp hw0 y2; have M1 : Hid (RowP z2 x n g) := MineP.row m1; (try have K2 : z2.heap[w16.heap.size]? = some (.cells #[.slice none 0 0] 29) := box_on (show (w16.alloc (.cells #[.slice none 0 0] 29)).drew.heap[w16.heap.size]? = some (.cells #[.slice none 0 0] 29) from al1 w16 (.cells #[.slice none 0 0] 29)) y2); clear hw0 m1) | (go_at_call 20; obtain ⟨-, -, -, -, -, hw0⟩ := ‹_ ∧ _ ∧ _ ∧ _ ∧ _ ∧ Below w16.heap.size w16 _›; refine (cO _).mono ?_; rintro e z3 ⟨rfl, y3⟩; have b13 := Below.comp hw0 y3; have M3 : Hid (RowP z3 x n g) := RowP.below (by first | exact M1.out | exact RowP.below M1.out (below_alloc _ _)) y3; (try have K3 := box_on (al1 _ (.cells #[.slice none 0 0] 29)) y3); (try have K3 := box_on K2 y3); clear hw0) | (go_at_call 21; obtain ⟨-, -, -, -, -, hw0⟩ := ‹_ ∧ _ ∧ _ ∧ _ ∧ _ ∧ Below w16.heap.size w16 _›; refine (cI _ x (by first | exact M3.out | exact RowP.below M3.out (below_alloc _ _))).mono ?_; rintro e z4 ⟨y4, xs, cs, rfl, hcs, ms⟩; have b14 := Below.comp hw0 y4; have lo4 := hw0.size; have zz4 := y4.size; (try (have K4 := box_on (al1 _ (.cells #[.slice none 0 0] 29)) y4; obtain ⟨u0, u1⟩ := box1_cells K4)); (try (have K4 := box_on K3 y4; obtain ⟨u0, u1⟩ := box1_cells K4)); clear hw0))
    all_goals go_wp2_with fail
    all_goals go_meet
    · exact ⟨_, _, _, rfl, rfl, lo4, zz4, by simp, .inr (Nat.le_refl _), Nat.le_trans lo4 zz4, by simp, boxm_alloc ms, Below.comp b14 (below_alloc _ _)⟩
    · exact ⟨_, _, _, rfl, rfl, lo4, zz4, by simp, .inl (by simp), b13.size, by have := box_lt K4; simpa [World.setCell] using this, boxm_store ms K4 (by simp), b14.setCell (b13.size) _⟩
    · exact ⟨_, _, _, rfl, rfl, lo4, zz4, by simp, .inl (box_lt K3), b12.size, by have := box_lt K4; simpa [World.setCell] using this, boxm_store ms K4 (box_lt K3), b14.setCell (b12.size) _⟩
    · exact ⟨_, _, _, rfl, rfl, lo4, zz4, by simp, .inl (box_lt K3), Nat.le_refl _, by have := box_lt K4; simpa [World.setCell] using this, boxm_store ms K4 (box_lt K3), b14.setCell (Nat.le_refl _) _⟩
  obtain ⟨BH, CH, bH, rfl, rfl, hW1, hW2, hW3, hW4, hW5, hW6, ⟨xh, ch, kH, mH⟩, bcut⟩ := hcut
  generalize wc = w18 at *
  clear SB
  have b1518 := Below.comp b16 bcut
  have k0 := (box1_cells kH).1
  have k1 := (box1_cells (box_on Q15.out.1.2.2.1 b1518)).1
  have HMH : Hid _ := mH
  clear kH mH bcut
  go_wp2_with fail
  refine (cE _ xh ch xs cs (MineP.row HMH.out) (MineP.row (Mine.below Q15.out.2.1 b1518))).mono ?_
  rintro e w20 ⟨rfl, b20⟩
  clear k0 k1
  have b1520 := Below.comp b1518 b20
  have k0 := (box1_cells (box_on Q15.out.1.2.2.2 b1520)).1
  go_wp2_with fail
  refine (c23 _ (MineP.row (Mine.below Q15.out.2.2 b1520))).mono ?_
  rintro e w21 ⟨rfl, b21⟩
  clear k0
  have b1521 := Below.comp b1520 b21
  go_wp2_with fail
  go_ret
  exact ⟨rfl, by first | exact Below.comp g15 b1521 | exact (hD ▸ Below.comp g15 b1521)⟩
end Go.Proofs.Ytdbmdblghlfjfaa
