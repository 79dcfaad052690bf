import Derived.Test.YtmijalmihfgolaaDoorX3
/- One write of an open store: the program. -/
namespace Go.Proofs.YtmijalmihfgolaaDoor
open Go.ChangeShapes Go.WideShapes Go.ChangeAt Go.RowKit
set_option linter.unusedVariables false
open Tx

attribute [local go_sem] Oper.semAt_some

theorem Tl_snoc (P : List Wr) (g : Wr) {i : Nat} (h : i < P.length + 1) : Tl (P ++ [g]) i = setT (Tl P) P.length g.s i := by
  unfold setT Tl
  by_cases e : i = P.length
  · subst e
    rw [if_pos rfl, gw_snoc]
  · rw [if_neg e, gw_app (by omega)]
theorem Ul_snoc (P : List Wr) (g : Wr) {i : Nat} (h : i < P.length + 1) : Ul (P ++ [g]) i = setU (Ul P) P.length g.d i := by
  unfold setU Ul
  by_cases e : i = P.length
  · subst e
    rw [if_pos rfl, gw_snoc]
  · rw [if_neg e, gw_app (by omega)]
theorem mineW_snoc {w : World} {B C : Nat} {y : Option Addr} {P : List Wr} {g : Wr} (h : Mine w B C 63 (P.length + 1) y (wrts (P.length + 1) (setT (Tl P) P.length g.s) (setU (Ul P) P.length g.d))) : MineW w B C y (P ++ [g]) := by
  have el : (P ++ [g]).length = P.length + 1 := by simp
  rcases h with h | ⟨b, c, h1, h2, h3, h4, h5⟩
  · exact .inl (by rw [el]; exact h)
  · refine .inr ⟨b, c, h1, h2, h3, h4, fun i hi => ?_⟩
    rw [el] at hi
    rw [Tl_snoc P g hi, Ul_snoc P g hi]
    exact h5 i hi
theorem wr_yes {L : List ByteArray} {P : List Wr} {t : Int} {u : ByteArray} (hg : gdD L P = true) (hf : fitB L.length t u = true) (h : P.length ≠ 60) : wrOK L.length P.length (gt L) (Tl P) (Ul P) t u = true := decide_eq_true ⟨hg, hf, h⟩
theorem wr_no {L : List ByteArray} {P : List Wr} {t : Int} {u : ByteArray} (h : P.length = 60) : wrOK L.length P.length (gt L) (Tl P) (Ul P) t u = false := decide_eq_false fun ⟨_, _, h'⟩ => h' h

set_option maxRecDepth 20000 in
set_option maxHeartbeats 1600000 in
theorem write_yes (o : Nat) (x y : Option Addr) (cx cy : Nat) (L : List ByteArray) (P : List Wr) (g : Wr) (V : Value) (q : Int) (w : World) (hg : gdD L P = true) (hf : fitB L.length g.s g.d = true) (h60 : P.length ≠ 60) (hB : OB w o (.slice x L.length cx) (.slice y P.length cy) V q) (hx : RowT w x L) (hy : RowW w y P) :
    Calls Tryd.prog 68 #[.pointer (some ⟨o, 0, none⟩), .agg #[.int .i64 g.s, .string g.d]] w fun e w' => e = .returned (.tuple #[]) ∧ Out o (o + 1) w w' ∧ ∃ x' cx' y' cy', OB w' o (.slice x' L.length cx') (.slice y' (P ++ [g]).length cy') V q ∧ MineT w' w.heap.size w'.heap.size x' L ∧ MineW w' w.heap.size w'.heap.size y' (P ++ [g]) := by
  obtain ⟨g1, g2, g3, g4, g5⟩ := gdD_parts hg
  obtain ⟨W0, hW0⟩ : ∃ W0, w.alloc (.cells #[.int .i64 g.s, .string g.d] 63) = W0 := ⟨_, rfl⟩
  have b0 : Below w.heap.size w W0 := by subst hW0; exact below_alloc _ _
  have k0 : W0.heap[w.heap.size]? = some (.cells #[.int .i64 g.s, .string g.d] 63 (0, 0)) := by subst hW0; exact al1 _ _
  have cF : Hid (∀ W, Below w.heap.size w W → Calls Tryd.prog 93 #[.agg #[.slice x L.length cx, .slice y P.length cy], .agg #[.int .i64 g.s, .string g.d]] W fun e w' => DevRes W w' e L.length (P.length + 1) true (gt L) (setT (Tl P) P.length g.s) (setU (Ul P) P.length g.d)) := fun W hb => by
    have := implWrite_any x y L.length P.length cx cy (gt L) (Tl P) (Ul P) g.s g.d W (by omega) (by omega) (At.below hx hb) (At2.below hy hb) (fewT_8 g4) (few_8 g5) (by rw [(fitB_spec hf).2.2]; decide)
    unfold wrN wrM at this
    rw [wr_yes hg hf h60] at this
    exact this
  have hlt := box_lt hB
  have hB0 := box_on hB b0
  obtain ⟨c0, c1, c2, c3⟩ := box4_cells hB0
  obtain ⟨e0, e1, _⟩ := box2_cells k0
  have HB0 : Hid (OB W0 o (.slice x L.length cx) (.slice y P.length cy) V q) := hB0
  have HW : Hid (Below w.heap.size w W0) := b0
  have HK0 : Hid (W0.heap[w.heap.size]? = some (.cells #[.int .i64 g.s, .string g.d] 63 (0, 0))) := k0
  clear g1 g2 g3 g4 g5 hB0 k0 b0
  go_enter Tryd.func68, Tryd.ntmps68
  go_wp2
  refine wp_region_noPanic ?_
  refine wp_region_L (fun W => W.cell? ⟨w.heap.size, 0, none⟩ = some (.int .i64 g.s) ∧ W.cell? ⟨w.heap.size, 1, none⟩ = some (.string g.d)) 10 10 (by kernel_rfl) rfl ⟨e0, e1⟩ (fun hS0 => ?_)
  refine tkL (i := 0) (d := 4) (v := ?_) rfl rfl (by kernel_rfl) (by kernel_rfl) (by kernel_rfl) (by kernel_rfl) (fun _ _ _ h => h) (Or.inl ⟨by rfl, by intro wq hSq; obtain ⟨hq1, hq2⟩ := hSq; go_simp; try with_reducible rfl⟩) (by assumption) ?_
  simp only [List.setIfInBounds_toArray, List.set_cons_zero, List.set_cons_succ]
  refine tkL (i := 1) (d := 5) (v := ?_) rfl rfl (by kernel_rfl) (by kernel_rfl) (by kernel_rfl) (by kernel_rfl) (fun _ _ _ h => h) (Or.inl ⟨by rfl, by intro wq hSq; obtain ⟨hq1, hq2⟩ := hSq; go_simp; try with_reducible rfl⟩) (by assumption) ?_
  simp only [List.setIfInBounds_toArray, List.set_cons_zero, List.set_cons_succ]
  refine tkL (i := 2) (d := 6) (v := ?_) rfl rfl (by kernel_rfl) (by kernel_rfl) (by kernel_rfl) (by kernel_rfl) (fun _ _ _ h => h) (Or.inl ⟨by rfl, by intro wq hSq; obtain ⟨hq1, hq2⟩ := hSq; go_simp; try with_reducible rfl⟩) (by assumption) ?_
  simp only [List.setIfInBounds_toArray, List.set_cons_zero, List.set_cons_succ]
  refine tkL (i := 3) (d := 7) (v := ?_) rfl rfl (by kernel_rfl) (by kernel_rfl) (by kernel_rfl) (by kernel_rfl) (fun _ _ _ h => h) (Or.inl ⟨by rfl, by intro wq hSq; obtain ⟨hq1, hq2⟩ := hSq; go_simp; try with_reducible rfl⟩) (by assumption) ?_
  simp only [List.setIfInBounds_toArray, List.set_cons_zero, List.set_cons_succ]
  refine tkL (i := 5) (d := 9) (v := ?_) rfl rfl (by kernel_rfl) (by kernel_rfl) (by kernel_rfl) (by kernel_rfl) (fun _ _ _ h => h) (Or.inl ⟨by rfl, by intro wq hSq; obtain ⟨hq1, hq2⟩ := hSq; go_simp; try with_reducible rfl⟩) (by assumption) ?_
  simp only [List.setIfInBounds_toArray, List.set_cons_zero, List.set_cons_succ]
  have c0' : W0.drew.cell? ⟨o, 0, none⟩ = some (.slice x L.length cx) := c0
  have c1' : W0.drew.cell? ⟨o, 1, none⟩ = some (.slice y P.length cy) := c1
  refine oneL (i := 4) rfl (by kernel_rfl) (fun K hK => ?_)
  go_simp
  refine hK.out _ _ hS0 (fun _ => ?_)
  clear hK K
  refine oneL (i := 6) rfl (by kernel_rfl) (fun K hK => ?_)
  go_simp
  refine (cF.out _ (Below.drew HW.out)).mono ?_
  rintro e w1 ⟨b1, x1, cx1, y1, cy1, rfl, mx1, my1⟩
  have n0 := cell_on (w := W0.drew) e0 b1
  have n1 := cell_on (w := W0.drew) e1 b1
  refine hK.out _ _ ⟨n0, n1⟩ (fun hS1 => ?_)
  clear hK K
  refine tkL (i := 7) (d := 11) (v := ?_) rfl rfl (by kernel_rfl) (by kernel_rfl) (by kernel_rfl) (by kernel_rfl) (fun _ _ _ h => h) (Or.inl ⟨by rfl, by intro wq hSq; obtain ⟨hq1, hq2⟩ := hSq; go_simp; try with_reducible rfl⟩) (by assumption) ?_
  simp only [List.setIfInBounds_toArray, List.set_cons_zero, List.set_cons_succ]
  refine oneL (i := 8) rfl (by kernel_rfl) (fun K hK => ?_)
  go_simp
  refine hK.out _ _ hS1 (fun _ => ?_)
  clear hK K
  have hB1 : OB w1 o (.slice x L.length cx) (.slice y P.length cy) V q := box_on (show OB W0.drew o _ _ _ _ from HB0.out) b1
  have cT := take_yes o (.slice x1 L.length cx1) (.slice y1 (P.length + 1) cy1) _ _ V q w1 x1 L.length cx1 y1 (P.length + 1) cy1 rfl rfl hB1
  refine oneL (i := 9) rfl (by kernel_rfl) (fun K hK => ?_)
  go_simp
  refine cT.mono ?_
  rintro e w2 ⟨rfl, hB2, o2⟩
  have hk1 : w1.heap[w.heap.size]? = some (.cells #[.int .i64 g.s, .string g.d] 63 (0, 0)) := box_on (w := W0.drew) HK0.out b1
  obtain ⟨m0, m1, _⟩ := box2_cells (box_out hk1 o2 (by omega))
  refine hK.out _ _ ⟨m0, m1⟩ (fun _ => ?_)
  clear hK K
  refine ⟨by kernel_rfl, NoPanic.normal ?_⟩
  go_wp2
  go_end0
  have hb1 : Below w.heap.size w w1 := Below.comp (Below.drew HW.out) b1
  have s0 : w.heap.size ≤ W0.drew.heap.size := HW.out.size
  have el : (P ++ [g]).length = P.length + 1 := by simp
  have hle : o + 1 ≤ W0.drew.heap.size := by omega
  have s2 : w1.heap.size ≤ w2.heap.size := o2.size
  have mx2 : Mine w2 W0.drew.heap.size w1.heap.size 9 L.length x1 (strs L.length (gt L)) := Mine.out mx1 o2 (.inr hle)
  have mx3 : MineT w2 w.heap.size w2.heap.size x1 L := Mine.mono mx2 s0 s2
  have my2 : Mine w2 W0.drew.heap.size w1.heap.size 63 (P.length + 1) y1 (wrts (P.length + 1) (setT (Tl P) P.length g.s) (setU (Ul P) P.length g.d)) := Mine.out my1 o2 (.inr hle)
  have my3 : MineW w2 w.heap.size w2.heap.size y1 (P ++ [g]) := mineW_snoc (Mine.mono my2 s0 s2)
  have oF : Out o (o + 1) w w2 := (Out.of_below hb1).trans o2
  have hB3 : OB w2 o (.slice x1 L.length cx1) (.slice y1 (P ++ [g]).length cy1) V q := by rw [el]; exact hB2
  exact ⟨rfl, oF, x1, cx1, y1, cy1, hB3, mx3, my3⟩

set_option maxRecDepth 20000 in
set_option maxHeartbeats 1600000 in
theorem write_no (o : Nat) (x y : Option Addr) (cx cy : Nat) (L : List ByteArray) (P : List Wr) (g : Wr) (V : Value) (q : Int) (w : World) (hg : gdD L P = true) (hf : fitB L.length g.s g.d = true) (h60 : P.length = 60) (a : Addr) (hS : Sn w a) (hB : OB w o (.slice x L.length cx) (.slice y P.length cy) V q) (hx : RowT w x L) (hy : RowW w y P) :
    Calls Tryd.prog 68 #[.pointer (some ⟨o, 0, none⟩), .agg #[.int .i64 g.s, .string g.d]] w fun e w' => e = giveUp a ∧ Below w.heap.size w w' := by
  obtain ⟨g1, g2, g3, g4, g5⟩ := gdD_parts hg
  obtain ⟨W0, hW0⟩ : ∃ W0, w.alloc (.cells #[.int .i64 g.s, .string g.d] 63) = W0 := ⟨_, rfl⟩
  have b0 : Below w.heap.size w W0 := by subst hW0; exact below_alloc _ _
  have k0 : W0.heap[w.heap.size]? = some (.cells #[.int .i64 g.s, .string g.d] 63 (0, 0)) := by subst hW0; exact al1 _ _
  have cF : Hid (∀ W, Below w.heap.size w W → Calls Tryd.prog 93 #[.agg #[.slice x L.length cx, .slice y P.length cy], .agg #[.int .i64 g.s, .string g.d]] W fun e w' => DevRes W w' e 0 0 false (gt L) (setT (Tl P) P.length g.s) (setU (Ul P) P.length g.d)) := fun W hb => by
    have := implWrite_any x y L.length P.length cx cy (gt L) (Tl P) (Ul P) g.s g.d W (by omega) (by omega) (At.below hx hb) (At2.below hy hb) (fewT_8 g4) (few_8 g5) (by rw [(fitB_spec hf).2.2]; decide)
    unfold wrN wrM at this
    rw [wr_no h60] at this
    exact this
  have hlt := box_lt hB
  have hB0 := box_on hB b0
  obtain ⟨c0, c1, c2, c3⟩ := box4_cells hB0
  obtain ⟨e0, e1, _⟩ := box2_cells k0
  have HB0 : Hid (OB W0 o (.slice x L.length cx) (.slice y P.length cy) V q) := hB0
  have HW : Hid (Below w.heap.size w W0) := b0
  have HK0 : Hid (W0.heap[w.heap.size]? = some (.cells #[.int .i64 g.s, .string g.d] 63 (0, 0))) := k0
  clear g1 g2 g3 g4 g5 hB0 k0 b0 h60
  go_enter Tryd.func68, Tryd.ntmps68
  go_wp2
  refine wp_region_may [{ v := .iface 117 (.pointer (some a)), recovered := false }] (fun W' => Below w.heap.size w W') (fun a' W' hd hW => ⟨hd, rfl, hW⟩) ?_
  refine wp_region_L (fun W => W.cell? ⟨w.heap.size, 0, none⟩ = some (.int .i64 g.s) ∧ W.cell? ⟨w.heap.size, 1, none⟩ = some (.string g.d)) 10 10 (by kernel_rfl) rfl ⟨e0, e1⟩ (fun hS0 => ?_)
  refine tkL (i := 0) (d := 4) (v := ?_) rfl rfl (by kernel_rfl) (by kernel_rfl) (by kernel_rfl) (by kernel_rfl) (fun _ _ _ h => h) (Or.inl ⟨by rfl, by intro wq hSq; obtain ⟨hq1, hq2⟩ := hSq; go_simp; try with_reducible rfl⟩) (by assumption) ?_
  simp only [List.setIfInBounds_toArray, List.set_cons_zero, List.set_cons_succ]
  refine tkL (i := 1) (d := 5) (v := ?_) rfl rfl (by kernel_rfl) (by kernel_rfl) (by kernel_rfl) (by kernel_rfl) (fun _ _ _ h => h) (Or.inl ⟨by rfl, by intro wq hSq; obtain ⟨hq1, hq2⟩ := hSq; go_simp; try with_reducible rfl⟩) (by assumption) ?_
  simp only [List.setIfInBounds_toArray, List.set_cons_zero, List.set_cons_succ]
  refine tkL (i := 2) (d := 6) (v := ?_) rfl rfl (by kernel_rfl) (by kernel_rfl) (by kernel_rfl) (by kernel_rfl) (fun _ _ _ h => h) (Or.inl ⟨by rfl, by intro wq hSq; obtain ⟨hq1, hq2⟩ := hSq; go_simp; try with_reducible rfl⟩) (by assumption) ?_
  simp only [List.setIfInBounds_toArray, List.set_cons_zero, List.set_cons_succ]
  refine tkL (i := 3) (d := 7) (v := ?_) rfl rfl (by kernel_rfl) (by kernel_rfl) (by kernel_rfl) (by kernel_rfl) (fun _ _ _ h => h) (Or.inl ⟨by rfl, by intro wq hSq; obtain ⟨hq1, hq2⟩ := hSq; go_simp; try with_reducible rfl⟩) (by assumption) ?_
  simp only [List.setIfInBounds_toArray, List.set_cons_zero, List.set_cons_succ]
  refine tkL (i := 5) (d := 9) (v := ?_) rfl rfl (by kernel_rfl) (by kernel_rfl) (by kernel_rfl) (by kernel_rfl) (fun _ _ _ h => h) (Or.inl ⟨by rfl, by intro wq hSq; obtain ⟨hq1, hq2⟩ := hSq; go_simp; try with_reducible rfl⟩) (by assumption) ?_
  simp only [List.setIfInBounds_toArray, List.set_cons_zero, List.set_cons_succ]
  have c0' : W0.drew.cell? ⟨o, 0, none⟩ = some (.slice x L.length cx) := c0
  have c1' : W0.drew.cell? ⟨o, 1, none⟩ = some (.slice y P.length cy) := c1
  refine oneL (i := 4) rfl (by kernel_rfl) (fun K hK => ?_)
  go_simp
  refine hK.out _ _ hS0 (fun _ => ?_)
  clear hK K
  refine oneL (i := 6) rfl (by kernel_rfl) (fun K hK => ?_)
  go_simp
  refine (cF.out _ (Below.drew HW.out)).mono ?_
  rintro e w1 ⟨b1, x1, cx1, y1, cy1, rfl, mx1, my1⟩
  have n0 := cell_on (w := W0.drew) e0 b1
  have n1 := cell_on (w := W0.drew) e1 b1
  refine hK.out _ _ ⟨n0, n1⟩ (fun hS1 => ?_)
  clear hK K
  refine tkL (i := 7) (d := 11) (v := ?_) rfl rfl (by kernel_rfl) (by kernel_rfl) (by kernel_rfl) (by kernel_rfl) (fun _ _ _ h => h) (Or.inl ⟨by rfl, by intro wq hSq; obtain ⟨hq1, hq2⟩ := hSq; go_simp; try with_reducible rfl⟩) (by assumption) ?_
  simp only [List.setIfInBounds_toArray, List.set_cons_zero, List.set_cons_succ]
  refine oneL (i := 8) rfl (by kernel_rfl) (fun K hK => ?_)
  go_simp
  refine hK.out _ _ hS1 (fun _ => ?_)
  clear hK K
  refine oneL (i := 9) rfl (by kernel_rfl) (fun K hK => ?_)
  go_simp
  have hb1 : Below w.heap.size w w1 := Below.comp (Below.drew HW.out) b1
  refine (take_no 0 _ _ _ a (Sn.on hS hb1)).mono ?_
  rintro e w2 ⟨rfl, b2⟩
  exact ⟨rfl, rfl, Below.comp hb1 b2⟩
end Go.Proofs.YtmijalmihfgolaaDoor
