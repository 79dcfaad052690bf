import Derived.Test.YtienhdlhlddemaaE7
/- The program: a cow that is opened. -/
namespace Go.Proofs.Ytienhdlhlddemaa.Hd
theorem gI_few {c : Co} (h : few c = false) : gI c = false := by unfold gI; rw [h]; rfl
end Go.Proofs.Ytienhdlhlddemaa.Hd
namespace Go.Proofs.Ytienhdlhlddemaa
open Go.ChangeShapes Go.WideShapes Go.ChangeAt Go.RowKit
set_option linter.unusedVariables false
open Hd

attribute [local go_sem] Oper.semAt_some

abbrev Z64 : Obj := .cells #[.slice none 0 0, .slice none 0 0, .slice none 0 0, .int .i64 0] 47
/-- An open cow behind a mark, whose roots lie in a row of their own. -/
def OpOwn (B : Nat) (w : World) (v : Value) (c : Co) : Prop :=
  ∃ a ka b kb gr, v = ov a c.cs.length ka b c.cs.length kb (some ⟨gr, 0, none⟩) c.rs.length c.rs.length c.lv ∧ c.cs.length ≤ ka ∧ c.cs.length ≤ kb ∧ B ≤ gr ∧ Row w gr c.rs ∧ ∀ W, Out gr (gr + 1) w W → Cws W a c.cs ∧ Ints W b (c.cs.map (·.ct))
/-- The form of an open cow. -/
def OpF (v : Value) : Prop := ∃ a n k b n' k' c n'' k'' lv, v = ov a n k b n' k' c n'' k'' lv
/-- The zero open cow. -/
abbrev zv : Value := .agg #[.slice none 0 0, .slice none 0 0, .slice none 0 0, .int .i64 0]
theorem opF0 : OpF (.agg #[.slice none 0 0, .slice none 0 0, .slice none 0 0, .int .i64 0]) := ⟨_, _, _, _, _, _, _, _, _, _, rfl⟩
/-- What is told of a cow that is opened. -/
def OpenR (c : Co) (rq : List Int) (w : World) (e : Ending) (w' : World) : Prop :=
  Below w.heap.size w w' ∧ ∃ v, e = .returned (.tuple #[v, .bool (gI c && rq.all (inB c.rs.length))]) ∧ OpF v ∧ ((gI c && rq.all (inB c.rs.length)) = false → v = zv) ∧ ((gI c && rq.all (inB c.rs.length)) = true → OpOwn w.heap.size w' v c)
theorem box4_out (w : World) (b : Nat) (x0 x1 x2 x3 : Value) : Out b (b + 1) w ((((w.setCell ⟨b, 0, none⟩ x0).setCell ⟨b, 1, none⟩ x1).setCell ⟨b, 2, none⟩ x2).setCell ⟨b, 3, none⟩ x3) :=
  ((((Out.refl _ _ _).setCell (Nat.le_refl _) (Nat.lt_succ_self _) _ _).setCell (Nat.le_refl _) (Nat.lt_succ_self _) _ _).setCell (Nat.le_refl _) (Nat.lt_succ_self _) _ _).setCell (Nat.le_refl _) (Nat.lt_succ_self _) _ _
set_option maxHeartbeats 2000000 in
set_option maxRecDepth 20000 in
theorem opened_no (v : Value) (c : Co) (rq : List Int) (b : Option Addr) (cap : Nat) (w : World) (hc : CowAt w v c) (hf : FewW c) (h : few c = false) :
    Calls Try.prog 21 #[v, .slice b rq.length cap] w (OpenR c rq w) := by
  obtain ⟨a, ca, a', ca', rfl, -, -, -, -⟩ := hc
  have hf1 := hf.1.1
  have hf2 := hf.2
  have hg := gI_few h
  have HG : Hid (∀ w' v, Below w.heap.size w w' → OpF v → v = zv → OpenR c rq w (.returned (.tuple #[v, .bool false])) w') := fun w' v h1 hF hz => by
    have e0 : (gI c && rq.all (inB c.rs.length)) = false := by rw [hg]; rfl
    exact ⟨h1, v, by rw [e0], hF, fun _ => hz, fun h => by rw [e0] at h; cases h⟩
  have hno : ¬ ((1 ≤ c.lv ∧ c.lv ≤ 3) ∧ c.cs.length ≤ 80 ∧ (1 ≤ c.rs.length ∧ c.rs.length ≤ 8)) := fun h1 => by
    rw [few_yes h1.1 h1.2.1 h1.2.2] at h
    cases h
  clear hf h hg
  generalize OpenR c rq w = Q at *
  generalize c.cs.length = n at *
  generalize c.rs.length = m at *
  generalize c.lv = lv at *
  generalize rq.length = r at *
  obtain ⟨W0, hW0⟩ : ∃ W0, (w.alloc (.cells #[.slice a n ca, .slice a' m ca', .int .i64 lv] 29)).alloc Z64 = W0 := ⟨_, rfl⟩
  have q0 : Below w.heap.size w W0 := by subst hW0; exact ba2 _ _ _
  obtain ⟨B1, B2⟩ : W0.heap[w.heap.size]? = some (.cells #[.slice a n ca, .slice a' m ca', .int .i64 lv] 29 (0, 0)) ∧ W0.heap[w.heap.size + 1]? = some (.cells #[.slice none 0 0, .slice none 0 0, .slice none 0 0, .int .i64 0] 47 (0, 0)) := by subst hW0; exact al2 _ _ _
  obtain ⟨i0, i1, i2⟩ := box3_one B1
  obtain ⟨⟨j0, j1, j2, j3⟩, g0, g1, g2, g3⟩ := box4_cells B2
  have HB : Hid _ := B2
  clear B1 B2
  obtain ⟨W3, hW3⟩ : ∃ W3, (((W0.setCell ⟨w.heap.size + 1, 0, none⟩ (.slice none 0 0)).setCell ⟨w.heap.size + 1, 1, none⟩ (.slice none 0 0)).setCell ⟨w.heap.size + 1, 2, none⟩ (.slice none 0 0)).setCell ⟨w.heap.size + 1, 3, none⟩ (.int .i64 0) = W3 := ⟨_, rfl⟩
  have R : W3.heap[w.heap.size + 1]? = some (.cells #[.slice none 0 0, .slice none 0 0, .slice none 0 0, .int .i64 0] 47 (0, 0)) := by subst hW3; exact box4_set HB.out
  have o3 : Below w.heap.size w W3 := by subst hW3; exact q0.trans (((box4_out _ _ _ _ _ _).below (by have := box_lt HB.out; omega)).mono (by omega))
  obtain ⟨t0, t1, t2, t3⟩ := (box4_cells R).1
  have HT : Hid _ := And.intro t0 (And.intro t1 (And.intro t2 t3))
  clear t0 t1 t2 t3 R
  unfold kv
  by_cases h1 : lv < 1
  · clear hno
    go_enter Try.func21, Try.ntmps21
    go_wp2
    obtain ⟨t0, t1, t2, t3⟩ := HT.out
    exact bodyPost_ret (v := .tuple #[.agg #[.slice none 0 0, .slice none 0 0, .slice none 0 0, .int .i64 0], .bool false]) (by simp [results, Try.results21, go_sem, t0, t1, t2, t3]) rfl (HG.out _ _ o3 opF0 rfl)
  · have h1' : decide (lv < 1) = false := by simp; omega
    by_cases h2 : 3 < lv
    · clear hno
      go_enter Try.func21, Try.ntmps21
      go_wp2
      obtain ⟨t0, t1, t2, t3⟩ := HT.out
      exact bodyPost_ret (v := .tuple #[.agg #[.slice none 0 0, .slice none 0 0, .slice none 0 0, .int .i64 0], .bool false]) (by simp [results, Try.results21, go_sem, t0, t1, t2, t3]) rfl (HG.out _ _ o3 opF0 rfl)
    · have h2' : decide (3 < lv) = false := by simp; omega
      have hfn : (decide (n ≤ 80) && (decide (1 ≤ m) && decide (m ≤ 8))) = false := by
        rw [Bool.eq_false_iff]
        intro e
        simp at e
        exact hno ⟨⟨by omega, by omega⟩, e.1, e.2⟩
      have cF := fun W => few_any n m W
      rw [hfn] at cF
      clear hno hfn
      go_enter Try.func21, Try.ntmps21
      go_wp2_with fail
      refine (cF _).mono ?_
      rintro e w1 ⟨rfl, hw⟩
      have hw' := hw.symm
      subst hw'
      clear hw
      go_wp2_with fail
      obtain ⟨t0, t1, t2, t3⟩ := HT.out
      exact bodyPost_ret (v := .tuple #[.agg #[.slice none 0 0, .slice none 0 0, .slice none 0 0, .int .i64 0], .bool false]) (by simp [results, Try.results21, go_sem, t0, t1, t2, t3]) rfl (HG.out _ _ o3 opF0 rfl)
end Go.Proofs.Ytienhdlhlddemaa
