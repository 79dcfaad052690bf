import Derived.Test.YtgapplfnlndckaaL2
/- Buddies that are made. -/
namespace Go.Proofs.Ytgapplfnlndckaa
open Go.ChangeShapes Go.WideShapes Go.ChangeAt Go.RowKit
set_option linter.unusedVariables false
open Room

attribute [local go_sem] Oper.semAt_some

def FreeAt (B : Nat) (w' : World) (v : Value) (b : Int) (l s : List Ex) : Prop :=
  ∃ x c x' c' M, v = fv b x l.length c x' s.length c' ∧ B ≤ M ∧ M ≤ w'.heap.size ∧ Own w' B M x l ∧ Own w' M w'.heap.size x' s
theorem FreeAt.nil {B : Nat} {w' : World} (h : B ≤ w'.heap.size) : FreeAt B w' (fv 0 none 0 0 none 0 0) 0 [] [] :=
  ⟨none, 0, none, 0, B, rfl, Nat.le_refl _, h, .inl rfl, .inl rfl⟩
theorem FreeAt.mono {B B' : Nat} {w' : World} {v : Value} {b : Int} {l s : List Ex} (h : FreeAt B w' v b l s) (hB : B' ≤ B) : FreeAt B' w' v b l s := by
  obtain ⟨x, c, x', c', M, rfl, h1, h2, h3, h4⟩ := h
  exact ⟨x, c, x', c', M, rfl, by omega, h2, h3.mono hB (Nat.le_refl _), h4⟩
theorem FreeAt.below {B : Nat} {w w' : World} {v : Value} {b : Int} {l s : List Ex} (h : FreeAt B w v b l s) (hb : Below w.heap.size w w') : FreeAt B w' v b l s := by
  obtain ⟨x, c, x', c', M, rfl, h1, h2, h3, h4⟩ := h
  exact ⟨x, c, x', c', M, rfl, h1, Nat.le_trans h2 hb.size, h3.below hb, (h4.below hb).mono (Nat.le_refl _) hb.size⟩
theorem FreeAt.out {B C D : Nat} {w w' : World} {v : Value} {b : Int} {l s : List Ex} (h : FreeAt B w v b l s) (ho : Out C D w w') (hd : D ≤ B) : FreeAt B w' v b l s := by
  obtain ⟨x, c, x', c', M, rfl, h1, h2, h3, h4⟩ := h
  exact ⟨x, c, x', c', M, rfl, h1, Nat.le_trans h2 ho.size, h3.out ho (.inr hd), (h4.out ho (.inr (Nat.le_trans hd h1))).mono (Nat.le_refl _) ho.size⟩

theorem box3_out (w : World) (D : Nat) (u0 u1 u2 : Value) : Out D (D + 1) w (((w.setCell ⟨D, 0, none⟩ u0).setCell ⟨D, 1, none⟩ u1).setCell ⟨D, 2, none⟩ u2) :=
  (((Out.refl _ _ _).setCell (Nat.le_refl _) (Nat.lt_succ_self _) _ _).setCell (Nat.le_refl _) (Nat.lt_succ_self _) _ _).setCell (Nat.le_refl _) (Nat.lt_succ_self _) _ _
theorem exs_one {w : World} {g : Nat} {p q : Int} {t : TypeId} (h : w.heap[g]? = some (.cells #[.int .i64 p, .int .i64 q] t (0, 0))) : Exs w (some ⟨g, 0, none⟩) [(p, q)] := by
  obtain ⟨h0, h1, -, -⟩ := box2_cells h
  intro _
  refine ⟨g, 0, rfl, fun i hi => ?_⟩
  obtain rfl : i = 0 := by simp at hi; exact hi
  exact ⟨by simpa [gx] using h0, by simpa [gx] using h1⟩
theorem own_one {w : World} {g B C : Nat} {p q : Int} (h : w.heap[g]? = some (.cells #[.int .i64 p, .int .i64 q] 43 (0, 0))) (hB : B ≤ g) (hC : g < C) : Own w B C (some ⟨g, 0, none⟩) [(p, q)] :=
  .inr ⟨g, _, hB, hC, rfl, h, fun i hi => by
    obtain rfl : i = 0 := by simp at hi; exact hi
    exact ⟨rfl, rfl⟩⟩
/-- What NewBuddy answers. -/
def newL (n : Int) : List Ex := if 0 ≤ n ∧ n ≤ 8 then [(0, n)] else []
def newU (n : Int) : List Ex := []
def newB (n : Int) : Int := if 0 ≤ n ∧ n ≤ 8 then n else 0
def newO (n : Int) : Bool := decide (0 ≤ n ∧ n ≤ 8)
set_option maxHeartbeats 1000000 in
theorem specNew_any (n : Int) (w : World) :
    Calls Try.prog 10 #[.int .i64 n] w fun e w' => Below w.heap.size w w' ∧ ∃ v, e = .returned (.tuple #[v, .bool (newO n)]) ∧ FreeAt w.heap.size w' v (newB n) (newL n) (newU n) := by
  have c46 := fun W => l1In_any n 0 8 W
  by_cases h : 0 ≤ n ∧ n ≤ 8
  · have e1 : (decide (0 ≤ n) && decide (n ≤ 8)) = true := by simp; omega
    rw [show newO n = true from decide_eq_true h, show newB n = n from if_pos h, show newL n = [(0, n)] from if_pos h, show newU n = [] from rfl]
    obtain ⟨h1, h2⟩ := h
    have d1 : ¬ n < 0 := by omega
    have d2 : ¬ 8 < n := by omega
    rw [e1] at c46
    clear e1
    go_enter Try.func10, Try.ntmps10
    go_wp2_with (go_at_call 31; refine (c46 _).mono ?_; rintro e w1 ⟨rfl, rfl⟩)
    obtain ⟨W, hW⟩ : ∃ W, (w.alloc (.cells #[.int .i64 n, .slice (some ⟨w.heap.size + 1, 0, none⟩) 1 1, .slice none 0 0] 24)).alloc (.cells #[.int .i64 0, .int .i64 n] 43) = W := ⟨_, rfl⟩
    have g0 : Below w.heap.size w W := by subst hW; exact ba2 _ _ _
    obtain ⟨B1, B2⟩ : W.heap[w.heap.size]? = some (.cells #[.int .i64 n, .slice (some ⟨w.heap.size + 1, 0, none⟩) 1 1, .slice none 0 0] 24 (0, 0)) ∧ W.heap[w.heap.size + 1]? = some (.cells #[.int .i64 0, .int .i64 n] 43 (0, 0)) := by subst hW; exact al2 _ _ _
    rw [hW]
    clear hW
    obtain ⟨t0, t1, t2, -, -, -⟩ := box3_cells B1
    have z2 := box_lt B2
    refine bodyPost_ret (v := .tuple #[fv n (some ⟨w.heap.size + 1, 0, none⟩) 1 1 none 0 0, .bool true]) (by simp [results, Try.results10, go_sem, t0, t1, t2]) rfl ?_
    exact ⟨g0, _, rfl, _, _, _, _, w.heap.size + 1 + 1, rfl, by omega, by omega, own_one B2 (by omega) (by omega), .inl rfl⟩
  · have e1 : (decide (0 ≤ n) && decide (n ≤ 8)) = false := by
      simp only [Bool.and_eq_false_iff, decide_eq_false_iff_not]
      omega
    rw [show newO n = false from decide_eq_false h, show newB n = 0 from if_neg h, show newL n = [] from if_neg h, show newU n = [] from rfl]
    rw [e1] at c46
    clear e1
    go_enter Try.func10, Try.ntmps10
    go_wp2_with (go_at_call 31; refine (c46 _).mono ?_; rintro e w1 ⟨rfl, rfl⟩)
    refine bodyPost_ret (v := .tuple #[fv 0 none 0 0 none 0 0, .bool false]) (by simp [results, Try.results10, go_sem]) rfl ?_
    exact ⟨below_alloc _ _, _, rfl, FreeAt.nil (below_alloc _ _).size⟩
set_option maxHeartbeats 1000000 in
theorem implNew_any (n : Int) (w : World) :
    Calls Try.prog 11 #[.int .i64 n] w fun e w' => Below w.heap.size w w' ∧ ∃ v, e = .returned (.tuple #[v, .bool (newO n)]) ∧ FreeAt w.heap.size w' v (newB n) (newL n) (newU n) := by
  by_cases h : 0 ≤ n ∧ n ≤ 8
  · have e1 : (decide (0 ≤ n) && decide (n ≤ 8)) = true := by simp; omega
    rw [show newO n = true from decide_eq_true h, show newB n = n from if_pos h, show newL n = [(0, n)] from if_pos h, show newU n = [] from rfl]
    obtain ⟨h1, h2⟩ := h
    have d1 : ¬ n < 0 := by omega
    have d2 : ¬ 8 < n := by omega
    skip
    clear e1
    go_enter Try.func11, Try.ntmps11
    go_wp2
    obtain ⟨W, hW⟩ : ∃ W, (w.alloc (.cells #[.int .i64 n, .slice (some ⟨w.heap.size + 1, 0, none⟩) 1 1, .slice none 0 0] 24)).alloc (.cells #[.int .i64 0, .int .i64 n] 43) = W := ⟨_, rfl⟩
    have g0 : Below w.heap.size w W := by subst hW; exact ba2 _ _ _
    obtain ⟨B1, B2⟩ : W.heap[w.heap.size]? = some (.cells #[.int .i64 n, .slice (some ⟨w.heap.size + 1, 0, none⟩) 1 1, .slice none 0 0] 24 (0, 0)) ∧ W.heap[w.heap.size + 1]? = some (.cells #[.int .i64 0, .int .i64 n] 43 (0, 0)) := by subst hW; exact al2 _ _ _
    rw [hW]
    clear hW
    obtain ⟨t0, t1, t2, -, -, -⟩ := box3_cells B1
    have z2 := box_lt B2
    refine bodyPost_ret (v := .tuple #[fv n (some ⟨w.heap.size + 1, 0, none⟩) 1 1 none 0 0, .bool true]) (by simp [results, Try.results11, go_sem, t0, t1, t2]) rfl ?_
    exact ⟨g0, _, rfl, _, _, _, _, w.heap.size + 1 + 1, rfl, by omega, by omega, own_one B2 (by omega) (by omega), .inl rfl⟩
  · have e1 : (decide (0 ≤ n) && decide (n ≤ 8)) = false := by
      simp only [Bool.and_eq_false_iff, decide_eq_false_iff_not]
      omega
    rw [show newO n = false from decide_eq_false h, show newB n = 0 from if_neg h, show newL n = [] from if_neg h, show newU n = [] from rfl]
    skip
    clear e1
    by_cases d1 : n < 0
    · go_enter Try.func11, Try.ntmps11
      go_wp2
      refine bodyPost_ret (v := .tuple #[fv 0 none 0 0 none 0 0, .bool false]) (by simp [results, Try.results11, go_sem]) rfl ?_
      exact ⟨below_alloc _ _, _, rfl, FreeAt.nil (below_alloc _ _).size⟩
    · have d2 : 8 < n := by omega
      go_enter Try.func11, Try.ntmps11
      go_wp2
      refine bodyPost_ret (v := .tuple #[fv 0 none 0 0 none 0 0, .bool false]) (by simp [results, Try.results11, go_sem]) rfl ?_
      exact ⟨below_alloc _ _, _, rfl, FreeAt.nil (below_alloc _ _).size⟩
end Go.Proofs.Ytgapplfnlndckaa
