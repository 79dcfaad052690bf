import Derived.Test.YtciaplnofejcjaaG5
/- Free room that is made: all free. -/
namespace Go.Proofs.Ytciaplnofejcjaa
open Go.ChangeShapes Go.WideShapes Go.ChangeAt Go.RowKit
set_option linter.unusedVariables false
open Room

attribute [local go_sem] Oper.semAt_some

/-- Free room whose two rows were made between two worlds. -/
def FreeAt (B : Nat) (w' : World) (v : Value) (b : Int) (l s : List Ex) : Prop :=
  ∃ x c x' c' M, v = fv b x l.length c x' s.length c' ∧ B ≤ M ∧ M ≤ w'.heap.size ∧ Own w' B M x l ∧ Own w' M w'.heap.size x' s
theorem FreeAt.nil {B : Nat} {w' : World} (h : B ≤ w'.heap.size) : FreeAt B w' (fv 0 none 0 0 none 0 0) 0 [] [] :=
  ⟨none, 0, none, 0, B, rfl, Nat.le_refl _, h, .inl rfl, .inl rfl⟩
theorem FreeAt.mono {B B' : Nat} {w' : World} {v : Value} {b : Int} {l s : List Ex} (h : FreeAt B w' v b l s) (hB : B' ≤ B) : FreeAt B' w' v b l s := by
  obtain ⟨x, c, x', c', M, rfl, h1, h2, h3, h4⟩ := h
  exact ⟨x, c, x', c', M, rfl, by omega, h2, h3.mono hB (Nat.le_refl _), h4⟩
theorem FreeAt.below {B : Nat} {w w' : World} {v : Value} {b : Int} {l s : List Ex} (h : FreeAt B w v b l s) (hb : Below w.heap.size w w') : FreeAt B w' v b l s := by
  obtain ⟨x, c, x', c', M, rfl, h1, h2, h3, h4⟩ := h
  exact ⟨x, c, x', c', M, rfl, h1, Nat.le_trans h2 hb.size, h3.below hb, (h4.below hb).mono (Nat.le_refl _) hb.size⟩
theorem FreeAt.out {B C D : Nat} {w w' : World} {v : Value} {b : Int} {l s : List Ex} (h : FreeAt B w v b l s) (ho : Out C D w w') (hd : D ≤ B) : FreeAt B w' v b l s := by
  obtain ⟨x, c, x', c', M, rfl, h1, h2, h3, h4⟩ := h
  exact ⟨x, c, x', c', M, rfl, h1, Nat.le_trans h2 ho.size, h3.out ho (.inr hd), (h4.out ho (.inr (Nat.le_trans hd h1))).mono (Nat.le_refl _) ho.size⟩

set_option maxHeartbeats 1000000 in
theorem l5Of_any (b : Int) (a : Option Addr) (ca : Nat) (l : List Ex) (w : World) (hn : l.length ≤ 1000) (ha : Exs w a l) :
    Calls Try.prog 48 #[.int .i64 b, .slice a l.length ca] w fun e w' => Below w.heap.size w w' ∧ ∃ v, e = .returned v ∧ FreeAt w.heap.size w' v b l (srt l) := by
  obtain ⟨D, hD⟩ : ∃ D, w.heap.size = D := ⟨_, rfl⟩
  obtain ⟨W0, hW0⟩ : ∃ W0, (w.alloc (.cells #[.int .i64 0, .slice none 0 0, .slice none 0 0] 25)).alloc (.cells #[] 31) = W0 := ⟨_, rfl⟩
  have g0 : Below w.heap.size w W0 := by subst hW0; exact ba2 _ _ _
  obtain ⟨B1, B2⟩ : W0.heap[D]? = some (.cells #[.int .i64 0, .slice none 0 0, .slice none 0 0] 25 (0, 0)) ∧ W0.heap[D + 1]? = some (.cells #[] 31 (0, 0)) := by subst hW0 hD; exact al2 _ _ _
  have HB : Hid (W0.heap[D]? = _) := B1
  have own0 : OwnR W0 (D + 1) (.slice (some ⟨D + 1, 0, none⟩) 0 0) [] := ⟨rfl, .inr ⟨D + 1, 0, #[], rfl, Nat.le_refl _, B2, Nat.le_refl _, by decide, rfl, rfl⟩⟩
  have z0 : D + 1 < W0.heap.size := box_lt B2
  have st := RowX.src (ha.below g0)
  have c64 := fun W h => l5BySize_any a ca l W hn (ha.below h)
  have hll : (srt l).length = l.length := len_srt
  have Hll : Hid _ := hll
  have hcl : Hid ((cxs l).length = l.length * 2) := cxs_len l
  clear B1 B2 hll
  go_enter Try.func48, Try.ntmps48
  go_wp2_with (first
    | (at_builtin; refine wpList_append_src rfl _ _ 23 rfl (D + 1) 31 _ 2 16 Try.underlying23 info31 rfl (by decide) (.slice (some ⟨D + 1, 0, none⟩) 0 0) 0 [] rfl own0 a l.length ca (cxs l) rfl hcl.out st (cxs_one _) (by omega) (by decide) (by omega) ?_; intro v1 w1 own1 gr1; rw [Nat.zero_add, List.nil_append] at own1; obtain ⟨x1, c1, e1⟩ := owns_form own1; subst e1; have b1 : Below (D + 1) W0 w1 := Grown.below gr1 (by omega) (owns_ge own0); have z1 := gr1.size; have HO1 : Hid (OwnR w1 (D + 1) (.slice x1 l.length c1) l) := own1; have g1 : Below w.heap.size w w1 := g0.trans (b1.mono (by omega)); clear own1 gr1 own0 st)
    | (go_at_call 64; refine (c64 _ g1).mono ?_; rintro e w2 ⟨b2, x2, c2, rfl, m2⟩; have HB2 : Hid (w2.heap[D]? = some (.cells #[.int .i64 0, .slice none 0 0, .slice none 0 0] 25 (0, 0))) := box_on ((b1.block D (by omega)).trans HB.out) b2; obtain ⟨r0, r1, r2, q0, q1, q2⟩ := box3_cells HB2.out))
  obtain ⟨W3, hW3⟩ : ∃ W3, ((w2.setCell ⟨D, 0, none⟩ (.int .i64 b)).setCell ⟨D, 1, none⟩ (.slice x1 l.length c1)).setCell ⟨D, 2, none⟩ (.slice x2 l.length c2) = W3 := ⟨_, rfl⟩
  have o3 : Out D (D + 1) w2 W3 := by
    subst hW3
    exact (((Out.refl _ _ _).setCell (by omega) (by omega) _ _).setCell (by omega) (by omega) _ _).setCell (by omega) (by omega) _ _
  have R : W3.heap[D]? = some (.cells #[.int .i64 b, .slice x1 l.length c1, .slice x2 l.length c2] 25 (0, 0)) := by
    subst hW3
    exact box3_set HB2.out
  rw [hW3]
  clear hW3 r0 r1 r2 q0 q1 q2
  obtain ⟨t0, t1, t2, -, -, -⟩ := box3_cells R
  have z2 := b2.size
  have z3 := o3.size
  have mA : MineX w1 (D + 1) w1.heap.size x1 l.length (gx l) := HO1.out.own.1
  refine bodyPost_ret (v := fv b x1 l.length c1 x2 l.length c2) (by simp [results, Try.results48, go_sem, t0, t1, t2]) rfl ⟨?_, _, rfl, x1, c1, x2, c2, w1.heap.size, by rw [Hll.out], by omega, by omega, ?_, ?_⟩
  · exact (Below.comp g1 b2).trans ((o3.below (by omega)).mono (by omega))
  · exact ((mA.below b2).out o3 (.inr (Nat.le_refl _))).mono (by omega) (Nat.le_refl _)
  · exact (m2.out o3 (.inr (by omega))).mono (Nat.le_refl _) (by omega)
/-- Three cells of a box stored at once. -/
theorem box3_out (w : World) (D : Nat) (u0 u1 u2 : Value) : Out D (D + 1) w (((w.setCell ⟨D, 0, none⟩ u0).setCell ⟨D, 1, none⟩ u1).setCell ⟨D, 2, none⟩ u2) :=
  (((Out.refl _ _ _).setCell (Nat.le_refl _) (Nat.lt_succ_self _) _ _).setCell (Nat.le_refl _) (Nat.lt_succ_self _) _ _).setCell (Nat.le_refl _) (Nat.lt_succ_self _) _ _
theorem srt_one (x : Ex) : srt [x] = [x] := rfl
theorem exs_one {w : World} {g : Nat} {p q : Int} {t : TypeId} (h : w.heap[g]? = some (.cells #[.int .i64 p, .int .i64 q] t (0, 0))) : Exs w (some ⟨g, 0, none⟩) [(p, q)] := by
  obtain ⟨h0, h1, -, -⟩ := box2_cells h
  intro _
  refine ⟨g, 0, rfl, fun i hi => ?_⟩
  obtain rfl : i = 0 := by simp at hi; exact hi
  exact ⟨by simpa [gx] using h0, by simpa [gx] using h1⟩
theorem own_one {w : World} {g B C : Nat} {p q : Int} (h : w.heap[g]? = some (.cells #[.int .i64 p, .int .i64 q] 31 (0, 0))) (hB : B ≤ g) (hC : g < C) : Own w B C (some ⟨g, 0, none⟩) [(p, q)] :=
  .inr ⟨g, _, hB, hC, rfl, h, fun i hi => by
    obtain rfl : i = 0 := by simp at hi; exact hi
    exact ⟨rfl, rfl⟩⟩
/-- What NewFree answers. -/
def newL (n : Int) : List Ex := if 1 ≤ n ∧ n ≤ 400 then [(0, n)] else []
def newB (n : Int) : Int := if 1 ≤ n ∧ n ≤ 400 then n else 0
def newO (n : Int) : Bool := decide (1 ≤ n ∧ n ≤ 400)
set_option maxHeartbeats 1000000 in
theorem specNew_any (n : Int) (w : World) :
    Calls Try.prog 22 #[.int .i64 n] w fun e w' => Below w.heap.size w w' ∧ ∃ v, e = .returned (.tuple #[v, .bool (newO n)]) ∧ FreeAt w.heap.size w' v (newB n) (newL n) (newL n) := by
  have c46 := fun W => l1In_any n 1 400 W
  by_cases h : 1 ≤ n ∧ n ≤ 400
  · have e1 : (decide (1 ≤ n) && decide (n ≤ 400)) = true := by simp; omega
    rw [show newO n = true from decide_eq_true h, show newB n = n from if_pos h, show newL n = [(0, n)] from if_pos h]
    rw [e1] at c46
    obtain ⟨D, hD⟩ : ∃ D, w.heap.size = D := ⟨_, rfl⟩
    obtain ⟨W0, hW0⟩ : ∃ W0, (w.alloc (.cells #[.int .i64 0, .slice none 0 0, .slice none 0 0] 25)).alloc (.cells #[.int .i64 0, .int .i64 n] 31) = W0 := ⟨_, rfl⟩
    have g0 : Below w.heap.size w W0 := by subst hW0; exact ba2 _ _ _
    obtain ⟨B1, B2⟩ : W0.heap[D]? = some (.cells #[.int .i64 0, .slice none 0 0, .slice none 0 0] 25 (0, 0)) ∧ W0.heap[D + 1]? = some (.cells #[.int .i64 0, .int .i64 n] 31 (0, 0)) := by subst hW0 hD; exact al2 _ _ _
    have HB : Hid (W0.heap[D]? = _) := B1
    have z0 : D + 1 < W0.heap.size := box_lt B2
    have c48 := l5Of_any n (some ⟨D + 1, 0, none⟩) 1 [(0, n)] W0 (by simp) (exs_one B2)
    rw [srt_one, show ([(0, n)] : List Ex).length = 1 from rfl] at c48
    clear B1 B2 e1
    go_enter Try.func22, Try.ntmps22
    go_wp2_with (first
      | (go_at_call 46; refine (c46 _).mono ?_; rintro e w1 ⟨rfl, rfl⟩)
      | (go_at_call 48; refine c48.mono ?_; rintro e w2 ⟨b2, v, rfl, fa⟩; obtain ⟨x1, c1, x2, c2, M, rfl, hM1, hM2, m1, m2⟩ := fa; have HB2 : Hid (w2.heap[D]? = some (.cells #[.int .i64 0, .slice none 0 0, .slice none 0 0] 25 (0, 0))) := box_on HB.out b2; obtain ⟨r0, r1, r2, q0, q1, q2⟩ := box3_cells HB2.out))
    obtain ⟨W3, hW3⟩ : ∃ W3, ((w2.setCell ⟨D, 0, none⟩ (.int .i64 n)).setCell ⟨D, 1, none⟩ (.slice x1 1 c1)).setCell ⟨D, 2, none⟩ (.slice x2 1 c2) = W3 := ⟨_, rfl⟩
    have o3 : Out D (D + 1) w2 W3 := by subst hW3; exact box3_out _ _ _ _ _
    have R : W3.heap[D]? = some (.cells #[.int .i64 n, .slice x1 1 c1, .slice x2 1 c2] 25 (0, 0)) := by subst hW3; exact box3_set HB2.out
    rw [hW3]
    clear hW3 r0 r1 r2 q0 q1 q2
    obtain ⟨t0, t1, t2, -, -, -⟩ := box3_cells R
    refine bodyPost_ret (v := .tuple #[fv n x1 1 c1 x2 1 c2, .bool true]) (by simp [results, Try.results22, go_sem, t0, t1, t2]) rfl ?_
    exact ⟨(Below.comp g0 b2).trans ((o3.below (by have := b2.size; omega)).mono (by omega)), _, rfl, (FreeAt.out (B := W0.heap.size) ⟨x1, c1, x2, c2, M, rfl, hM1, hM2, m1, m2⟩ o3 (by omega)).mono (by omega)⟩
  · have e1 : (decide (1 ≤ n) && decide (n ≤ 400)) = false := by
      simp only [Bool.and_eq_false_iff, decide_eq_false_iff_not]
      omega
    rw [show newO n = false from decide_eq_false h, show newB n = 0 from if_neg h, show newL n = [] from if_neg h]
    rw [e1] at c46
    clear e1
    go_enter Try.func22, Try.ntmps22
    go_wp2_with (go_at_call 46; refine (c46 _).mono ?_; rintro e w1 ⟨rfl, rfl⟩)
    refine bodyPost_ret (v := .tuple #[fv 0 none 0 0 none 0 0, .bool false]) (by simp [results, Try.results22, go_sem]) rfl ?_
    exact ⟨below_alloc _ _, _, rfl, FreeAt.nil (below_alloc _ _).size⟩
set_option maxHeartbeats 1000000 in
theorem implNew_any (n : Int) (w : World) :
    Calls Try.prog 23 #[.int .i64 n] w fun e w' => Below w.heap.size w w' ∧ ∃ v, e = .returned (.tuple #[v, .bool (newO n)]) ∧ FreeAt w.heap.size w' v (newB n) (newL n) (newL n) := by
  by_cases h : 1 ≤ n ∧ n ≤ 400
  · rw [show newO n = true from decide_eq_true h, show newB n = n from if_pos h, show newL n = [(0, n)] from if_pos h]
    obtain ⟨h1, h2⟩ := h
    have d1 : ¬ n < 1 := by omega
    have d2 : ¬ 400 < n := by omega
    go_enter Try.func23, Try.ntmps23
    go_wp2
    obtain ⟨W, hW⟩ : ∃ W, (((w.alloc (.cells #[.int .i64 n, .slice (some ⟨w.heap.size + 1 + 1, 0, none⟩) 1 1, .slice (some ⟨w.heap.size + 1 + 1 + 1, 0, none⟩) 1 1] 25)).alloc (.cells #[.int .i64 0, .int .i64 n] 31)).alloc (.cells #[.int .i64 0, .int .i64 n] 31)).alloc (.cells #[.int .i64 0, .int .i64 n] 31) = W := ⟨_, rfl⟩
    have g0 : Below w.heap.size w W := by subst hW; exact ba4 _ _ _ _ _
    obtain ⟨B1, B2, B3, B4⟩ : W.heap[w.heap.size]? = some (.cells #[.int .i64 n, .slice (some ⟨w.heap.size + 1 + 1, 0, none⟩) 1 1, .slice (some ⟨w.heap.size + 1 + 1 + 1, 0, none⟩) 1 1] 25 (0, 0)) ∧ W.heap[w.heap.size + 1]? = some (.cells #[.int .i64 0, .int .i64 n] 31 (0, 0)) ∧ W.heap[w.heap.size + 1 + 1]? = some (.cells #[.int .i64 0, .int .i64 n] 31 (0, 0)) ∧ W.heap[w.heap.size + 1 + 1 + 1]? = some (.cells #[.int .i64 0, .int .i64 n] 31 (0, 0)) := by subst hW; exact al4 _ _ _ _ _
    rw [hW]
    clear hW
    obtain ⟨t0, t1, t2, -, -, -⟩ := box3_cells B1
    have z4 := box_lt B4
    refine bodyPost_ret (v := .tuple #[fv n (some ⟨w.heap.size + 1 + 1, 0, none⟩) 1 1 (some ⟨w.heap.size + 1 + 1 + 1, 0, none⟩) 1 1, .bool true]) (by simp [results, Try.results23, go_sem, t0, t1, t2]) rfl ?_
    exact ⟨g0, _, rfl, _, _, _, _, w.heap.size + 1 + 1 + 1, rfl, by omega, by omega, own_one B3 (by omega) (by omega), own_one B4 (by omega) (by omega)⟩
  · rw [show newO n = false from decide_eq_false h, show newB n = 0 from if_neg h, show newL n = [] from if_neg h]
    by_cases d1 : n < 1
    · go_enter Try.func23, Try.ntmps23
      go_wp2
      refine bodyPost_ret (v := .tuple #[fv 0 none 0 0 none 0 0, .bool false]) (by simp [results, Try.results23, go_sem]) rfl ?_
      exact ⟨below_alloc _ _, _, rfl, FreeAt.nil (below_alloc _ _).size⟩
    · have d2 : 400 < n := by omega
      go_enter Try.func23, Try.ntmps23
      go_wp2
      refine bodyPost_ret (v := .tuple #[fv 0 none 0 0 none 0 0, .bool false]) (by simp [results, Try.results23, go_sem]) rfl ?_
      exact ⟨below_alloc _ _, _, rfl, FreeAt.nil (below_alloc _ _).size⟩
end Go.Proofs.Ytciaplnofejcjaa
