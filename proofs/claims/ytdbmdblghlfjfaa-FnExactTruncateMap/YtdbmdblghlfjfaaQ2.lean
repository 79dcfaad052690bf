import Derived.Test.YtdbmdblghlfjfaaQ1
/- Both TruncateMaps. -/
namespace Go.Proofs.Ytdbmdblghlfjfaa
open Go.ChangeShapes Go.WideShapes Go.ChangeAt Go.RowKit
set_option linter.unusedVariables false
open Mp

attribute [local go_sem] Oper.semAt_some

set_option maxRecDepth 20000 in
set_option maxHeartbeats 4000000 in
theorem implTrunc_any (a : Option Addr) (c : Nat) (l : List Pc) (t : Int) (G : Bool) (hG : G = true ↔ GM l) (w : World) (hn : l.length ≤ 1048576) (hc : l.length ≤ c) (hf : ∀ p, p ∈ l → Few p) (ht : i64 t) (ha : Pcs w a l) :
    Calls Try.prog 32 #[mv a l.length c, .int .i64 t] w fun e w' => Below w.heap.size w w' ∧ Pun w' w.heap.size e (puM G l t (IntKind.i64.wrap (200 - t))) (puX G l t (IntKind.i64.wrap (200 - t))) (puO G l t (IntKind.i64.wrap (200 - t))) := by
  obtain ⟨D, hD⟩ : ∃ D, w.heap.size = D := ⟨_, rfl⟩
  obtain ⟨W0, hW0⟩ : ∃ W0, (w.alloc (.cells #[.slice a l.length c] 29)).alloc (.cells #[.slice none 0 0] 29) = W0 := ⟨_, rfl⟩
  have q0 : Below w.heap.size w W0 := by subst hW0; exact ba2 _ _ _
  obtain ⟨A1, A2⟩ : W0.heap[D]? = some (.cells #[.slice a l.length c] 29 (0, 0)) ∧ W0.heap[D + 1]? = some (.cells #[.slice none 0 0] 29 (0, 0)) := by subst hW0 hD; exact al2 _ _ _
  have HA : Hid _ := And.intro A1 A2
  have i0 := (box1_cells A1).1
  obtain ⟨i1, i2⟩ := box1_cells A2
  clear A1 A2
  have c1 := implPunch_any a c l t (IntKind.i64.wrap (200 - t)) G hG W0 hn hc hf ht (ha.below q0)
  obtain ⟨d, hd⟩ : ∃ d, IntKind.i64.wrap (200 - t) = d := ⟨_, rfl⟩
  rw [hd] at c1 ⊢
  generalize puM G l t d = LM at *
  generalize puX G l t d = LX at *
  generalize puO G l t d = O at *
  clear hG ha hf
  generalize l.length = n at *
  go_enter Try.func32, Try.ntmps32
  go_wp2_with fail
  refine c1.mono ?_
  rintro e w1 ⟨b1, x, cx, u, cu, M, rfl, h1, h2, m1, m2⟩
  clear hW0 i0 i1 i2
  have HD' : Hid (w1.heap[D + 1]? = some (.cells #[.slice none 0 0] 29 (0, 0))) := box_on HA.out.2 b1
  obtain ⟨y0, y1⟩ := box1_cells HD'.out
  have HM : Hid _ := And.intro m1 m2
  clear m1 m2
  go_wp2_with fail
  obtain ⟨W9, hW9⟩ : ∃ W9, w1.setCell ⟨D + 1, 0, none⟩ (.slice x LM.length cx) = W9 := ⟨_, rfl⟩
  have o9 : Out (D + 1) (D + 1 + 1) w1 W9 := by subst hW9; exact out_setCell _ _ _ _
  have R : W9.heap[D + 1]? = some (.cells #[.slice x LM.length cx] 29 (0, 0)) := by subst hW9; exact (block_set HD'.out).trans rfl
  rw [hW9]
  have t0 := (box1_cells R).1
  have z9 := o9.size
  have g1 := Below.comp q0 b1
  have z1 := g1.size
  have zq := q0.size
  have zD := box_lt HA.out.2
  exact bodyPost_ret (v := .tuple #[mv x LM.length cx, .slice u LX.length cu, .bool O]) (by simp [results, Try.results32, go_sem, t0]) rfl ⟨g1.trans ((o9.below (by omega)).mono (by omega)), x, cx, u, cu, M, rfl, by omega, by omega, Mine.mono (Mine.out HM.out.1 o9 (.inr (by omega))) (by omega) (by omega), Mine.mono (Mine.out HM.out.2 o9 (.inr (by omega))) (by omega) (by omega)⟩
set_option maxRecDepth 20000 in
set_option maxHeartbeats 4000000 in
theorem specTrunc_any (a : Option Addr) (c : Nat) (l : List Pc) (t : Int) (G : Bool) (hG : G = true ↔ GM l) (w : World) (hn : l.length ≤ 1048576) (hc : l.length ≤ c) (ht : i64 t) (ha : Pcs w a l) :
    Calls Try.prog 31 #[mv a l.length c, .int .i64 t] w fun e w' => Below w.heap.size w w' ∧ Pun w' w.heap.size e (puM G l t (IntKind.i64.wrap (200 - t))) (puX G l t (IntKind.i64.wrap (200 - t))) (puO G l t (IntKind.i64.wrap (200 - t))) := by
  obtain ⟨D, hD⟩ : ∃ D, w.heap.size = D := ⟨_, rfl⟩
  obtain ⟨W0, hW0⟩ : ∃ W0, (w.alloc (.cells #[.slice a l.length c] 29)).alloc (.cells #[.slice none 0 0] 29) = W0 := ⟨_, rfl⟩
  have q0 : Below w.heap.size w W0 := by subst hW0; exact ba2 _ _ _
  obtain ⟨A1, A2⟩ : W0.heap[D]? = some (.cells #[.slice a l.length c] 29 (0, 0)) ∧ W0.heap[D + 1]? = some (.cells #[.slice none 0 0] 29 (0, 0)) := by subst hW0 hD; exact al2 _ _ _
  have HA : Hid _ := And.intro A1 A2
  have i0 := (box1_cells A1).1
  obtain ⟨i1, i2⟩ := box1_cells A2
  clear A1 A2
  have c1 := specPunch_any a c l t (IntKind.i64.wrap (200 - t)) G hG W0 hn hc ht (ha.below q0)
  have cl := fun W => l1In_any t 0 200 W
  obtain ⟨v, hv⟩ : ∃ v, (decide (0 ≤ t) && decide (t ≤ 200)) = v := ⟨_, rfl⟩
  rw [hv] at cl
  have HN : Hid (v = false → stB t (IntKind.i64.wrap (200 - t)) = false) := fun h => by
    rw [h] at hv
    cases hs : stB t (IntKind.i64.wrap (200 - t)) with
    | false => rfl
    | true =>
      obtain ⟨s1, s2, s3⟩ := stB_iff.1 hs
      unfold i64 at ht
      rw [wrapI (by omega) (by omega)] at s2
      simp at hv
      omega
  clear hv
  cases v with
  | false =>
    have hs := HN.out rfl
    have e1 : puO G l t (IntKind.i64.wrap (200 - t)) = false := by unfold puO; rw [hs]; simp
    have e2 : puM G l t (IntKind.i64.wrap (200 - t)) = [] := by unfold puM; rw [e1]; rfl
    have e3 : puX G l t (IntKind.i64.wrap (200 - t)) = [] := by unfold puX; rw [e1]; rfl
    rw [e1, e2, e3]
    clear c1 hG ha e1 e2 e3 hs HN
    generalize l.length = n at *
    go_enter Try.func31, Try.ntmps31
    go_wp2_with fail
    refine (cl _).mono ?_
    rintro e w1 ⟨rfl, hw1⟩
    rw [hw1]
    clear hw1 w1
    go_wp2_with fail
    obtain ⟨W9, hW9⟩ : ∃ W9, W0.setCell ⟨D + 1, 0, none⟩ (.slice none 0 0) = W9 := ⟨_, rfl⟩
    have o9 : Out (D + 1) (D + 1 + 1) W0 W9 := by subst hW9; exact out_setCell _ _ _ _
    have R : W9.heap[D + 1]? = some (.cells #[.slice none 0 0] 29 (0, 0)) := by subst hW9; exact (block_set HA.out.2).trans rfl
    rw [hW9]
    have t0 := (box1_cells R).1
    have z9 := o9.size
    have zq := q0.size
    have zD := box_lt HA.out.2
    exact bodyPost_ret (v := .tuple #[mv none 0 0, .slice none 0 0, .bool false]) (by simp [results, Try.results31, go_sem, t0]) rfl ⟨q0.trans ((o9.below (by omega)).mono (by omega)), Pun.none (by omega)⟩
  | true =>
    obtain ⟨d, hd⟩ : ∃ d, IntKind.i64.wrap (200 - t) = d := ⟨_, rfl⟩
    rw [hd] at c1 ⊢
    generalize puM G l t d = LM at *
    generalize puX G l t d = LX at *
    generalize puO G l t d = O at *
    clear hG ha HN
    generalize l.length = n at *
    go_enter Try.func31, Try.ntmps31
    go_wp2_with fail
    refine (cl _).mono ?_
    rintro e w1 ⟨rfl, hw1⟩
    rw [hw1]
    clear hw1 w1
    go_wp2_with fail
    refine c1.mono ?_
    rintro e w1 ⟨b1, x, cx, u, cu, M, rfl, h1, h2, m1, m2⟩
    clear hW0 i0 i1 i2
    have HD' : Hid (w1.heap[D + 1]? = some (.cells #[.slice none 0 0] 29 (0, 0))) := box_on HA.out.2 b1
    obtain ⟨y0, y1⟩ := box1_cells HD'.out
    have HM : Hid _ := And.intro m1 m2
    clear m1 m2
    go_wp2_with fail
    obtain ⟨W9, hW9⟩ : ∃ W9, w1.setCell ⟨D + 1, 0, none⟩ (.slice x LM.length cx) = W9 := ⟨_, rfl⟩
    have o9 : Out (D + 1) (D + 1 + 1) w1 W9 := by subst hW9; exact out_setCell _ _ _ _
    have R : W9.heap[D + 1]? = some (.cells #[.slice x LM.length cx] 29 (0, 0)) := by subst hW9; exact (block_set HD'.out).trans rfl
    rw [hW9]
    have t0 := (box1_cells R).1
    have z9 := o9.size
    have g1 := Below.comp q0 b1
    have z1 := g1.size
    have zq := q0.size
    have zD := box_lt HA.out.2
    exact bodyPost_ret (v := .tuple #[mv x LM.length cx, .slice u LX.length cu, .bool O]) (by simp [results, Try.results31, go_sem, t0]) rfl ⟨g1.trans ((o9.below (by omega)).mono (by omega)), x, cx, u, cu, M, rfl, by omega, by omega, Mine.mono (Mine.out HM.out.1 o9 (.inr (by omega))) (by omega) (by omega), Mine.mono (Mine.out HM.out.2 o9 (.inr (by omega))) (by omega) (by omega)⟩
end Go.Proofs.Ytdbmdblghlfjfaa
