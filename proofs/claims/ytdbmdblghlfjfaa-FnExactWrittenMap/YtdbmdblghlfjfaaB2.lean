import Derived.Test.YtdbmdblghlfjfaaB1
/- What both sides ask of one or two pieces. -/
namespace Go.Proofs.Ytdbmdblghlfjfaa
open Go.ChangeShapes Go.WideShapes Go.ChangeAt Go.RowKit
set_option linter.unusedVariables false
open Mp

attribute [local go_sem] Oper.semAt_some

/-- A callee that only grows the heap, met in a region that draws. -/
theorem reg_of {f : Nat} {args : Array Value} {v : Value} (h : ∀ u, Calls Try.prog f args u fun e w' => e = .returned v ∧ Below u.heap.size u w') (W : World) (d : _) (os : _) :
    Calls Try.prog f args (Go.Sort.grow (redrawn W d) os) fun e w'' => e = .returned v ∧ ∃ p : Regrown, w'' = Go.Sort.grow (redrawn W p.d) p.os := Calls.regrown_of (h _)

set_option maxHeartbeats 1000000 in
theorem l9Piece_any (p : Pc) (w : World) : Calls Try.prog 40 #[pv p] w fun e w' => e = .returned (.bool (pokB p)) ∧ Below w.heap.size w w' := by
  obtain ⟨f, n, a, z⟩ := p
  unfold pokB
  simp only
  obtain ⟨u, hu⟩ : ∃ u, (decide (0 ≤ f) && decide (f ≤ 200)) = u := ⟨_, rfl⟩
  obtain ⟨v, hv⟩ : ∃ v, (decide (1 ≤ n) && decide (n ≤ 200)) = v := ⟨_, rfl⟩
  have c1 := fun W => l1In_any f 0 200 W
  have c2 := fun W => l1In_any n 1 200 W
  rw [hu] at c1
  rw [hv] at c2
  cases u with
  | false =>
    have HU : Hid _ := hu
    clear hu hv c2
    go_enter Try.func40, Try.ntmps40
    go_wp2_with (go_at_call 47; refine (c1 _).mono ?_; rintro e w' ⟨rfl, rfl⟩)
    go_ret
    refine ⟨?_, below_alloc _ _⟩
    have := HU.out
    simp at this
    simp
    omega
  | true =>
    cases v with
    | false =>
      have HU : Hid _ := And.intro hu hv
      clear hu hv
      go_enter Try.func40, Try.ntmps40
      go_wp2_with (go_at_call 47; first | (with_reducible refine Calls.mono (c1 _) ?_; rintro e w' ⟨rfl, rfl⟩) | (with_reducible refine Calls.mono (c2 _) ?_; rintro e w' ⟨rfl, rfl⟩))
      go_ret
      refine ⟨?_, below_alloc _ _⟩
      have := HU.out
      simp at this
      simp
      omega
    | true =>
      simp at hu hv
      by_cases h1 : f + n ≤ 200
      · obtain ⟨x, hx⟩ : ∃ x, (decide (0 ≤ a) && decide (a ≤ 400 - n)) = x := ⟨_, rfl⟩
        have c3 := fun W => l1In_any a 0 (400 - n) W
        rw [hx] at c3
        have HX : Hid _ := hx
        clear hx
        go_enter Try.func40, Try.ntmps40
        go_wp2_with (go_at_call 47; first | (with_reducible refine Calls.mono (c1 _) ?_; rintro e w' ⟨rfl, rfl⟩) | (with_reducible refine Calls.mono (c2 _) ?_; rintro e w' ⟨rfl, rfl⟩) | (with_reducible refine Calls.mono (c3 _) ?_; rintro e w' ⟨rfl, rfl⟩))
        go_ret
        refine ⟨?_, below_alloc _ _⟩
        rw [← HX.out]
        have e : decide (a + n ≤ 400) = decide (a ≤ 400 - n) := decide_eq_decide.2 ⟨fun _ => by omega, fun _ => by omega⟩
        rw [e, decide_eq_true hu.1, decide_eq_true hv.1, decide_eq_true h1]
        simp
      · go_enter Try.func40, Try.ntmps40
        go_wp2_with (go_at_call 47; first | (with_reducible refine Calls.mono (c1 _) ?_; rintro e w' ⟨rfl, rfl⟩) | (with_reducible refine Calls.mono (c2 _) ?_; rintro e w' ⟨rfl, rfl⟩))
        go_ret
        refine ⟨?_, below_alloc _ _⟩
        have e : decide (f + n ≤ 200) = false := decide_eq_false (by omega)
        rw [e]
        simp
set_option maxHeartbeats 1000000 in
theorem l9Goes_any (p q : Pc) (w : World) (hp : pok p) : Calls Try.prog 41 #[pv p, pv q] w fun e w' => e = .returned (.bool (goes p q)) ∧ Below w.heap.size w w' := by
  obtain ⟨f, n, a, z⟩ := p
  obtain ⟨f', n', a', z'⟩ := q
  unfold goes
  unfold pok at hp
  simp only at hp ⊢
  go_enter Try.func41, Try.ntmps41
  go_wp2
  all_goals
    go_ret
    refine ⟨?_, ba2 _ _ _⟩
    simp_all
set_option maxHeartbeats 1000000 in
theorem isPiece_any (p : Pc) (w : World) (hp : Few p) : Calls Try.prog 43 #[pv p] w fun e w' => e = .returned (.bool (pokB p)) ∧ Below w.heap.size w w' := by
  have c1 := fun W => inFile_any p W
  have c2 := fun W => onDevice_any p W
  obtain ⟨f, n, a, z⟩ := p
  unfold Few i64 at hp
  unfold pokB
  simp only at hp ⊢
  simp only at c1 c2
  have c3 := fun W => isWithin_any f n 200 W (by omega) (by omega) hp.1.2
  have c4 := fun W => isWithin_any a n 400 W (by omega) (by omega) hp.2.2.2
  obtain ⟨u, hu⟩ : ∃ u, inB 200 f n = u := ⟨_, rfl⟩
  obtain ⟨v, hv⟩ : ∃ v, inB 400 a n = v := ⟨_, rfl⟩
  rw [hu] at c3
  rw [hv] at c4
  obtain ⟨W0, hW0⟩ : ∃ W0, w.alloc (.cells #[.int .i64 f, .int .i64 n, .int .i64 a, .bool z] 40) = W0 := ⟨_, rfl⟩
  have q0 : Below w.heap.size w W0 := by subst hW0; exact below_alloc _ _
  have HA : Hid (W0.heap[w.heap.size]? = some (.cells #[.int .i64 f, .int .i64 n, .int .i64 a, .bool z] 40 (0, 0))) := by subst hW0; exact al1 _ _
  obtain ⟨x0, x1, x2, x3⟩ := box4_cells HA.out
  have HU : Hid (inB 200 f n = u ∧ inB 400 a n = v) := ⟨hu, hv⟩
  clear hu hv
  go_enter Try.func43, Try.ntmps43
  go_wp2_with fail
  refine (c1 _).mono ?_
  rintro e w1 ⟨rfl, b1⟩
  clear hW0 x0 x1 x2 x3
  go_wp2_with fail
  refine (c3 _).mono ?_
  rintro e w2 ⟨rfl, b2⟩
  obtain ⟨x0, x1, x2, x3⟩ := box4_cells (box_on HA.out (Below.comp b1 b2))
  cases u with
  | false =>
    go_wp2_with fail
    go_ret
    refine ⟨?_, Below.comp q0 (Below.comp b1 b2)⟩
    have := HU.out.1
    unfold inB at this
    simp at this
    simp
    omega
  | true =>
    go_wp2_with fail
    refine (c2 _).mono ?_
    rintro e w3 ⟨rfl, b3⟩
    clear x0 x1 x2 x3
    go_wp2_with fail
    refine (c4 _).mono ?_
    rintro e w4 ⟨rfl, b4⟩
    go_wp2_with fail
    go_ret
    refine ⟨?_, Below.comp (Below.comp q0 (Below.comp b1 b2)) (Below.comp b3 b4)⟩
    have h1 := HU.out.1
    rw [← HU.out.2]
    unfold inB at *
    simp at h1
    simp [h1]

/-- Two extents overlap. -/
def ovl (x y x' y' : Int) : Bool := decide (x < x' + y') && decide (x' < x + y)
set_option maxHeartbeats 1000000 in
theorem overlap_any (x y x' y' : Int) (w : World) (h : i64 (x + y)) (h' : i64 (x' + y')) : Calls Try.prog 72 #[xv (x, y), xv (x', y')] w fun e w' => e = .returned (.bool (ovl x y x' y')) ∧ Below w.heap.size w w' := by
  unfold ovl
  obtain ⟨W0, hW0⟩ : ∃ W0, (w.alloc (.cells #[.int .i64 x, .int .i64 y] 73)).alloc (.cells #[.int .i64 x', .int .i64 y'] 73) = W0 := ⟨_, rfl⟩
  have q0 : Below w.heap.size w W0 := by subst hW0; exact ba2 _ _ _
  obtain ⟨A1, A2⟩ : W0.heap[w.heap.size]? = some (.cells #[.int .i64 x, .int .i64 y] 73 (0, 0)) ∧ W0.heap[w.heap.size + 1]? = some (.cells #[.int .i64 x', .int .i64 y'] 73 (0, 0)) := by subst hW0; exact al2 _ _ _
  have x0 : ∀ d os, (Go.Sort.grow (redrawn W0 d) os).cell? ⟨w.heap.size, 0, none⟩ = some (.int .i64 x) := fun d os => cell_regrown (box2_cells A1).1 d os
  have x1 : ∀ d os, (Go.Sort.grow (redrawn W0 d) os).cell? ⟨w.heap.size, 1, none⟩ = some (.int .i64 y) := fun d os => cell_regrown (box2_cells A1).2.1 d os
  have x2 : ∀ d os, (Go.Sort.grow (redrawn W0 d) os).cell? ⟨w.heap.size + 1, 0, none⟩ = some (.int .i64 x') := fun d os => cell_regrown (box2_cells A2).1 d os
  have x3 : ∀ d os, (Go.Sort.grow (redrawn W0 d) os).cell? ⟨w.heap.size + 1, 1, none⟩ = some (.int .i64 y') := fun d os => cell_regrown (box2_cells A2).2.1 d os
  clear A1 A2
  have c1 := reg_of (fun u => endOf_any x y u h.1 h.2) W0
  have c2 := reg_of (fun u => endOf_any x' y' u h'.1 h'.2) W0
  generalize x + y = e1 at *
  generalize x' + y' = e2 at *
  obtain ⟨u, hu⟩ : ∃ u, decide (x < e2) = u := ⟨_, rfl⟩
  rw [hu]
  clear h h'
  cases u
  all_goals
    go_enter Try.func72, Try.ntmps72
    go_wp2
    clear hW0
    refine wp_region_quiet_below (by kernel_rfl) (by kernel_rfl) ?_
    repeat (go_big_quiet_step (first | with_reducible exact c1 _ _ | with_reducible exact c2 _ _))
    refine wpQuiet_nil ?_
    intro _ hw'
    obtain ⟨⟨dq', osq⟩, hw''⟩ := hw'
    subst hw''
    have b8 := below_regrown W0 dq' osq
    clear x0 x1 x2 x3 c1 c2
    generalize Go.Sort.grow (redrawn W0 dq') osq = w8 at *
    go_wp2
    go_ret
    exact ⟨rfl, Below.comp q0 b8⟩
/-- Two pieces joined. -/
def jn (p q : Pc) : Pc := bif goes p q then ⟨p.f, p.n + q.n, p.a, p.z⟩ else ⟨0, 0, 0, false⟩
set_option maxHeartbeats 2000000 in
theorem joinPieces_any (p q : Pc) (w : World) (hp : pok p) (hq : pok q) : Calls Try.prog 73 #[pv p, pv q] w fun e w' => e = .returned (.tuple #[pv (jn p q), .bool (goes p q)]) ∧ Below w.heap.size w w' := by
  have c53 := fun W => inFile_any p W
  have c70 := fun W => onDevice_any p W
  unfold jn goes
  obtain ⟨f, n, a, z⟩ := p
  obtain ⟨f', n', a', z'⟩ := q
  unfold pok at hp hq
  simp only at hp hq c53 c70 ⊢
  obtain ⟨W0, hW0⟩ : ∃ W0, ((w.alloc (.cells #[.int .i64 f, .int .i64 n, .int .i64 a, .bool z] 40)).alloc (.cells #[.int .i64 f', .int .i64 n', .int .i64 a', .bool z'] 40)).alloc (.cells #[.int .i64 0, .int .i64 0, .int .i64 0, .bool false] 40) = W0 := ⟨_, rfl⟩
  have q0 : Below w.heap.size w W0 := by subst hW0; exact ba3 _ _ _ _
  obtain ⟨A1, A2, A3⟩ : W0.heap[w.heap.size]? = some (.cells #[.int .i64 f, .int .i64 n, .int .i64 a, .bool z] 40 (0, 0)) ∧ W0.heap[w.heap.size + 1]? = some (.cells #[.int .i64 f', .int .i64 n', .int .i64 a', .bool z'] 40 (0, 0)) ∧ W0.heap[w.heap.size + 1 + 1]? = some (.cells #[.int .i64 0, .int .i64 0, .int .i64 0, .bool false] 40 (0, 0)) := by subst hW0; exact al3 _ _ _ _
  have x0 : ∀ d os, (Go.Sort.grow (redrawn W0 d) os).cell? ⟨w.heap.size, 0, none⟩ = some (.int .i64 f) := fun d os => cell_regrown (box4_cells A1).1 d os
  have x1 : ∀ d os, (Go.Sort.grow (redrawn W0 d) os).cell? ⟨w.heap.size, 1, none⟩ = some (.int .i64 n) := fun d os => cell_regrown (box4_cells A1).2.1 d os
  have x2 : ∀ d os, (Go.Sort.grow (redrawn W0 d) os).cell? ⟨w.heap.size, 2, none⟩ = some (.int .i64 a) := fun d os => cell_regrown (box4_cells A1).2.2.1 d os
  have x3 : ∀ d os, (Go.Sort.grow (redrawn W0 d) os).cell? ⟨w.heap.size, 3, none⟩ = some (.bool z) := fun d os => cell_regrown (box4_cells A1).2.2.2 d os
  have y0 : ∀ d os, (Go.Sort.grow (redrawn W0 d) os).cell? ⟨w.heap.size + 1, 0, none⟩ = some (.int .i64 f') := fun d os => cell_regrown (box4_cells A2).1 d os
  have y2 : ∀ d os, (Go.Sort.grow (redrawn W0 d) os).cell? ⟨w.heap.size + 1, 2, none⟩ = some (.int .i64 a') := fun d os => cell_regrown (box4_cells A2).2.2.1 d os
  have y3 : ∀ d os, (Go.Sort.grow (redrawn W0 d) os).cell? ⟨w.heap.size + 1, 3, none⟩ = some (.bool z') := fun d os => cell_regrown (box4_cells A2).2.2.2 d os
  have HA : Hid _ := And.intro A1 (And.intro A2 A3)
  clear A1 A2 A3
  have c1 := reg_of c53 W0
  have c2 := reg_of c70 W0
  have c3 := reg_of (fun u => endOf_any f n u (by omega) (by omega)) W0
  have c4 := reg_of (fun u => endOf_any a n u (by omega) (by omega)) W0
  clear c53 c70
  obtain ⟨e1, h1⟩ : ∃ e1, f + n = e1 := ⟨_, rfl⟩
  obtain ⟨e2, h2⟩ : ∃ e2, a + n = e2 := ⟨_, rfl⟩
  have hs1 : -9223372036854775808 ≤ n + n' := by omega
  have hs2 : n + n' ≤ 9223372036854775807 := by omega
  rw [h1] at c3 ⊢
  rw [h2] at c4 ⊢
  clear h1 h2 hp hq
  obtain ⟨u, hu⟩ : ∃ u, (e1 != f') = u := ⟨_, rfl⟩
  obtain ⟨v, hv⟩ : ∃ v, (e2 != a') = v := ⟨_, rfl⟩
  obtain ⟨x, hx⟩ : ∃ x, (!(z == z')) = x := ⟨_, rfl⟩
  have hx2 : (z == z') = !x := by rw [← hx, Bool.not_not]
  have HR : Hid ((decide (e1 = f') && (decide (e2 = a') && (z == z'))) = (!u && (!v && !x))) := by
    show _ = _
    rw [← hu, ← hv, ← hx]
    congr 1
    · by_cases h : e1 = f' <;> simp [h]
    · congr 1
      · by_cases h : e2 = a' <;> simp [h]
      · exact (Bool.not_not _).symm
  cases u
  · cases v
    · cases x
      · rw [HR.out]
        clear HR
        go_enter Try.func73, Try.ntmps73
        go_wp2
        clear hW0
        refine wp_region_quiet_below (by kernel_rfl) (by kernel_rfl) ?_
        repeat (go_big_quiet_step (first | with_reducible exact c1 _ _ | with_reducible exact c2 _ _ | with_reducible exact c3 _ _ | with_reducible exact c4 _ _))
        refine wpQuiet_nil ?_
        intro _ hw'
        obtain ⟨⟨dq', osq⟩, hw''⟩ := hw'
        subst hw''
        have b8 := below_regrown W0 dq' osq
        clear x0 x1 x2 x3 y0 y2 y3 c1 c2 c3 c4
        generalize Go.Sort.grow (redrawn W0 dq') osq = w8 at *
        obtain ⟨x0, x1, x2, x3⟩ := box4_cells (box_on HA.out.1 b8)
        obtain ⟨-, y1, -, -⟩ := box4_cells (box_on HA.out.2.1 b8)
        have HZ : Hid _ := box_on HA.out.2.2 b8
        obtain ⟨z0, z1, z2, z3⟩ := box4_cells HZ.out
        obtain ⟨t0, t1, t2, t3⟩ := box4_free HZ.out
        go_wp2
        have R := box4_set (x0 := .int .i64 f) (x1 := .int .i64 (n + n')) (x2 := .int .i64 a) (x3 := .bool z) HZ.out
        obtain ⟨W9, hW9⟩ : ∃ W9, (((w8.setCell ⟨w.heap.size + 1 + 1, 0, none⟩ (.int .i64 f)).setCell ⟨w.heap.size + 1 + 1, 1, none⟩ (.int .i64 (n + n'))).setCell ⟨w.heap.size + 1 + 1, 2, none⟩ (.int .i64 a)).setCell ⟨w.heap.size + 1 + 1, 3, none⟩ (.bool z) = W9 := ⟨_, rfl⟩
        rw [hW9] at R ⊢
        have g9 : Below w.heap.size w W9 := by
          subst hW9
          exact ((((Below.comp q0 b8).setCell (by simp; omega) _).setCell (by simp; omega) _).setCell (by simp; omega) _).setCell (by simp; omega) _
        obtain ⟨r0, r1, r2, r3⟩ := box4_cells R
        exact bodyPost_ret (v := .tuple #[pv ⟨f, n + n', a, z⟩, .bool true]) (by simp [results, Try.results73, go_sem, r0, r1, r2, r3]) rfl ⟨rfl, g9⟩
      · rw [HR.out]
        clear HR
        go_enter Try.func73, Try.ntmps73
        go_wp2
        clear hW0
        refine wp_region_quiet_below (by kernel_rfl) (by kernel_rfl) ?_
        repeat (go_big_quiet_step (first | with_reducible exact c1 _ _ | with_reducible exact c2 _ _ | with_reducible exact c3 _ _ | with_reducible exact c4 _ _))
        refine wpQuiet_nil ?_
        intro _ hw'
        obtain ⟨⟨dq', osq⟩, hw''⟩ := hw'
        subst hw''
        have b8 := below_regrown W0 dq' osq
        clear x0 x1 x2 x3 y0 y2 y3 c1 c2 c3 c4
        generalize Go.Sort.grow (redrawn W0 dq') osq = w8 at *
        have HZ : Hid _ := box_on HA.out.2.2 b8
        obtain ⟨z0, z1, z2, z3⟩ := box4_cells HZ.out
        obtain ⟨t0, t1, t2, t3⟩ := box4_free HZ.out
        go_wp2
        have R := box4_set (x0 := .int .i64 0) (x1 := .int .i64 0) (x2 := .int .i64 0) (x3 := .bool false) HZ.out
        obtain ⟨W9, hW9⟩ : ∃ W9, (((w8.setCell ⟨w.heap.size + 1 + 1, 0, none⟩ (.int .i64 0)).setCell ⟨w.heap.size + 1 + 1, 1, none⟩ (.int .i64 0)).setCell ⟨w.heap.size + 1 + 1, 2, none⟩ (.int .i64 0)).setCell ⟨w.heap.size + 1 + 1, 3, none⟩ (.bool false) = W9 := ⟨_, rfl⟩
        rw [hW9] at R ⊢
        have g9 : Below w.heap.size w W9 := by
          subst hW9
          exact ((((Below.comp q0 b8).setCell (by simp; omega) _).setCell (by simp; omega) _).setCell (by simp; omega) _).setCell (by simp; omega) _
        obtain ⟨r0, r1, r2, r3⟩ := box4_cells R
        exact bodyPost_ret (v := .tuple #[pv ⟨0, 0, 0, false⟩, .bool false]) (by simp [results, Try.results73, go_sem, r0, r1, r2, r3]) rfl ⟨rfl, g9⟩
    · rw [HR.out]
      clear HR
      go_enter Try.func73, Try.ntmps73
      go_wp2
      clear hW0
      refine wp_region_quiet_below (by kernel_rfl) (by kernel_rfl) ?_
      repeat (go_big_quiet_step (first | with_reducible exact c1 _ _ | with_reducible exact c2 _ _ | with_reducible exact c3 _ _ | with_reducible exact c4 _ _))
      refine wpQuiet_nil ?_
      intro _ hw'
      obtain ⟨⟨dq', osq⟩, hw''⟩ := hw'
      subst hw''
      have b8 := below_regrown W0 dq' osq
      clear x0 x1 x2 x3 y0 y2 y3 c1 c2 c3 c4
      generalize Go.Sort.grow (redrawn W0 dq') osq = w8 at *
      have HZ : Hid _ := box_on HA.out.2.2 b8
      obtain ⟨z0, z1, z2, z3⟩ := box4_cells HZ.out
      obtain ⟨t0, t1, t2, t3⟩ := box4_free HZ.out
      go_wp2
      have R := box4_set (x0 := .int .i64 0) (x1 := .int .i64 0) (x2 := .int .i64 0) (x3 := .bool false) HZ.out
      obtain ⟨W9, hW9⟩ : ∃ W9, (((w8.setCell ⟨w.heap.size + 1 + 1, 0, none⟩ (.int .i64 0)).setCell ⟨w.heap.size + 1 + 1, 1, none⟩ (.int .i64 0)).setCell ⟨w.heap.size + 1 + 1, 2, none⟩ (.int .i64 0)).setCell ⟨w.heap.size + 1 + 1, 3, none⟩ (.bool false) = W9 := ⟨_, rfl⟩
      rw [hW9] at R ⊢
      have g9 : Below w.heap.size w W9 := by
        subst hW9
        exact ((((Below.comp q0 b8).setCell (by simp; omega) _).setCell (by simp; omega) _).setCell (by simp; omega) _).setCell (by simp; omega) _
      obtain ⟨r0, r1, r2, r3⟩ := box4_cells R
      exact bodyPost_ret (v := .tuple #[pv ⟨0, 0, 0, false⟩, .bool false]) (by simp [results, Try.results73, go_sem, r0, r1, r2, r3]) rfl ⟨rfl, g9⟩
  · rw [HR.out]
    clear HR
    go_enter Try.func73, Try.ntmps73
    go_wp2
    clear hW0
    refine wp_region_quiet_below (by kernel_rfl) (by kernel_rfl) ?_
    repeat (go_big_quiet_step (first | with_reducible exact c1 _ _ | with_reducible exact c2 _ _ | with_reducible exact c3 _ _ | with_reducible exact c4 _ _))
    refine wpQuiet_nil ?_
    intro _ hw'
    obtain ⟨⟨dq', osq⟩, hw''⟩ := hw'
    subst hw''
    have b8 := below_regrown W0 dq' osq
    clear x0 x1 x2 x3 y0 y2 y3 c1 c2 c3 c4
    generalize Go.Sort.grow (redrawn W0 dq') osq = w8 at *
    have HZ : Hid _ := box_on HA.out.2.2 b8
    obtain ⟨z0, z1, z2, z3⟩ := box4_cells HZ.out
    obtain ⟨t0, t1, t2, t3⟩ := box4_free HZ.out
    go_wp2
    have R := box4_set (x0 := .int .i64 0) (x1 := .int .i64 0) (x2 := .int .i64 0) (x3 := .bool false) HZ.out
    obtain ⟨W9, hW9⟩ : ∃ W9, (((w8.setCell ⟨w.heap.size + 1 + 1, 0, none⟩ (.int .i64 0)).setCell ⟨w.heap.size + 1 + 1, 1, none⟩ (.int .i64 0)).setCell ⟨w.heap.size + 1 + 1, 2, none⟩ (.int .i64 0)).setCell ⟨w.heap.size + 1 + 1, 3, none⟩ (.bool false) = W9 := ⟨_, rfl⟩
    rw [hW9] at R ⊢
    have g9 : Below w.heap.size w W9 := by
      subst hW9
      exact ((((Below.comp q0 b8).setCell (by simp; omega) _).setCell (by simp; omega) _).setCell (by simp; omega) _).setCell (by simp; omega) _
    obtain ⟨r0, r1, r2, r3⟩ := box4_cells R
    exact bodyPost_ret (v := .tuple #[pv ⟨0, 0, 0, false⟩, .bool false]) (by simp [results, Try.results73, go_sem, r0, r1, r2, r3]) rfl ⟨rfl, g9⟩
set_option maxHeartbeats 1000000 in
theorem mayFollow_any (p q : Pc) (w : World) (hp : pok p) (hq : pok q) : Calls Try.prog 45 #[pv p, pv q] w fun e w' => e = .returned (.bool (decide (p.f < q.f) && !goes p q)) ∧ Below w.heap.size w w' := by
  have c := fun W => joinPieces_any p q W hp hq
  generalize goes p q = G at *
  generalize jn p q = j at *
  obtain ⟨f, n, a, z⟩ := p
  obtain ⟨f', n', a', z'⟩ := q
  obtain ⟨jf, jn, ja, jz⟩ := j
  simp only at c ⊢
  clear hp hq
  obtain ⟨W0, hW0⟩ : ∃ W0, (w.alloc (.cells #[.int .i64 f, .int .i64 n, .int .i64 a, .bool z] 40)).alloc (.cells #[.int .i64 f', .int .i64 n', .int .i64 a', .bool z'] 40) = W0 := ⟨_, rfl⟩
  have q0 : Below w.heap.size w W0 := by subst hW0; exact ba2 _ _ _
  obtain ⟨A1, A2⟩ : W0.heap[w.heap.size]? = some (.cells #[.int .i64 f, .int .i64 n, .int .i64 a, .bool z] 40 (0, 0)) ∧ W0.heap[w.heap.size + 1]? = some (.cells #[.int .i64 f', .int .i64 n', .int .i64 a', .bool z'] 40 (0, 0)) := by subst hW0; exact al2 _ _ _
  have HA : Hid _ := And.intro A1 A2
  obtain ⟨x0, x1, x2, x3⟩ := box4_cells A1
  obtain ⟨y0, y1, y2, y3⟩ := box4_cells A2
  clear A1 A2
  go_enter Try.func45, Try.ntmps45
  go_wp2_with fail
  refine (c _).mono ?_
  rintro e w1 ⟨rfl, b1⟩
  clear hW0 x0 x1 x2 x3 y0 y1 y2 y3
  have ba := below_alloc w1 (.cells #[.int .i64 jf, .int .i64 jn, .int .i64 ja, .bool jz] 40)
  obtain ⟨x0, x1, x2, x3⟩ := box4_cells (box_on (box_on HA.out.1 b1) ba)
  obtain ⟨y0, y1, y2, y3⟩ := box4_cells (box_on (box_on HA.out.2 b1) ba)
  by_cases hd : f < f'
  · go_wp2
    go_ret
    refine ⟨?_, Below.comp (Below.comp q0 b1) ba⟩
    rw [decide_eq_true hd, Bool.true_and]
    rfl
  · go_wp2
    go_ret
    refine ⟨?_, Below.comp (Below.comp q0 b1) ba⟩
    have e : decide (f < f') = false := decide_eq_false (by omega)
    rw [e, Bool.false_and]
    rfl
end Go.Proofs.Ytdbmdblghlfjfaa
