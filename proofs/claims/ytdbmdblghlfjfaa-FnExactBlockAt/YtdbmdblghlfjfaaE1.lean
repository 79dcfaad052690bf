import Derived.Test.YtdbmdblghlfjfaaD1
/- Both BlockAts. -/
namespace Go.Proofs.Ytdbmdblghlfjfaa
open Go.ChangeShapes Go.WideShapes Go.ChangeAt Go.RowKit
set_option linter.unusedVariables false
open Mp

attribute [local go_sem] Oper.semAt_some

theorem fst_ex (n : Nat) (f : Nat → Pc) (p : Pc → Bool) : ∃ y r, Fst n f p y r := by
  induction n with
  | zero => exact ⟨_, _, .inr ⟨rfl, rfl, fun j hj => by omega⟩⟩
  | succ n ih =>
    obtain ⟨y, r, ⟨rfl, k, hk, e, hp, hj⟩ | ⟨rfl, e, hj⟩⟩ := ih
    · exact ⟨y, true, .inl ⟨rfl, k, by omega, e, hp, hj⟩⟩
    · cases h : p (f n) with
      | true => exact ⟨f n, true, .inl ⟨rfl, n, by omega, rfl, h, hj⟩⟩
      | false => exact ⟨_, _, .inr ⟨rfl, rfl, fun j hj' => by
          by_cases e : j < n
          · exact hj j e
          · obtain rfl : j = n := by omega
            exact h⟩⟩
theorem fst_uniq {n : Nat} {f : Nat → Pc} {p : Pc → Bool} {y y' : Pc} {r r' : Bool} (h : Fst n f p y r) (h' : Fst n f p y' r') : y = y' ∧ r = r' := by
  rcases h with ⟨rfl, k, hk, rfl, hp, hj⟩ | ⟨rfl, rfl, hj⟩ <;> rcases h' with ⟨rfl, k', hk', rfl, hp', hj'⟩ | ⟨rfl, rfl, hj'⟩
  · have e : k = k' := by
      rcases Nat.lt_trichotomy k k' with h | h | h
      · have := hj' k h; rw [hp] at this; cases this
      · exact h
      · have := hj k' h; rw [hp'] at this; cases this
    subst e
    exact ⟨rfl, rfl⟩
  · have := hj' k hk; rw [hp] at this; cases this
  · have := hj k' hk'; rw [hp'] at this; cases this
  · exact ⟨rfl, rfl⟩
set_option maxHeartbeats 1000000 in
theorem cl51_any (t : Int) (q : Pc) (L : Nat) (w : World) (hq : pok q) (hL : w.cell? ⟨L, 0, none⟩ = some (.int .i64 t)) :
    Calls Try.prog 51 #[pv q, .pointer (some ⟨L, 0, none⟩)] w fun e w' => e = .returned (.bool (inP t q)) ∧ Below w.heap.size w w' := by
  have d2 := fun u => inFile_any q u
  have d5 := fun u => endOf_any q.f q.n u (by unfold pok at hq; omega) (by unfold pok at hq; omega)
  unfold inP
  clear hq
  obtain ⟨f', n', a', z'⟩ := q
  simp only at d2 d5 ⊢
  obtain ⟨W0, hW0⟩ : ∃ W0, w.alloc (.cells #[.int .i64 f', .int .i64 n', .int .i64 a', .bool z'] 40) = W0 := ⟨_, rfl⟩
  have q0 : Below w.heap.size w W0 := by subst hW0; exact below_alloc _ _
  have A2 : W0.heap[w.heap.size]? = some (.cells #[.int .i64 f', .int .i64 n', .int .i64 a', .bool z'] 40 (0, 0)) := by subst hW0; exact al1 _ _
  have x0 : ∀ d os, (Go.Sort.grow (redrawn W0 d) os).cell? ⟨L, 0, none⟩ = some (.int .i64 t) := fun d os => cell_regrown (cell_on hL q0) d os
  have y0 : ∀ d os, (Go.Sort.grow (redrawn W0 d) os).cell? ⟨w.heap.size, 0, none⟩ = some (.int .i64 f') := fun d os => cell_regrown (box4_cells A2).1 d os
  have y1 : ∀ d os, (Go.Sort.grow (redrawn W0 d) os).cell? ⟨w.heap.size, 1, none⟩ = some (.int .i64 n') := fun d os => cell_regrown (box4_cells A2).2.1 d os
  have y2 : ∀ d os, (Go.Sort.grow (redrawn W0 d) os).cell? ⟨w.heap.size, 2, none⟩ = some (.int .i64 a') := fun d os => cell_regrown (box4_cells A2).2.2.1 d os
  have y3 : ∀ d os, (Go.Sort.grow (redrawn W0 d) os).cell? ⟨w.heap.size, 3, none⟩ = some (.bool z') := fun d os => cell_regrown (box4_cells A2).2.2.2 d os
  have c1 := reg_of d2 W0
  have c2 := reg_of d5 W0
  generalize f' + n' = e1 at *
  clear A2 d2 d5 hL
  obtain ⟨u, hu⟩ : ∃ u, decide (f' ≤ t) = u := ⟨_, rfl⟩
  rw [hu]
  cases u
  all_goals
    go_enter Try.func51, Try.ntmps51
    go_wp2
    clear hW0
    refine wp_region_quiet_below (by kernel_rfl) (by kernel_rfl) ?_
    repeat (go_big_quiet_step (first | with_reducible exact c1 _ _ | with_reducible exact c2 _ _))
    refine wpQuiet_nil ?_
    intro _ hw'
    obtain ⟨⟨dq', osq⟩, hw''⟩ := hw'
    subst hw''
    have b8 := below_regrown W0 dq' osq
    clear x0 y0 y1 y2 y3 c1 c2
    generalize Go.Sort.grow (redrawn W0 dq') osq = w8 at *
    go_wp2
    go_ret
    exact ⟨rfl, Below.comp q0 b8⟩
/-- Where a block lies that the first piece of its kind holds, or none. -/
def atA (t : Int) (y : Pc) (r : Bool) : Int := bif r then y.a + t - y.f else -1
def atB (y : Pc) (r : Bool) : Bool := bif r then y.z else false
set_option maxHeartbeats 1000000 in
theorem l9At_any (a : Option Addr) (c : Nat) (l : List Pc) (t : Int) (y : Pc) (r : Bool) (hy : Fst l.length (gp l) (inP t) y r) (w : World) (hl : l.length ≤ 40) (hp : ∀ i, i < l.length → pok (gp l i)) (ht : 0 ≤ t ∧ t ≤ 199) (ha : Pcs w a l) :
    Calls Try.prog 48 #[mv a l.length c, .int .i64 t] w fun e w' => e = .returned (.tuple #[.int .i64 (atA t y r), .bool (atB y r)]) ∧ Below w.heap.size w w' := by
  unfold Pcs at ha
  generalize gp l = g at *
  generalize l.length = n at *
  have HY : Hid _ := hy
  have HP : Hid _ := hp
  clear hy hp
  obtain ⟨W0, hW0⟩ : ∃ W0, w.alloc (.cells #[.slice a n c] 29) = W0 := ⟨_, rfl⟩
  have q0 : Below w.heap.size w W0 := by subst hW0; exact below_alloc _ _
  have HA : Hid (W0.heap[w.heap.size]? = some (.cells #[.slice a n c] 29 (0, 0))) := by subst hW0; exact al1 _ _
  have i0 := (box1_cells HA.out).1
  go_enter Try.func48, Try.ntmps48
  go_wp2
  clear hW0 i0
  go_loopw [11] (fun i wr => ∃ (k : Nat), k ≤ n ∧ i = .int .i64 k ∧ Hid (∀ j, j < k → inP t (g j) = false) ∧ Below W0.heap.size W0 wr) (fun i _ => n - (intOf i).toNat)
  case atStart => exact ⟨0, Nat.zero_le _, rfl, fun i hi => absurd hi (by omega), Below.refl _ _⟩
  case round =>
    obtain ⟨k, hk, rfl, HO, hb⟩ := hrel
    have hbw := Below.comp q0 hb
    by_cases hlt : k < n
    · obtain ⟨bb, off, rfl, hcell⟩ := (ha.below hbw) (by omega)
      obtain ⟨k0, k1, k2, k3⟩ := hcell k hlt
      clear hcell
      have hpk := HP.out k hlt
      have hyes : inP t (g k) = true → y = g k ∧ r = true := fun h => by
        have := fst_uniq HY.out (.inl ⟨rfl, k, hlt, rfl, h, HO.out⟩)
        exact this
      have hnox : Hid (inP t (g k) = false → ∀ j, j < k + 1 → inP t (g j) = false) := fun h j hj => by
        by_cases e : j < k
        · exact HO.out j e
        · obtain rfl : j = k := by omega
          exact h
      have HYes : Hid _ := hyes
      clear hyes
      unfold pok at hpk
      generalize g k = x at *
      unfold inP at HYes hnox
      obtain ⟨pf, pn, pa, pz⟩ := x
      simp only at *
      obtain ⟨E, hE⟩ : ∃ E, wr.heap.size = E := ⟨_, rfl⟩
      obtain ⟨W1, hW1⟩ : ∃ W1, wr.alloc (.cells #[.int .i64 pf, .int .i64 pn, .int .i64 pa, .bool pz] 40) = W1 := ⟨_, rfl⟩
      have b1 : Below wr.heap.size wr W1 := by subst hW1; exact below_alloc _ _
      have HE : W1.heap[E]? = some (.cells #[.int .i64 pf, .int .i64 pn, .int .i64 pa, .bool pz] 40 (0, 0)) := by subst hW1 hE; exact al1 _ _
      obtain ⟨x0, x1, x2, x3⟩ := box4_cells HE
      clear HE
      have ev : IntKind.i64.wrap (pf + pn) = pf + pn := wrapI (by omega) (by omega)
      have ev2 : IntKind.i64.wrap (pa + t) = pa + t := wrapI (by omega) (by omega)
      have ev3 : IntKind.i64.wrap (pa + t - pf) = pa + t - pf := wrapI (by omega) (by omega)
      by_cases h1 : pf ≤ t
      · by_cases h2 : t < pf + pn
        · obtain ⟨e1, e2⟩ := HYes.out (by rw [decide_eq_true h1, decide_eq_true h2]; rfl)
          subst e1 e2
          clear hnox HYes HY
          go_wp2
          go_quiet (fail)
          go_wp2
          go_ret2
          exact ⟨rfl, below_drewN (Below.comp hbw b1) _⟩
        · have hg := hnox.out (by rw [decide_eq_false h2, Bool.and_false])
          have HG : Hid _ := hg
          clear hnox HYes hg
          go_wp2
          go_roundw
          case rel => exact ⟨k + 1, by omega, by go_num, HG, Below.comp hb b1⟩
          case measure => simp [intOf]; omega
      · have hg := hnox.out (by rw [decide_eq_false h1, Bool.false_and])
        have HG : Hid _ := hg
        clear hnox HYes hg
        go_wp2
        go_roundw
        case rel => exact ⟨k + 1, by omega, by go_num, HG, Below.comp hb b1⟩
        case measure => simp [intOf]; omega
    · obtain rfl : k = n := by omega
      obtain ⟨e1, e2⟩ := fst_uniq HY.out (.inr ⟨rfl, rfl, HO.out⟩)
      subst e1 e2
      clear HY HO
      go_wp2
      go_ret2
      exact ⟨rfl, hbw⟩
/-- What BlockAt answers. -/
def bO (G : Bool) (t : Int) : Bool := G && (decide (0 ≤ t) && decide (t ≤ 199))
def bA (G : Bool) (t : Int) (y : Pc) (r : Bool) : Int := bif bO G t then atA t y r else 0
def bB (G : Bool) (t : Int) (y : Pc) (r : Bool) : Bool := bif bO G t then atB y r else false
set_option maxHeartbeats 1000000 in
theorem specBlock_any (a : Option Addr) (c : Nat) (l : List Pc) (t : Int) (G : Bool) (hG : G = true ↔ GM l) (y : Pc) (r : Bool) (hy : Fst l.length (gp l) (inP t) y r) (w : World) (hn : l.length ≤ 1048576) (hc : l.length ≤ c) (ha : Pcs w a l) :
    Calls Try.prog 17 #[mv a l.length c, .int .i64 t] w fun e w' => e = .returned (.tuple #[.int .i64 (bA G t y r), .bool (bB G t y r), .bool (bO G t)]) ∧ Below w.heap.size w w' := by
  obtain ⟨W0, hW0⟩ : ∃ W0, w.alloc (.cells #[.slice a l.length c] 29) = W0 := ⟨_, rfl⟩
  have q0 : Below w.heap.size w W0 := by subst hW0; exact below_alloc _ _
  have HA : Hid (W0.heap[w.heap.size]? = some (.cells #[.slice a l.length c] 29 (0, 0))) := by subst hW0; exact al1 _ _
  have i0 := (box1_cells HA.out).1
  have c1 := specGood_any a c l G hG W0 hn hc (ha.below q0)
  have HC : Hid (GM l → 0 ≤ t ∧ t ≤ 199 → ∀ W, Below w.heap.size w W → Calls Try.prog 48 #[mv a l.length c, .int .i64 t] W fun e w' => e = .returned (.tuple #[.int .i64 (atA t y r), .bool (atB y r)]) ∧ Below W.heap.size W w') := fun h ht W hb => l9At_any a c l t y r hy W h.1 (gm_ok h) ht (ha.below hb)
  have cl := fun W => l1In_any t 0 199 W
  unfold bA bB bO
  cases G with
  | false =>
    clear HC hG ha hy cl
    generalize l.length = n at *
    go_enter Try.func17, Try.ntmps17
    go_wp2_with (go_at_call 13; refine c1.mono ?_; rintro e w1 ⟨rfl, b1⟩)
    exact bodyPost_ret (v := .tuple #[.int .i64 0, .bool false, .bool false]) (by simp [results, Try.results17, go_sem]) rfl ⟨rfl, Below.comp q0 b1⟩
  | true =>
    obtain ⟨v, hv⟩ : ∃ v, (decide (0 ≤ t) && decide (t ≤ 199)) = v := ⟨_, rfl⟩
    rw [hv] at cl ⊢
    have HC2 : Hid (v = true → ∀ W, Below w.heap.size w W → Calls Try.prog 48 #[mv a l.length c, .int .i64 t] W fun e w' => e = .returned (.tuple #[.int .i64 (atA t y r), .bool (atB y r)]) ∧ Below W.heap.size W w') := fun h => HC.out (hG.1 rfl) (by rw [h] at hv; simpa using hv)
    clear HC hG ha hy hv
    generalize atA t y r = RA at *
    generalize atB y r = RB at *
    generalize l.length = n at *
    cases v with
    | false =>
      go_enter Try.func17, Try.ntmps17
      go_wp2_with (first | (go_at_call 13; refine c1.mono ?_; rintro e w1 ⟨rfl, b1⟩) | (go_at_call 47; refine (cl _).mono ?_; rintro e w2 ⟨rfl, rfl⟩))
      exact bodyPost_ret (v := .tuple #[.int .i64 0, .bool false, .bool false]) (by simp [results, Try.results17, go_sem]) rfl ⟨rfl, Below.comp q0 b1⟩
    | true =>
      have c2 := HC2.out rfl
      clear HC2
      go_enter Try.func17, Try.ntmps17
      go_wp2_with fail
      refine c1.mono ?_
      rintro e w1 ⟨rfl, b1⟩
      clear hW0 i0
      have i0 := (box1_cells (box_on HA.out b1)).1
      go_wp2_with fail
      refine (cl _).mono ?_
      rintro e w2 ⟨rfl, rfl⟩
      go_wp2_with fail
      refine (c2 _ (Below.comp q0 b1)).mono ?_
      rintro e w3 ⟨rfl, b3⟩
      go_wp2_with fail
      exact bodyPost_ret (v := .tuple #[.int .i64 RA, .bool RB, .bool true]) (by simp [results, Try.results17, go_sem]) rfl ⟨rfl, Below.comp (Below.comp q0 b1) b3⟩
set_option maxHeartbeats 1000000 in
theorem implBlock_any (a : Option Addr) (c : Nat) (l : List Pc) (t : Int) (G : Bool) (hG : G = true ↔ GM l) (y : Pc) (r : Bool) (hy : Fst l.length (gp l) (inP t) y r) (w : World) (hn : l.length ≤ 1048576) (hc : l.length ≤ c) (hf : ∀ p, p ∈ l → Few p) (ha : Pcs w a l) :
    Calls Try.prog 18 #[mv a l.length c, .int .i64 t] w fun e w' => e = .returned (.tuple #[.int .i64 (bA G t y r), .bool (bB G t y r), .bool (bO G t)]) ∧ Below w.heap.size w w' := by
  obtain ⟨D, hD⟩ : ∃ D, w.heap.size = D := ⟨_, rfl⟩
  obtain ⟨W0, hW0⟩ : ∃ W0, (w.alloc (.cells #[.slice a l.length c] 29)).alloc (.cells #[.int .i64 t] 3) = W0 := ⟨_, rfl⟩
  have q0 : Below w.heap.size w W0 := by subst hW0; exact ba2 _ _ _
  obtain ⟨A1, A2⟩ : W0.heap[D]? = some (.cells #[.slice a l.length c] 29 (0, 0)) ∧ W0.heap[D + 1]? = some (.cells #[.int .i64 t] 3 (0, 0)) := by subst hW0 hD; exact al2 _ _ _
  have HA : Hid _ := And.intro A1 A2
  have i0 := (box1_cells A1).1
  have i1 := (box1_cells A2).1
  clear A1 A2
  have c1 := implGood_any a c l G hG W0 hn hc hf (ha.below q0)
  have HC : Hid (GM l → ∀ W, Below W0.heap.size W0 W → Calls Try.prog 49 #[.func (.func 75) #[] #[.pointer (some ⟨W.heap.size, 0, none⟩)], .func (.func 51) #[] #[.pointer (some ⟨D + 1, 0, none⟩)]] (W.alloc (.cells #[.slice a l.length c] 27)) fun e w' => e = .returned (.tuple #[pv y, .bool r]) ∧ Below (W.alloc (.cells #[.slice a l.length c] 27)).heap.size (W.alloc (.cells #[.slice a l.length c] 27)) w') := fun h W hb => by
    have cf := first51 W.heap.size (D + 1) a l.length c (gp l) (inP t) (W.alloc (.cells #[.slice a l.length c] 27)) hn (sx_of (ha.below (Below.comp q0 hb))) (fun i hi W' hW' => cl51_any t (gp l i) (D + 1) W' (gm_ok h i hi) (cell_on (box1_cells HA.out.2).1 (Below.comp (Below.comp hb (below_alloc _ _)) hW')))
    refine cf.mono ?_
    rintro e w' ⟨b, y', r', rfl, hF⟩
    obtain ⟨e1, e2⟩ := fst_uniq hy hF
    subst e1 e2
    exact ⟨rfl, b⟩
  have HY : Hid (G = true → r = true → pok y) := fun h h2 => by
    rcases hy with ⟨-, k, hk, rfl, -⟩ | ⟨h3, -⟩
    · exact gm_ok (hG.1 h) k hk
    · rw [h2] at h3; cases h3
  unfold bA bB bO atA atB
  cases G with
  | false =>
    clear HC hG ha hy
    generalize l.length = n at *
    go_enter Try.func18, Try.ntmps18
    go_wp2_with (go_at_call 15; refine c1.mono ?_; rintro e w1 ⟨rfl, b1⟩)
    exact bodyPost_ret (v := .tuple #[.int .i64 0, .bool false, .bool false]) (by simp [results, Try.results18, go_sem]) rfl ⟨rfl, by first | exact Below.comp q0 b1 | exact (hD ▸ Below.comp q0 b1)⟩
  | true =>
    have c2 := HC.out (hG.1 rfl)
    have HY' : Hid (r = true → pok y) := HY.out rfl
    clear HC hG ha hy HY hf
    generalize l.length = n at *
    by_cases h0 : t < 0
    · have e0 : decide (0 ≤ t) = false := decide_eq_false (by omega)
      rw [e0]
      clear e0
      go_enter Try.func18, Try.ntmps18
      go_wp2_with (go_at_call 15; refine c1.mono ?_; rintro e w1 ⟨rfl, b1⟩; have j1 := (box1_cells (box_on HA.out.2 b1)).1)
      exact bodyPost_ret (v := .tuple #[.int .i64 0, .bool false, .bool false]) (by simp [results, Try.results18, go_sem]) rfl ⟨rfl, by first | exact Below.comp q0 b1 | exact (hD ▸ Below.comp q0 b1)⟩
    by_cases h1 : 200 ≤ t
    · have e0 : decide (t ≤ 199) = false := decide_eq_false (by omega)
      rw [e0, Bool.and_false]
      clear e0
      go_enter Try.func18, Try.ntmps18
      go_wp2_with (go_at_call 15; refine c1.mono ?_; rintro e w1 ⟨rfl, b1⟩; have j1 := (box1_cells (box_on HA.out.2 b1)).1)
      exact bodyPost_ret (v := .tuple #[.int .i64 0, .bool false, .bool false]) (by simp [results, Try.results18, go_sem]) rfl ⟨rfl, by first | exact Below.comp q0 b1 | exact (hD ▸ Below.comp q0 b1)⟩
    rw [decide_eq_true (show 0 ≤ t by omega), decide_eq_true (show t ≤ 199 by omega)]
    go_enter Try.func18, Try.ntmps18
    go_wp2_with fail
    refine c1.mono ?_
    rintro e w1 ⟨rfl, b1⟩
    clear hW0 i0 i1
    have i0 := (box1_cells (box_on HA.out.1 b1)).1
    have i1 := (box1_cells (box_on HA.out.2 b1)).1
    go_wp2_with fail
    refine (All_any a n c w1).mono ?_
    rintro e w2 ⟨rfl, rfl⟩
    clear i0 i1
    go_wp2_with fail
    refine (c2 w1 b1).mono ?_
    rintro e w3 ⟨rfl, b3⟩
    have g3 := Below.comp (Below.comp q0 b1) (Below.comp (below_alloc _ _) b3)
    have b03 := Below.comp b1 (Below.comp (below_alloc _ _) b3)
    clear c2
    obtain ⟨yf, yn, ya, yz⟩ := y
    obtain ⟨W4, hW4⟩ : ∃ W4, w3.alloc (.cells #[.int .i64 yf, .int .i64 yn, .int .i64 ya, .bool yz] 40) = W4 := ⟨_, rfl⟩
    obtain ⟨E, hE⟩ : ∃ E, w3.heap.size = E := ⟨_, rfl⟩
    have b4 : Below w3.heap.size w3 W4 := by subst hW4; exact below_alloc _ _
    have HE : W4.heap[E]? = some (.cells #[.int .i64 yf, .int .i64 yn, .int .i64 ya, .bool yz] 40 (0, 0)) := by subst hW4 hE; exact al1 _ _
    obtain ⟨x0, x1, x2, x3⟩ := box4_cells HE
    have i1 := (box1_cells (box_on HA.out.2 (Below.comp b03 b4))).1
    clear HE
    cases r with
    | false =>
      clear HY'
      go_wp2_with fail
      exact bodyPost_ret (v := .tuple #[.int .i64 (-1), .bool false, .bool true]) (by simp [results, Try.results18, go_sem]) rfl ⟨rfl, by first | exact Below.comp g3 b4 | exact (hD ▸ Below.comp g3 b4)⟩
    | true =>
      have hpy := HY'.out rfl
      unfold pok at hpy
      simp only at hpy
      have ev2 : IntKind.i64.wrap (ya + t) = ya + t := wrapI (by omega) (by omega)
      have ev3 : IntKind.i64.wrap (ya + t - yf) = ya + t - yf := wrapI (by omega) (by omega)
      clear HY'
      go_wp2_with fail
      go_quiet (fail)
      go_wp2
      exact bodyPost_ret (v := .tuple #[.int .i64 (ya + t - yf), .bool yz, .bool true]) (by simp [results, Try.results18, go_sem]) rfl ⟨rfl, by first | exact below_drewN (Below.comp g3 b4) _ | exact (hD ▸ below_drewN (Below.comp g3 b4) _)⟩
end Go.Proofs.Ytdbmdblghlfjfaa
