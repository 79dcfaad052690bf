import Derived.Test.YtpolhigpcllhiaaI4
/- Looks at rows by a function, and whether two extents overlap: the program's side. -/
namespace Go.Proofs.Ytpolhigpcllhiaa
open Go.ChangeShapes Go.WideShapes Go.ChangeAt Go.RowKit
set_option linter.unusedVariables false
open Room

attribute [local go_sem] Oper.semAt_some

theorem reg_of {f : Nat} {args : Array Value} {v : Value} (h : ∀ u, Calls Try.prog f args u fun e w' => e = .returned v ∧ Below u.heap.size u w') (W : World) (d : _) (os : _) :
    Calls Try.prog f args (Go.Sort.grow (redrawn W d) os) fun e w'' => e = .returned v ∧ ∃ p : Regrown, w'' = Go.Sort.grow (redrawn W p.d) p.os := Calls.regrown_of (h _)
set_option maxHeartbeats 1000000 in
theorem overlap_any (x y : Ex) (w : World) (h : -9223372036854775808 ≤ fin x ∧ fin x ≤ 9223372036854775807) (h' : -9223372036854775808 ≤ fin y ∧ fin y ≤ 9223372036854775807) : Calls Try.prog 82 #[xv x, xv y] w fun e w' => e = .returned (.bool (ov x y)) ∧ Below w.heap.size w w' := by
  unfold ov
  have c1 := fun W0 => reg_of (fun u => endOf_any x u h.1 h.2) W0
  have c2 := fun W0 => reg_of (fun u => endOf_any y u h'.1 h'.2) W0
  generalize fin x = e1 at *
  generalize fin y = e2 at *
  obtain ⟨p, q⟩ := x
  obtain ⟨p', q'⟩ := y
  obtain ⟨W0, hW0⟩ : ∃ W0, (w.alloc (.cells #[.int .i64 p, .int .i64 q] 47)).alloc (.cells #[.int .i64 p', .int .i64 q'] 47) = W0 := ⟨_, rfl⟩
  have q0 : Below w.heap.size w W0 := by subst hW0; exact ba2 _ _ _
  obtain ⟨A1, A2⟩ : W0.heap[w.heap.size]? = some (.cells #[.int .i64 p, .int .i64 q] 47 (0, 0)) ∧ W0.heap[w.heap.size + 1]? = some (.cells #[.int .i64 p', .int .i64 q'] 47 (0, 0)) := by subst hW0; exact al2 _ _ _
  have x0 : ∀ d os, (Go.Sort.grow (redrawn W0 d) os).cell? ⟨w.heap.size, 0, none⟩ = some (.int .i64 p) := fun d os => cell_regrown (box2_cells A1).1 d os
  have x1 : ∀ d os, (Go.Sort.grow (redrawn W0 d) os).cell? ⟨w.heap.size, 1, none⟩ = some (.int .i64 q) := fun d os => cell_regrown (box2_cells A1).2.1 d os
  have x2 : ∀ d os, (Go.Sort.grow (redrawn W0 d) os).cell? ⟨w.heap.size + 1, 0, none⟩ = some (.int .i64 p') := fun d os => cell_regrown (box2_cells A2).1 d os
  have x3 : ∀ d os, (Go.Sort.grow (redrawn W0 d) os).cell? ⟨w.heap.size + 1, 1, none⟩ = some (.int .i64 q') := fun d os => cell_regrown (box2_cells A2).2.1 d os
  clear A1 A2 h h'
  have k1 := c1 W0
  have k2 := c2 W0
  clear c1 c2
  obtain ⟨u, hu⟩ : ∃ u, decide (p < e2) = u := ⟨_, rfl⟩
  rw [hu]
  cases u
  all_goals
    go_enter Try.func82, Try.ntmps82
    go_wp2
    clear hW0
    refine wp_region_quiet_below (by kernel_rfl) (by kernel_rfl) ?_
    repeat (go_big_quiet_step (first | with_reducible exact k1 _ _ | with_reducible exact k2 _ _))
    refine wpQuiet_nil ?_
    intro _ hw'
    obtain ⟨⟨dq', osq⟩, hw''⟩ := hw'
    subst hw''
    have b8 := below_regrown W0 dq' osq
    clear x0 x1 x2 x3 k1 k2
    generalize Go.Sort.grow (redrawn W0 dq') osq = w8 at *
    go_wp2
    go_ret
    exact ⟨rfl, Below.comp q0 b8⟩
theorem nextId_any (a : Option Addr) (n c : Nat) (w : World) (hn : n ≤ 1048576) : Calls Try.prog 64 #[.slice a n c] w fun e w' => e = .returned (.int .i64 ((n : Int) + 1)) ∧ w' = w := by
  have e1 : IntKind.i64.wrap (1 + (n : Int)) = (n : Int) + 1 := by rw [wrapI (by omega) (by omega)]; omega
  go_enter Try.func64, Try.ntmps64
  go_wp2
  go_ret
  exact ⟨by first | rfl | (rw [e1]) | (simp; omega), rfl⟩
theorem fin_in {b : Int} {x : Ex} (h : inB b x = true) (hb : b ≤ 400) : -9223372036854775808 ≤ fin x ∧ fin x ≤ 9223372036854775807 := by
  have := inB_iff.1 h
  unfold fin
  omega
set_option maxHeartbeats 1000000 in
theorem free1_any (E : Nat) (x : It) (y : Ex) (w : World) (hE : w.heap[E]? = some (.cells #[.int .i64 x.k, .int .i64 x.i, .int .i64 x.x.1, .int .i64 x.x.2, .int .i64 x.u] 71 (0, 0))) (h : -9223372036854775808 ≤ fin x.x ∧ fin x.x ≤ 9223372036854775807) (h' : -9223372036854775808 ≤ fin y ∧ fin y ≤ 9223372036854775807) :
    Calls Try.prog 81 #[xv y, .pointer (some ⟨E, 0, none⟩)] w fun e w' => e = .returned (.bool (ov x.x y)) ∧ Below w.heap.size w w' := by
  have cO := fun W => overlap_any x.x y W h h'
  generalize ov x.x y = r at *
  obtain ⟨pk, pi, ⟨px, py⟩, pu⟩ := x
  obtain ⟨p, q⟩ := y
  simp only at hE cO
  obtain ⟨D, hD⟩ : ∃ D, w.heap.size = D := ⟨_, rfl⟩
  obtain ⟨W0, hW0⟩ : ∃ W0, w.alloc (.cells #[.int .i64 p, .int .i64 q] 47) = W0 := ⟨_, rfl⟩
  have q0 : Below w.heap.size w W0 := by subst hW0; exact below_alloc _ _
  have A1 : W0.heap[D]? = some (.cells #[.int .i64 p, .int .i64 q] 47 (0, 0)) := by subst hW0 hD; exact al1 _ _
  obtain ⟨j0, j1, -, -⟩ := box2_cells A1
  clear A1
  obtain ⟨i0, i1, i2, i3, i4⟩ := box5_cells (box_on hE q0)
  clear hE h h'
  go_enter Try.func81, Try.ntmps81
  go_wp2_with fail
  refine (cO _).mono ?_
  rintro e w1 ⟨rfl, b1⟩
  go_wp2
  go_ret
  exact ⟨rfl, by first | exact Below.comp q0 b1 | exact (hD ▸ Below.comp q0 b1)⟩
set_option maxHeartbeats 1000000 in
theorem free2_any (E : Nat) (x y : It) (w : World) (hE : w.heap[E]? = some (.cells #[.int .i64 x.k, .int .i64 x.i, .int .i64 x.x.1, .int .i64 x.x.2, .int .i64 x.u] 71 (0, 0))) (h : -9223372036854775808 ≤ fin x.x ∧ fin x.x ≤ 9223372036854775807) (h' : -9223372036854775808 ≤ fin y.x ∧ fin y.x ≤ 9223372036854775807) :
    Calls Try.prog 84 #[iv y, .pointer (some ⟨E, 0, none⟩)] w fun e w' => e = .returned (.bool (ov x.x y.x)) ∧ Below w.heap.size w w' := by
  have cO := fun W => overlap_any x.x y.x W h h'
  generalize ov x.x y.x = r at *
  obtain ⟨pk, pi, ⟨px, py⟩, pu⟩ := x
  obtain ⟨qk, qi, ⟨qx, qy⟩, qu⟩ := y
  simp only at hE cO
  obtain ⟨D, hD⟩ : ∃ D, w.heap.size = D := ⟨_, rfl⟩
  obtain ⟨W0, hW0⟩ : ∃ W0, w.alloc (.cells #[.int .i64 qk, .int .i64 qi, .int .i64 qx, .int .i64 qy, .int .i64 qu] 71) = W0 := ⟨_, rfl⟩
  have q0 : Below w.heap.size w W0 := by subst hW0; exact below_alloc _ _
  have A1 : W0.heap[D]? = some (.cells #[.int .i64 qk, .int .i64 qi, .int .i64 qx, .int .i64 qy, .int .i64 qu] 71 (0, 0)) := by subst hW0 hD; exact al1 _ _
  obtain ⟨j0, j1, j2, j3, j4⟩ := box5_cells A1
  clear A1
  obtain ⟨i0, i1, i2, i3, i4⟩ := box5_cells (box_on hE q0)
  clear hE h h'
  go_enter Try.func84, Try.ntmps84
  go_wp2_with fail
  refine (cO _).mono ?_
  rintro e w1 ⟨rfl, b1⟩
  go_wp2
  go_ret
  exact ⟨rfl, by first | exact Below.comp q0 b1 | exact (hD ▸ Below.comp q0 b1)⟩

set_option maxHeartbeats 1000000 in
theorem indexX_any (f : Nat) (cap : Array Value) (a : Option Addr) (c : Nat) (l : List Ex) (p0 : Ex → Bool) (w : World) (hn : l.length ≤ 1048576) (ha : Exs w a l)
    (hcf : ∀ (args : Array Value) (u : World), (callFunc f args).run Try.prog u = .ok (.enter f args) u)
    (hp : ∀ x, x ∈ l → ∀ W, Below w.heap.size w W → Calls Try.prog f (#[xv x] ++ cap) W fun e w' => e = .returned (.bool (p0 x)) ∧ Below W.heap.size W w') :
    Calls Try.prog 90 #[.slice a l.length c, .func (.func f) #[] cap] w fun e w' => (∃ z : Int, e = .returned (.int .i64 z) ∧ decide (0 ≤ z) = l.any p0 ∧ -1 ≤ z ∧ z ≤ 1048576) ∧ Below w.heap.size w w' := by
  have HP : Hid (∀ x, x ∈ l → ∀ W, Below w.heap.size w W → Calls Try.prog f (#[xv x] ++ cap) W fun e w' => e = .returned (.bool (p0 x)) ∧ Below W.heap.size W w') := hp
  have HA : Hid (Exs w a l) := ha
  have HL : Hid (∀ k, k < l.length → gx l k ∈ l) := fun k hk => by rw [gx_eq hk]; exact List.getElem_mem hk
  have HN : Hid (∀ k, k < l.length → p0 (gx l k) = true → l.any p0 = true) := fun k hk h => List.any_eq_true.2 ⟨gx l k, by rw [gx_eq hk]; exact List.getElem_mem hk, h⟩
  have HM : Hid ((∀ k, k < l.length → p0 (gx l k) = false) → l.any p0 = false) := fun h => by
    rw [List.any_eq_false]
    intro x hx
    obtain ⟨k, hk, rfl⟩ := List.getElem_of_mem hx
    have := h k hk
    rw [gx_eq hk] at this
    simp [this]
  obtain ⟨n, hnn⟩ : ∃ n, l.length = n := ⟨_, rfl⟩
  obtain ⟨g, hg⟩ : ∃ g, gx l = g := ⟨_, rfl⟩
  have HR : Hid (RowX w a n g) := by rw [← hnn, ← hg]; exact HA.out
  rw [hg] at HL HN HM
  rw [hnn] at hn HL HN HM
  obtain ⟨r, hr⟩ : ∃ r, l.any p0 = r := ⟨_, rfl⟩
  rw [hr] at HN HM
  rw [hr, hnn]
  clear hp ha HA hr hnn hg
  go_enter Try.func90, Try.ntmps90
  go_wp2
  go_loopw [8] (fun i wr => ∃ (k : Nat), k ≤ n ∧ i = .int .i64 k ∧ Hid (∀ j, j < k → p0 (g j) = false) ∧ Below w.heap.size w wr) (fun i _ => n - (intOf i).toNat)
  case atStart => exact ⟨0, Nat.zero_le _, rfl, fun j hj => absurd hj (by omega), Below.refl _ _⟩
  case round =>
    obtain ⟨k, hk, rfl, HO, hb⟩ := hrel
    by_cases hlt : k < n
    · obtain ⟨b, off, rfl, hcell⟩ := (HR.out.below hb) (by omega)
      obtain ⟨k0, k1⟩ := hcell k hlt
      clear hcell
      have cF := fun W h => HP.out (g k) (HL.out k hlt) W h
      have HY : Hid (p0 (g k) = true → r = true) := fun h => HN.out k hlt h
      have HZ : Hid (p0 (g k) = false → ∀ j, j < k + 1 → p0 (g j) = false) := fun h j hj => by
        by_cases e : j = k
        · subst e; exact h
        · exact HO.out j (by omega)
      generalize g k = x at k0 k1 cF HY HZ
      have hlt' : (k : Int) < (n : Int) := by omega
      cases hq : p0 x with
      | true =>
        have hr := HY.out hq
        subst hr
        obtain ⟨p, q⟩ := x
        rw [hq] at cF
        simp only at k0 k1
        go_wp2_with fail
        refine (cF _ hb).mono ?_
        rintro e w1 ⟨rfl, b1⟩
        go_wp2
        go_ret
        exact ⟨⟨k, rfl, by simp, by omega, by omega⟩, Below.comp hb b1⟩
      | false =>
        have hz := HZ.out hq
        have HZ' : Hid (∀ j, j < k + 1 → p0 (g j) = false) := hz
        clear hz HZ HY
        obtain ⟨p, q⟩ := x
        rw [hq] at cF
        simp only at k0 k1
        go_wp2_with fail
        refine (cF _ hb).mono ?_
        rintro e w1 ⟨rfl, b1⟩
        go_wp2
        go_roundw
        case rel => exact ⟨k + 1, by omega, by go_num, HZ', Below.comp hb b1⟩
        case measure => simp [intOf]; omega
    · have hkn : k = n := by omega
      subst hkn
      have hr : r = false := HM.out HO.out
      subst hr
      go_wp2
      go_ret
      exact ⟨⟨-1, rfl, by simp, by omega, by omega⟩, hb⟩
theorem hasX_any (f : Nat) (cap : Array Value) (a : Option Addr) (c : Nat) (l : List Ex) (p0 : Ex → Bool) (w : World) (hn : l.length ≤ 1048576) (ha : Exs w a l)
    (hcf : ∀ (args : Array Value) (u : World), (callFunc f args).run Try.prog u = .ok (.enter f args) u)
    (hp : ∀ x, x ∈ l → ∀ W, Below w.heap.size w W → Calls Try.prog f (#[xv x] ++ cap) W fun e w' => e = .returned (.bool (p0 x)) ∧ Below W.heap.size W w') :
    Calls Try.prog 80 #[.slice a l.length c, .func (.func f) #[] cap] w fun e w' => e = .returned (.bool (l.any p0)) ∧ Below w.heap.size w w' := by
  have cI := indexX_any f cap a c l p0 w hn ha hcf hp
  generalize l.any p0 = r at *
  generalize l.length = n at *
  clear ha hp hcf
  go_enter Try.func80, Try.ntmps80
  go_wp2_with fail
  refine cI.mono ?_
  rintro e w1 ⟨⟨z, rfl, hz, h1, h2⟩, b1⟩
  by_cases hz0 : 0 ≤ z
  · obtain rfl : r = true := by rw [← hz]; simpa using hz0
    go_wp2
    go_ret
    exact ⟨rfl, b1⟩
  · obtain rfl : r = false := by rw [← hz]; simpa using hz0
    go_wp2
    go_ret
    exact ⟨rfl, b1⟩

set_option maxHeartbeats 1000000 in
theorem indexI_any (f : Nat) (cap : Array Value) (a : Option Addr) (c : Nat) (l : List It) (p0 : It → Bool) (w : World) (hn : l.length ≤ 1048576) (ha : Its w a l)
    (hcf : ∀ (args : Array Value) (u : World), (callFunc f args).run Try.prog u = .ok (.enter f args) u)
    (hp : ∀ x, x ∈ l → ∀ W, Below w.heap.size w W → Calls Try.prog f (#[iv x] ++ cap) W fun e w' => e = .returned (.bool (p0 x)) ∧ Below W.heap.size W w') :
    Calls Try.prog 91 #[.slice a l.length c, .func (.func f) #[] cap] w fun e w' => (∃ z : Int, e = .returned (.int .i64 z) ∧ decide (0 ≤ z) = l.any p0 ∧ -1 ≤ z ∧ z ≤ 1048576) ∧ Below w.heap.size w w' := by
  have HP : Hid (∀ x, x ∈ l → ∀ W, Below w.heap.size w W → Calls Try.prog f (#[iv x] ++ cap) W fun e w' => e = .returned (.bool (p0 x)) ∧ Below W.heap.size W w') := hp
  have HA : Hid (Its w a l) := ha
  have HL : Hid (∀ k, k < l.length → gi l k ∈ l) := fun k hk => by rw [gi_eq hk]; exact List.getElem_mem hk
  have HN : Hid (∀ k, k < l.length → p0 (gi l k) = true → l.any p0 = true) := fun k hk h => List.any_eq_true.2 ⟨gi l k, by rw [gi_eq hk]; exact List.getElem_mem hk, h⟩
  have HM : Hid ((∀ k, k < l.length → p0 (gi l k) = false) → l.any p0 = false) := fun h => by
    rw [List.any_eq_false]
    intro x hx
    obtain ⟨k, hk, rfl⟩ := List.getElem_of_mem hx
    have := h k hk
    rw [gi_eq hk] at this
    simp [this]
  obtain ⟨n, hnn⟩ : ∃ n, l.length = n := ⟨_, rfl⟩
  obtain ⟨g, hg⟩ : ∃ g, gi l = g := ⟨_, rfl⟩
  have HR : Hid (RowI w a n g) := by rw [← hnn, ← hg]; exact HA.out
  rw [hg] at HL HN HM
  rw [hnn] at hn HL HN HM
  obtain ⟨r, hr⟩ : ∃ r, l.any p0 = r := ⟨_, rfl⟩
  rw [hr] at HN HM
  rw [hr, hnn]
  clear hp ha HA hr hnn hg
  go_enter Try.func91, Try.ntmps91
  go_wp2
  go_loopw [8] (fun i wr => ∃ (k : Nat), k ≤ n ∧ i = .int .i64 k ∧ Hid (∀ j, j < k → p0 (g j) = false) ∧ Below w.heap.size w wr) (fun i _ => n - (intOf i).toNat)
  case atStart => exact ⟨0, Nat.zero_le _, rfl, fun j hj => absurd hj (by omega), Below.refl _ _⟩
  case round =>
    obtain ⟨k, hk, rfl, HO, hb⟩ := hrel
    by_cases hlt : k < n
    · obtain ⟨b, off, rfl, hcell⟩ := (HR.out.below hb) (by omega)
      obtain ⟨k0, k1, k2, k3, k4⟩ := hcell k hlt
      clear hcell
      have cF := fun W h => HP.out (g k) (HL.out k hlt) W h
      have HY : Hid (p0 (g k) = true → r = true) := fun h => HN.out k hlt h
      have HZ : Hid (p0 (g k) = false → ∀ j, j < k + 1 → p0 (g j) = false) := fun h j hj => by
        by_cases e : j = k
        · subst e; exact h
        · exact HO.out j (by omega)
      generalize g k = x at k0 k1 k2 k3 k4 cF HY HZ
      have hlt' : (k : Int) < (n : Int) := by omega
      cases hq : p0 x with
      | true =>
        have hr := HY.out hq
        subst hr
        obtain ⟨pk, pi, ⟨px, py⟩, pu⟩ := x
        rw [hq] at cF
        simp only at k0 k1 k2 k3 k4
        go_wp2_with fail
        refine (cF _ hb).mono ?_
        rintro e w1 ⟨rfl, b1⟩
        go_wp2
        go_ret
        exact ⟨⟨k, rfl, by simp, by omega, by omega⟩, Below.comp hb b1⟩
      | false =>
        have hz := HZ.out hq
        have HZ' : Hid (∀ j, j < k + 1 → p0 (g j) = false) := hz
        clear hz HZ HY
        obtain ⟨pk, pi, ⟨px, py⟩, pu⟩ := x
        rw [hq] at cF
        simp only at k0 k1 k2 k3 k4
        go_wp2_with fail
        refine (cF _ hb).mono ?_
        rintro e w1 ⟨rfl, b1⟩
        go_wp2
        go_roundw
        case rel => exact ⟨k + 1, by omega, by go_num, HZ', Below.comp hb b1⟩
        case measure => simp [intOf]; omega
    · have hkn : k = n := by omega
      subst hkn
      have hr : r = false := HM.out HO.out
      subst hr
      go_wp2
      go_ret
      exact ⟨⟨-1, rfl, by simp, by omega, by omega⟩, hb⟩
theorem hasI_any (f : Nat) (cap : Array Value) (a : Option Addr) (c : Nat) (l : List It) (p0 : It → Bool) (w : World) (hn : l.length ≤ 1048576) (ha : Its w a l)
    (hcf : ∀ (args : Array Value) (u : World), (callFunc f args).run Try.prog u = .ok (.enter f args) u)
    (hp : ∀ x, x ∈ l → ∀ W, Below w.heap.size w W → Calls Try.prog f (#[iv x] ++ cap) W fun e w' => e = .returned (.bool (p0 x)) ∧ Below W.heap.size W w') :
    Calls Try.prog 83 #[.slice a l.length c, .func (.func f) #[] cap] w fun e w' => e = .returned (.bool (l.any p0)) ∧ Below w.heap.size w w' := by
  have cI := indexI_any f cap a c l p0 w hn ha hcf hp
  generalize l.any p0 = r at *
  generalize l.length = n at *
  clear ha hp hcf
  go_enter Try.func83, Try.ntmps83
  go_wp2_with fail
  refine cI.mono ?_
  rintro e w1 ⟨⟨z, rfl, hz, h1, h2⟩, b1⟩
  by_cases hz0 : 0 ≤ z
  · obtain rfl : r = true := by rw [← hz]; simpa using hz0
    go_wp2
    go_ret
    exact ⟨rfl, b1⟩
  · obtain rfl : r = false := by rw [← hz]; simpa using hz0
    go_wp2
    go_ret
    exact ⟨rfl, b1⟩
end Go.Proofs.Ytpolhigpcllhiaa
