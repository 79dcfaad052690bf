/- pickPlace. -/
import Derived.Test.YtoodioaflaklmaaN4
import Derived.Test.YtoodioaflaklmaaN5
import Derived.Test.YtoodioaflaklmaaN6
import Derived.Test.YtoodioaflaklmaaN7
import Derived.Test.YtoodioaflaklmaaN8
import Derived.Test.YtoodioaflaklmaaZ3
namespace Go.Proofs.Ytoodioaflaklmaa
open Go.ChangeShapes Go.WideShapes Go.ChangeAt Go.RowKit
set_option linter.unusedVariables false
open Room
attribute [local go_sem] Oper.semAt_some
theorem Bwd_any (a : Option Addr) (n cap : Nat) (w : World) : Calls Try.prog 62 #[.slice a n cap] w fun e w' => e = .returned (.func (.func 71) #[] #[.pointer (some ⟨w.heap.size, 0, none⟩)]) ∧ w' = w.alloc (.cells #[.slice a n cap] 27) := by
  go_enter Try.func62, Try.ntmps62
  go_wp2
  go_ret
  exact ⟨rfl, rfl⟩
theorem pk_fst {long u v : Int} {r : Bool} {L : List Ex} (h0 : ∀ x, x ∈ L → 0 ≤ x.1) (h : Fst L.length (gx L) (fit long) (u, v) r) : u = nrV (fstA long L) ∧ r = nrB (fstA long L) := by
  rcases h with ⟨rfl, k, hk, hy, hp, hj⟩ | ⟨rfl, hy, hj⟩
  · have e := fstA_some (long := long) hk (by simpa [fit] using hp) (fun j h => by have := hj j h; simpa [fit] using this)
    have hu : u = (gx L k).1 := congrArg Prod.fst hy
    have h1 := h0 (gx L k) (by rw [gx_eq hk]; exact List.getElem_mem hk)
    rw [e]
    exact ⟨by rw [hu]; exact (if_pos h1).symm, (decide_eq_true h1).symm⟩
  · have e := fstA_none (long := long) (l := L) (fun j h => by have := hj j h; simpa [fit] using this)
    rw [e]
    exact ⟨congrArg Prod.fst hy, rfl⟩
theorem pk_lst {long u v : Int} {r : Bool} {s : List Ex} (hs : So ltS s) (h0 : ∀ x, x ∈ s → 0 ≤ x.1) (h : Fst s.length (fun i => gx s (s.length - 1 - i)) (fit long) (u, v) r) : u = nrV (lstA long s) ∧ r = nrB (lstA long s) := by
  rcases h with ⟨rfl, k, hk, hy, hp, hj⟩ | ⟨rfl, hy, hj⟩
  · have hp' : long ≤ (gx s (s.length - 1 - k)).2 := by simpa [fit] using hp
    have hl : 0 < s.length ∧ long ≤ (gx s (s.length - 1)).2 := by
      refine Classical.byContradiction fun h => ?_
      exact lst_none hs h (s.length - 1 - k) (by omega) hp'
    have hk0 : k = 0 := by
      refine Classical.byContradiction fun h => ?_
      have := hj 0 (by omega)
      have : ¬ long ≤ (gx s (s.length - 1)).2 := by simpa [fit] using this
      exact this hl.2
    subst hk0
    have e : lstA long s = (gx s (s.length - 1)).1 := if_pos hl
    have hu : u = (gx s (s.length - 1)).1 := congrArg Prod.fst hy
    have h1 := h0 (gx s (s.length - 1)) (by rw [gx_eq (by omega)]; exact List.getElem_mem _)
    rw [e]
    exact ⟨by rw [hu]; exact (if_pos h1).symm, (decide_eq_true h1).symm⟩
  · have e : lstA long s = -1 := if_neg fun h => by
      have := hj 0 h.1
      have : ¬ long ≤ (gx s (s.length - 1)).2 := by simpa [fit] using this
      exact this h.2
    rw [e]
    exact ⟨congrArg Prod.fst hy, rfl⟩
theorem sx_rev {w : World} {n₀ Bs : Nat} {a : Option Addr} {n cap : Nat} {f : Nat → Ex} (h : Sx w n₀ Bs a n cap f) : Sx w n₀ Bs a n cap (fun i => (fun j => f (n - 1 - j)) (n - 1 - i)) :=
  ⟨h.lt, h.c0, fun hn => by
    obtain ⟨b, off, e, h1, h3⟩ := h.row hn
    refine ⟨b, off, e, h1, fun i hi => ?_⟩
    simp only [show n - 1 - (n - 1 - i) = i by omega]
    exact h3 i hi⟩
set_option maxHeartbeats 2000000 in
theorem implPick1 (b : Int) (a : Option Addr) (ca : Nat) (a' : Option Addr) (ca' : Nat) (l s : List Ex) (long near : Int) (w : World) (hn : l.length ≤ 60) (hn' : s.length ≤ 60) (hl : 1 ≤ long ∧ long ≤ 9223372036854775807) (hne : 0 ≤ near ∧ near ≤ 400) (hx : ∀ x, x ∈ l → 0 ≤ x.1 ∧ 1 ≤ x.2 ∧ fin x ≤ 400) (hx' : ∀ x, x ∈ s → 0 ≤ x.1) (hs : So ltS s) (ha : Exs w a l) (ha' : Exs w a' s) :
    Calls Try.prog 47 #[fv b a l.length ca a' s.length ca', .int .i64 long, .int .i64 1, .int .i64 near] w fun e w' => e = .returned (.tuple #[.int .i64 (nrV (fstA long l)), .bool (nrB (fstA long l))]) ∧ Below w.heap.size w w' := by
  obtain ⟨D, hD⟩ : ∃ D, w.heap.size = D := ⟨_, rfl⟩
  obtain ⟨W0, hW0⟩ : ∃ W0, ((w.alloc (.cells #[.int .i64 b, .slice a l.length ca, .slice a' s.length ca'] 29)).alloc (.cells #[.int .i64 long] 3)).alloc (.cells #[.int .i64 0, .int .i64 0] 41) = W0 := ⟨_, rfl⟩
  have g0 : Below w.heap.size w W0 := by subst hW0; exact ba3 _ _ _ _
  obtain ⟨B1, B2, B3⟩ : W0.heap[D]? = some (.cells #[.int .i64 b, .slice a l.length ca, .slice a' s.length ca'] 29 (0, 0)) ∧ W0.heap[D + 1]? = some (.cells #[.int .i64 long] 3 (0, 0)) ∧ W0.heap[D + 1 + 1]? = some (.cells #[.int .i64 0, .int .i64 0] 41 (0, 0)) := by subst hW0 hD; exact al3 _ _ _ _
  have H1 : Hid (W0.heap[D]? = some (.cells #[.int .i64 b, .slice a l.length ca, .slice a' s.length ca'] 29 (0, 0))) := B1
  have H2 : Hid (W0.heap[D + 1]? = some (.cells #[.int .i64 long] 3 (0, 0))) := B2
  have H3 : Hid (W0.heap[D + 1 + 1]? = some (.cells #[.int .i64 0, .int .i64 0] 41 (0, 0))) := B3
  have z0 := box_lt B3
  obtain ⟨i0, i1, i2, -, -, -⟩ := box3_cells B1
  obtain ⟨j0, -⟩ := cell1 B2
  clear B1 B2 B3
  have cF := first74 W0.heap.size (D + 1) a l.length ca (gx l) (fit long) (W0.alloc (.cells #[.slice a l.length ca] 27)) (by omega) ( (sx_of (ha.below g0))) (fun i hi W hW => cl74_any long (D + 1) _ W (box_on H2.out (Below.comp (below_alloc _ _) hW)))
  have HPK : Hid (∀ u v r, Fst l.length (gx l) (fit long) (u, v) r → u = nrV (fstA long l) ∧ r = nrB (fstA long l)) := fun u v r h => pk_fst (fun x h => (hx x h).1) h
  generalize fstA long l = B at *
  clear ha ha' hx hx' hs
  go_enter Try.func47, Try.ntmps47
  go_wp2_with fail
  refine (All_any a l.length ca _).mono ?_
  rintro e wA ⟨rfl, rfl⟩
  clear hW0 i0 i1 i2 j0
  go_wp2_with fail
  refine cF.mono ?_
  rintro e w3 ⟨b3', y, r, rfl, hF⟩
  clear cF
  have b3 : Below W0.heap.size W0 w3 := Below.comp (below_alloc _ _) b3'
  clear b3'
  obtain ⟨u, v⟩ := y
  obtain ⟨hu, hr⟩ := HPK.out u v r hF
  have HU : Hid (u = nrV B ∧ r = nrB B) := ⟨hu, hr⟩
  clear hF HPK hu hr
  have R1 := box_on H3.out b3
  obtain ⟨r0, r1, q0, q1⟩ := box2_cells R1
  have oX : Out (D + 1 + 1) (D + 1 + 1 + 1) w3 ((w3.setCell ⟨D + 1 + 1, 0, none⟩ (.int .i64 u)).setCell ⟨D + 1 + 1, 1, none⟩ (.int .i64 v)) := ((Out.refl _ _ _).setCell (Nat.le_refl _) (Nat.lt_succ_self _) _ _).setCell (Nat.le_refl _) (Nat.lt_succ_self _) _ _
  have RX := box2_set (x0 := .int .i64 u) (x1 := .int .i64 v) R1
  obtain ⟨X, hX⟩ : ∃ X, (w3.setCell ⟨D + 1 + 1, 0, none⟩ (.int .i64 u)).setCell ⟨D + 1 + 1, 1, none⟩ (.int .i64 v) = X := ⟨_, rfl⟩
  rw [hX] at oX RX
  obtain ⟨t0, t1, -, -⟩ := box2_cells RX
  have z3 := b3.size
  have gX : Below w.heap.size w X := (Below.comp g0 b3).trans ((oX.below (by omega)).mono (by omega))
  go_wp2
  exact bodyPost_ret (v := .tuple #[.int .i64 u, .bool r]) (by simp [results, Try.results47, go_sem]) rfl ⟨by rw [← HU.out.1, ← HU.out.2], by first | exact gX | exact (hD ▸ gX)⟩
set_option maxHeartbeats 2000000 in
theorem implPick2 (b : Int) (a : Option Addr) (ca : Nat) (a' : Option Addr) (ca' : Nat) (l s : List Ex) (long near : Int) (w : World) (hn : l.length ≤ 60) (hn' : s.length ≤ 60) (hl : 1 ≤ long ∧ long ≤ 9223372036854775807) (hne : 0 ≤ near ∧ near ≤ 400) (hx : ∀ x, x ∈ l → 0 ≤ x.1 ∧ 1 ≤ x.2 ∧ fin x ≤ 400) (hx' : ∀ x, x ∈ s → 0 ≤ x.1) (hs : So ltS s) (ha : Exs w a l) (ha' : Exs w a' s) :
    Calls Try.prog 47 #[fv b a l.length ca a' s.length ca', .int .i64 long, .int .i64 2, .int .i64 near] w fun e w' => e = .returned (.tuple #[.int .i64 (nrV (fstA long s)), .bool (nrB (fstA long s))]) ∧ Below w.heap.size w w' := by
  obtain ⟨D, hD⟩ : ∃ D, w.heap.size = D := ⟨_, rfl⟩
  obtain ⟨W0, hW0⟩ : ∃ W0, ((w.alloc (.cells #[.int .i64 b, .slice a l.length ca, .slice a' s.length ca'] 29)).alloc (.cells #[.int .i64 long] 3)).alloc (.cells #[.int .i64 0, .int .i64 0] 41) = W0 := ⟨_, rfl⟩
  have g0 : Below w.heap.size w W0 := by subst hW0; exact ba3 _ _ _ _
  obtain ⟨B1, B2, B3⟩ : W0.heap[D]? = some (.cells #[.int .i64 b, .slice a l.length ca, .slice a' s.length ca'] 29 (0, 0)) ∧ W0.heap[D + 1]? = some (.cells #[.int .i64 long] 3 (0, 0)) ∧ W0.heap[D + 1 + 1]? = some (.cells #[.int .i64 0, .int .i64 0] 41 (0, 0)) := by subst hW0 hD; exact al3 _ _ _ _
  have H1 : Hid (W0.heap[D]? = some (.cells #[.int .i64 b, .slice a l.length ca, .slice a' s.length ca'] 29 (0, 0))) := B1
  have H2 : Hid (W0.heap[D + 1]? = some (.cells #[.int .i64 long] 3 (0, 0))) := B2
  have H3 : Hid (W0.heap[D + 1 + 1]? = some (.cells #[.int .i64 0, .int .i64 0] 41 (0, 0))) := B3
  have z0 := box_lt B3
  obtain ⟨i0, i1, i2, -, -, -⟩ := box3_cells B1
  obtain ⟨j0, -⟩ := cell1 B2
  clear B1 B2 B3
  have cF := first74 W0.heap.size (D + 1) a' s.length ca' (gx s) (fit long) (W0.alloc (.cells #[.slice a' s.length ca'] 27)) (by omega) ( (sx_of (ha'.below g0))) (fun i hi W hW => cl74_any long (D + 1) _ W (box_on H2.out (Below.comp (below_alloc _ _) hW)))
  have HPK : Hid (∀ u v r, Fst s.length (gx s) (fit long) (u, v) r → u = nrV (fstA long s) ∧ r = nrB (fstA long s)) := fun u v r h => pk_fst hx' h
  generalize fstA long s = B at *
  clear ha ha' hx hx' hs
  go_enter Try.func47, Try.ntmps47
  go_wp2_with fail
  refine (All_any a' s.length ca' _).mono ?_
  rintro e wA ⟨rfl, rfl⟩
  clear hW0 i0 i1 i2 j0
  go_wp2_with fail
  refine cF.mono ?_
  rintro e w3 ⟨b3', y, r, rfl, hF⟩
  clear cF
  have b3 : Below W0.heap.size W0 w3 := Below.comp (below_alloc _ _) b3'
  clear b3'
  obtain ⟨u, v⟩ := y
  obtain ⟨hu, hr⟩ := HPK.out u v r hF
  have HU : Hid (u = nrV B ∧ r = nrB B) := ⟨hu, hr⟩
  clear hF HPK hu hr
  have R1 := box_on H3.out b3
  obtain ⟨r0, r1, q0, q1⟩ := box2_cells R1
  have oX : Out (D + 1 + 1) (D + 1 + 1 + 1) w3 ((w3.setCell ⟨D + 1 + 1, 0, none⟩ (.int .i64 u)).setCell ⟨D + 1 + 1, 1, none⟩ (.int .i64 v)) := ((Out.refl _ _ _).setCell (Nat.le_refl _) (Nat.lt_succ_self _) _ _).setCell (Nat.le_refl _) (Nat.lt_succ_self _) _ _
  have RX := box2_set (x0 := .int .i64 u) (x1 := .int .i64 v) R1
  obtain ⟨X, hX⟩ : ∃ X, (w3.setCell ⟨D + 1 + 1, 0, none⟩ (.int .i64 u)).setCell ⟨D + 1 + 1, 1, none⟩ (.int .i64 v) = X := ⟨_, rfl⟩
  rw [hX] at oX RX
  obtain ⟨t0, t1, -, -⟩ := box2_cells RX
  have z3 := b3.size
  have gX : Below w.heap.size w X := (Below.comp g0 b3).trans ((oX.below (by omega)).mono (by omega))
  go_wp2
  exact bodyPost_ret (v := .tuple #[.int .i64 u, .bool r]) (by simp [results, Try.results47, go_sem]) rfl ⟨by rw [← HU.out.1, ← HU.out.2], by first | exact gX | exact (hD ▸ gX)⟩
set_option maxHeartbeats 2000000 in
theorem implPick3 (b : Int) (a : Option Addr) (ca : Nat) (a' : Option Addr) (ca' : Nat) (l s : List Ex) (long near : Int) (w : World) (hn : l.length ≤ 60) (hn' : s.length ≤ 60) (hl : 1 ≤ long ∧ long ≤ 9223372036854775807) (hne : 0 ≤ near ∧ near ≤ 400) (hx : ∀ x, x ∈ l → 0 ≤ x.1 ∧ 1 ≤ x.2 ∧ fin x ≤ 400) (hx' : ∀ x, x ∈ s → 0 ≤ x.1) (hs : So ltS s) (ha : Exs w a l) (ha' : Exs w a' s) :
    Calls Try.prog 47 #[fv b a l.length ca a' s.length ca', .int .i64 long, .int .i64 3, .int .i64 near] w fun e w' => e = .returned (.tuple #[.int .i64 (nrV (lstA long s)), .bool (nrB (lstA long s))]) ∧ Below w.heap.size w w' := by
  obtain ⟨D, hD⟩ : ∃ D, w.heap.size = D := ⟨_, rfl⟩
  obtain ⟨W0, hW0⟩ : ∃ W0, ((w.alloc (.cells #[.int .i64 b, .slice a l.length ca, .slice a' s.length ca'] 29)).alloc (.cells #[.int .i64 long] 3)).alloc (.cells #[.int .i64 0, .int .i64 0] 41) = W0 := ⟨_, rfl⟩
  have g0 : Below w.heap.size w W0 := by subst hW0; exact ba3 _ _ _ _
  obtain ⟨B1, B2, B3⟩ : W0.heap[D]? = some (.cells #[.int .i64 b, .slice a l.length ca, .slice a' s.length ca'] 29 (0, 0)) ∧ W0.heap[D + 1]? = some (.cells #[.int .i64 long] 3 (0, 0)) ∧ W0.heap[D + 1 + 1]? = some (.cells #[.int .i64 0, .int .i64 0] 41 (0, 0)) := by subst hW0 hD; exact al3 _ _ _ _
  have H1 : Hid (W0.heap[D]? = some (.cells #[.int .i64 b, .slice a l.length ca, .slice a' s.length ca'] 29 (0, 0))) := B1
  have H2 : Hid (W0.heap[D + 1]? = some (.cells #[.int .i64 long] 3 (0, 0))) := B2
  have H3 : Hid (W0.heap[D + 1 + 1]? = some (.cells #[.int .i64 0, .int .i64 0] 41 (0, 0))) := B3
  have z0 := box_lt B3
  obtain ⟨i0, i1, i2, -, -, -⟩ := box3_cells B1
  obtain ⟨j0, -⟩ := cell1 B2
  clear B1 B2 B3
  have cF := first74b W0.heap.size (D + 1) a' s.length ca' (fun j => gx s (s.length - 1 - j)) (fit long) (W0.alloc (.cells #[.slice a' s.length ca'] 27)) (by omega) (sx_rev (sx_of (ha'.below g0))) (fun i hi W hW => cl74_any long (D + 1) _ W (box_on H2.out (Below.comp (below_alloc _ _) hW)))
  have HPK : Hid (∀ u v r, Fst s.length (fun j => gx s (s.length - 1 - j)) (fit long) (u, v) r → u = nrV (lstA long s) ∧ r = nrB (lstA long s)) := fun u v r h => pk_lst hs hx' h
  generalize lstA long s = B at *
  clear ha ha' hx hx' hs
  go_enter Try.func47, Try.ntmps47
  go_wp2_with fail
  refine (Bwd_any a' s.length ca' _).mono ?_
  rintro e wA ⟨rfl, rfl⟩
  clear hW0 i0 i1 i2 j0
  go_wp2_with fail
  refine cF.mono ?_
  rintro e w3 ⟨b3', y, r, rfl, hF⟩
  clear cF
  have b3 : Below W0.heap.size W0 w3 := Below.comp (below_alloc _ _) b3'
  clear b3'
  obtain ⟨u, v⟩ := y
  obtain ⟨hu, hr⟩ := HPK.out u v r hF
  have HU : Hid (u = nrV B ∧ r = nrB B) := ⟨hu, hr⟩
  clear hF HPK hu hr
  have R1 := box_on H3.out b3
  obtain ⟨r0, r1, q0, q1⟩ := box2_cells R1
  have oX : Out (D + 1 + 1) (D + 1 + 1 + 1) w3 ((w3.setCell ⟨D + 1 + 1, 0, none⟩ (.int .i64 u)).setCell ⟨D + 1 + 1, 1, none⟩ (.int .i64 v)) := ((Out.refl _ _ _).setCell (Nat.le_refl _) (Nat.lt_succ_self _) _ _).setCell (Nat.le_refl _) (Nat.lt_succ_self _) _ _
  have RX := box2_set (x0 := .int .i64 u) (x1 := .int .i64 v) R1
  obtain ⟨X, hX⟩ : ∃ X, (w3.setCell ⟨D + 1 + 1, 0, none⟩ (.int .i64 u)).setCell ⟨D + 1 + 1, 1, none⟩ (.int .i64 v) = X := ⟨_, rfl⟩
  rw [hX] at oX RX
  obtain ⟨t0, t1, -, -⟩ := box2_cells RX
  have z3 := b3.size
  have gX : Below w.heap.size w X := (Below.comp g0 b3).trans ((oX.below (by omega)).mono (by omega))
  go_wp2
  exact bodyPost_ret (v := .tuple #[.int .i64 u, .bool r]) (by simp [results, Try.results47, go_sem]) rfl ⟨by rw [← HU.out.1, ← HU.out.2], by first | exact gX | exact (hD ▸ gX)⟩
set_option maxHeartbeats 2000000 in
theorem implPick4 (b : Int) (a : Option Addr) (ca : Nat) (a' : Option Addr) (ca' : Nat) (l s : List Ex) (long near : Int) (w : World) (hn : l.length ≤ 60) (hn' : s.length ≤ 60) (hl : 1 ≤ long ∧ long ≤ 9223372036854775807) (hne : 0 ≤ near ∧ near ≤ 400) (hx : ∀ x, x ∈ l → 0 ≤ x.1 ∧ 1 ≤ x.2 ∧ fin x ≤ 400) (hx' : ∀ x, x ∈ s → 0 ≤ x.1) (hs : So ltS s) (ha : Exs w a l) (ha' : Exs w a' s) :
    Calls Try.prog 47 #[fv b a l.length ca a' s.length ca', .int .i64 long, .int .i64 4, .int .i64 near] w fun e w' => e = .returned (.tuple #[.int .i64 (nrV (nrL long near l)), .bool (nrB (nrL long near l))]) ∧ Below w.heap.size w w' := by
  obtain ⟨D, hD⟩ : ∃ D, w.heap.size = D := ⟨_, rfl⟩
  obtain ⟨W0, hW0⟩ : ∃ W0, ((w.alloc (.cells #[.int .i64 b, .slice a l.length ca, .slice a' s.length ca'] 29)).alloc (.cells #[.int .i64 long] 3)).alloc (.cells #[.int .i64 0, .int .i64 0] 41) = W0 := ⟨_, rfl⟩
  have g0 : Below w.heap.size w W0 := by subst hW0; exact ba3 _ _ _ _
  obtain ⟨B1, B2, B3⟩ : W0.heap[D]? = some (.cells #[.int .i64 b, .slice a l.length ca, .slice a' s.length ca'] 29 (0, 0)) ∧ W0.heap[D + 1]? = some (.cells #[.int .i64 long] 3 (0, 0)) ∧ W0.heap[D + 1 + 1]? = some (.cells #[.int .i64 0, .int .i64 0] 41 (0, 0)) := by subst hW0 hD; exact al3 _ _ _ _
  have H1 : Hid (W0.heap[D]? = some (.cells #[.int .i64 b, .slice a l.length ca, .slice a' s.length ca'] 29 (0, 0))) := B1
  have H2 : Hid (W0.heap[D + 1]? = some (.cells #[.int .i64 long] 3 (0, 0))) := B2
  have H3 : Hid (W0.heap[D + 1 + 1]? = some (.cells #[.int .i64 0, .int .i64 0] 41 (0, 0))) := B3
  have z0 := box_lt B3
  obtain ⟨i0, i1, i2, -, -, -⟩ := box3_cells B1
  obtain ⟨j0, -⟩ := cell1 B2
  clear B1 B2 B3
  have cN := nearest_any a ca l long near W0 hn hl hne hx (ha.below g0)
  generalize nrL long near l = B at *
  generalize nrV B = u at *
  generalize nrB B = r at *
  clear ha ha' hx hx' hs
  go_enter Try.func47, Try.ntmps47
  go_wp2_with fail
  refine cN.mono ?_
  rintro e w3 ⟨rfl, b3⟩
  clear hW0
  go_wp2
  exact bodyPost_ret (v := .tuple #[.int .i64 u, .bool r]) (by simp [results, Try.results47, go_sem]) rfl ⟨rfl, by first | exact Below.comp g0 b3 | exact (hD ▸ Below.comp g0 b3)⟩
set_option maxHeartbeats 2000000 in
theorem implPick0 (b : Int) (a : Option Addr) (ca : Nat) (a' : Option Addr) (ca' : Nat) (l s : List Ex) (long how near : Int) (h1 : how ≠ 1) (h2 : how ≠ 2) (h3 : how ≠ 3) (h4 : how ≠ 4) (w : World) (hn : l.length ≤ 60) (hn' : s.length ≤ 60) (hl : 1 ≤ long ∧ long ≤ 9223372036854775807) (hne : 0 ≤ near ∧ near ≤ 400) (hx : ∀ x, x ∈ l → 0 ≤ x.1 ∧ 1 ≤ x.2 ∧ fin x ≤ 400) (hx' : ∀ x, x ∈ s → 0 ≤ x.1) (hs : So ltS s) (ha : Exs w a l) (ha' : Exs w a' s) :
    Calls Try.prog 47 #[fv b a l.length ca a' s.length ca', .int .i64 long, .int .i64 how, .int .i64 near] w fun e w' => e = .returned (.tuple #[.int .i64 (nrV ((-1))), .bool (nrB ((-1)))]) ∧ Below w.heap.size w w' := by
  obtain ⟨D, hD⟩ : ∃ D, w.heap.size = D := ⟨_, rfl⟩
  obtain ⟨W0, hW0⟩ : ∃ W0, ((w.alloc (.cells #[.int .i64 b, .slice a l.length ca, .slice a' s.length ca'] 29)).alloc (.cells #[.int .i64 long] 3)).alloc (.cells #[.int .i64 0, .int .i64 0] 41) = W0 := ⟨_, rfl⟩
  have g0 : Below w.heap.size w W0 := by subst hW0; exact ba3 _ _ _ _
  obtain ⟨B1, B2, B3⟩ : W0.heap[D]? = some (.cells #[.int .i64 b, .slice a l.length ca, .slice a' s.length ca'] 29 (0, 0)) ∧ W0.heap[D + 1]? = some (.cells #[.int .i64 long] 3 (0, 0)) ∧ W0.heap[D + 1 + 1]? = some (.cells #[.int .i64 0, .int .i64 0] 41 (0, 0)) := by subst hW0 hD; exact al3 _ _ _ _
  have H1 : Hid (W0.heap[D]? = some (.cells #[.int .i64 b, .slice a l.length ca, .slice a' s.length ca'] 29 (0, 0))) := B1
  have H2 : Hid (W0.heap[D + 1]? = some (.cells #[.int .i64 long] 3 (0, 0))) := B2
  have H3 : Hid (W0.heap[D + 1 + 1]? = some (.cells #[.int .i64 0, .int .i64 0] 41 (0, 0))) := B3
  have z0 := box_lt B3
  obtain ⟨i0, i1, i2, -, -, -⟩ := box3_cells B1
  obtain ⟨j0, -⟩ := cell1 B2
  clear B1 B2 B3
  have e1 : (how == 1) = false := by simpa using h1
  have e2 : (how == 2) = false := by simpa using h2
  have e3 : (how == 3) = false := by simpa using h3
  have e4 : (how == 4) = false := by simpa using h4
  obtain ⟨t0, t1, -, -⟩ := box2_cells H3.out
  go_enter Try.func47, Try.ntmps47
  go_wp2
  exact bodyPost_ret (v := .tuple #[.int .i64 0, .bool false]) (by simp [results, Try.results47, go_sem]) rfl ⟨rfl, by first | exact g0 | exact (hD ▸ g0)⟩
theorem implPick_any (b : Int) (a : Option Addr) (ca : Nat) (a' : Option Addr) (ca' : Nat) (l s : List Ex) (long how near : Int) (w : World) (hn : l.length ≤ 60) (hn' : s.length ≤ 60) (hl : 1 ≤ long ∧ long ≤ 9223372036854775807) (hne : 0 ≤ near ∧ near ≤ 400) (hx : ∀ x, x ∈ l → 0 ≤ x.1 ∧ 1 ≤ x.2 ∧ fin x ≤ 400) (hx' : ∀ x, x ∈ s → 0 ≤ x.1) (hs : So ltS s) (ha : Exs w a l) (ha' : Exs w a' s) :
    Calls Try.prog 47 #[fv b a l.length ca a' s.length ca', .int .i64 long, .int .i64 how, .int .i64 near] w fun e w' => e = .returned (.tuple #[.int .i64 (nrV (pkI l s long how near)), .bool (nrB (pkI l s long how near))]) ∧ Below w.heap.size w w' := by
  unfold pkI
  by_cases h1 : how = 1
  · subst h1; exact implPick1 b a ca a' ca' l s long near w hn hn' hl hne hx hx' hs ha ha'
  rw [if_neg h1]
  by_cases h2 : how = 2
  · subst h2; exact implPick2 b a ca a' ca' l s long near w hn hn' hl hne hx hx' hs ha ha'
  rw [if_neg h2]
  by_cases h3 : how = 3
  · subst h3; exact implPick3 b a ca a' ca' l s long near w hn hn' hl hne hx hx' hs ha ha'
  rw [if_neg h3]
  by_cases h4 : how = 4
  · subst h4; exact implPick4 b a ca a' ca' l s long near w hn hn' hl hne hx hx' hs ha ha'
  rw [if_neg h4]
  exact implPick0 b a ca a' ca' l s long how near h1 h2 h3 h4 w hn hn' hl hne hx hx' hs ha ha'
theorem l5Pick_any (b : Int) (a : Option Addr) (ca : Nat) (a' : Option Addr) (ca' : Nat) (l s : List Ex) (long how near : Int) (w : World) (hn : l.length ≤ 60) (hn' : s.length ≤ 60) (hl : 1 ≤ long ∧ long ≤ 400) (hh : 1 ≤ how ∧ how ≤ 4) (hne : 0 ≤ near ∧ near ≤ 400) (hx : ∀ x, x ∈ l → 0 ≤ x.1 ∧ 1 ≤ x.2 ∧ fin x ≤ 400) (ha : Exs w a l) (ha' : Exs w a' s) :
    Calls Try.prog 43 #[fv b a l.length ca a' s.length ca', .int .i64 long, .int .i64 how, .int .i64 near] w fun e w' => e = .returned (.int .i64 (pkI l s long how near)) ∧ Below w.heap.size w w' := by
  unfold pkI
  by_cases h1 : how = 1
  · subst h1; exact pick1 b a ca a' ca' l s long near w hn hn' hl hne hx ha ha'
  rw [if_neg h1]
  by_cases h2 : how = 2
  · subst h2; exact pick2 b a ca a' ca' l s long near w hn hn' hl hne hx ha ha'
  rw [if_neg h2]
  by_cases h3 : how = 3
  · subst h3; exact pick3 b a ca a' ca' l s long near w hn hn' hl hne hx ha ha'
  rw [if_neg h3]
  obtain rfl : how = 4 := by omega
  exact pick4 b a ca a' ca' l s long near w hn hn' hl hne hx ha ha'
end Go.Proofs.Ytoodioaflaklmaa
