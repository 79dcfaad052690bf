import Derived.Test.YtoodioaflaklmaaX2
/- The search by halves in a row that is in order. -/
namespace Go.Proofs.Ytoodioaflaklmaa
open Go.ChangeShapes Go.WideShapes Go.ChangeAt Go.RowKit
set_option linter.unusedVariables false
open Room

attribute [local go_sem] Oper.semAt_some

theorem ltS_cf (x y : Ex) : ltS x y = decide (cfS x y < 0) := by
  exact (ltOf_S x y).symm
set_option maxHeartbeats 2000000 in
theorem SearchS_any (a : Option Addr) (cap : Nat) (l : List Ex) (x : Ex) (w : World) (hn : l.length ≤ 1000) (hs : So ltS l) (hc : Exs w a l) :
    Calls Try.prog 86 #[.slice a l.length cap, xv x, .func (.func 59) #[] #[]] w fun e w' => Below w.heap.size w w' ∧ ∃ r, e = .returned (.tuple #[.int .i64 (lb ltS x l : Nat), .bool r]) := by
  obtain ⟨p, q⟩ := x
  have hmono : ∀ i j, i ≤ j → j < l.length → ltS (gx l j) (p, q) = true → ltS (gx l i) (p, q) = true := fun i j hij hj h => by
    by_cases e : i = j
    · rw [e]; exact h
    · have := List.pairwise_iff_getElem.1 hs i j (by omega) hj (by omega)
      rw [← gx_eq (by omega), ← gx_eq hj] at this
      exact ordS.tr _ _ _ this h
  have hlb : ∀ k, k ≤ l.length → (∀ t, t < k → ltS (gx l t) (p, q) = true) → (∀ t, k ≤ t → t < l.length → ltS (gx l t) (p, q) = false) → lb ltS (p, q) l = k := fun k h1 h2 h3 => lb_first h1 h2 fun h => h3 k (Nat.le_refl _) h
  have Hm : Hid _ := hmono
  have Hl : Hid _ := hlb
  clear hmono hlb hs
  unfold Exs at hc
  generalize lb ltS (p, q) l = K at *
  generalize hf : gx l = f at *
  generalize l.length = n at *
  clear hf
  obtain ⟨D, hD⟩ : ∃ D, w.heap.size = D := ⟨_, rfl⟩
  obtain ⟨W0, hW0⟩ : ∃ W0, w.alloc (.cells #[.int .i64 p, .int .i64 q] 41) = W0 := ⟨_, rfl⟩
  have g0 : Below w.heap.size w W0 := by subst hW0; exact below_alloc _ _
  have HD : Hid (W0.heap[D]? = some (.cells #[.int .i64 p, .int .i64 q] 41 (0, 0))) := by subst hW0 hD; exact al1 _ _
  go_enter Try.func86, Try.ntmps86
  go_wp2
  go_loopw [9, 10] (fun i j wr => ∃ (lo hi : Nat), lo ≤ hi ∧ hi ≤ n ∧ i = .int .i64 lo ∧ j = .int .i64 hi ∧ Hid ((∀ t, t < lo → ltS (f t) (p, q) = true) ∧ (∀ t, hi ≤ t → t < n → ltS (f t) (p, q) = false)) ∧ Below W0.heap.size W0 wr) (fun i j _ => (intOf j).toNat - (intOf i).toNat)
  case atStart => exact ⟨0, n, Nat.zero_le _, Nat.le_refl _, rfl, rfl, ⟨fun t ht => absurd ht (by omega), fun t h1 h2 => absurd h2 (by omega)⟩, Below.refl _ _⟩
  case round =>
    obtain ⟨lo, hi, hlh, hin, rfl, rfl, HI, hb⟩ := hrel
    obtain ⟨d0, d1, -, -⟩ := box2_cells (box_on HD.out hb)
    by_cases hlt : lo < hi
    · obtain ⟨h, hh⟩ : ∃ h, (lo + hi) / 2 = h := ⟨_, rfl⟩
      have hm0 : h < n := by omega
      have hm1 : lo ≤ h := by omega
      have hm2 : h < hi := by omega
      have eh : ((lo : Int) + (hi : Int)) / 2 = (h : Int) := by omega
      have hm0' : (h : Int) < (n : Int) := by omega
      clear hh
      obtain ⟨bb, off, rfl, hcell⟩ := (hc.below (Below.comp g0 hb)) (by omega)
      obtain ⟨k0, k1⟩ := hcell (h) (by omega)
      clear hcell
      generalize hy : f (h) = y at k0 k1
      have HY : Hid _ := hy
      clear hy
      obtain ⟨p', q'⟩ := y
      simp only at k0 k1
      have cc := compareSizes_any (p', q') (p, q)
      have SB : Hid (∀ W, Below wr.heap.size wr W → W.cell? ⟨bb, off + h * 2, none⟩ = some (.int .i64 p') ∧ W.cell? ⟨bb, off + h * 2 + 1, none⟩ = some (.int .i64 q') ∧ W.cell? ⟨D, 0, none⟩ = some (.int .i64 p) ∧ W.cell? ⟨D, 1, none⟩ = some (.int .i64 q) ∧ Below wr.heap.size wr W) := fun W z => ⟨cell_on k0 z, cell_on k1 z, cell_on d0 z, cell_on d1 z, z⟩
      have hlt' := ltS_cf (p', q') (p, q)
      clear k0 k1 d0 d1
      generalize cfS (p', q') (p, q) = F at *
      by_cases hF : F < 0
      · have hr : ltS (f (h)) (p, q) = true := by rw [HY.out, hlt']; simp; omega
        have HR : Hid _ := hr
        have dF : decide (F < 0) = true := by simp; omega
        clear hr hlt'
        go_wp2
        go_region_held3 (fun W => W.cell? ⟨bb, off + h * 2, none⟩ = some (.int .i64 p') ∧ W.cell? ⟨bb, off + h * 2 + 1, none⟩ = some (.int .i64 q') ∧ W.cell? ⟨D, 0, none⟩ = some (.int .i64 p) ∧ W.cell? ⟨D, 1, none⟩ = some (.int .i64 q) ∧ Below wr.heap.size wr W)
          ((refine SB.out _ ?_; first | assumption | exact Below.drew (Below.refl _ _)))
          (first
          | (go_at_call 59; obtain ⟨-, -, -, -, hw0⟩ := ‹_ ∧ _ ∧ _ ∧ _ ∧ Below wr.heap.size wr _›; refine (cc _).mono ?_; rintro e w1 ⟨rfl, g1⟩; have g2 := Below.comp hw0 g1.below))
        all_goals go_wp2
        go_roundw
        case rel => exact ⟨h + 1, hi, by omega, hin, by go_num, rfl, ⟨fun t ht => Hm.out t (h) (by omega) (by omega) HR.out, HI.out.2⟩, Below.comp hb (by assumption)⟩
        case measure => simp [intOf]; omega
      · have hr : ltS (f (h)) (p, q) = false := by rw [HY.out, hlt']; simp; omega
        have HR : Hid _ := hr
        have dF : decide (F < 0) = false := by simp; omega
        clear hr hlt'
        go_wp2
        go_region_held3 (fun W => W.cell? ⟨bb, off + h * 2, none⟩ = some (.int .i64 p') ∧ W.cell? ⟨bb, off + h * 2 + 1, none⟩ = some (.int .i64 q') ∧ W.cell? ⟨D, 0, none⟩ = some (.int .i64 p) ∧ W.cell? ⟨D, 1, none⟩ = some (.int .i64 q) ∧ Below wr.heap.size wr W)
          ((refine SB.out _ ?_; first | assumption | exact Below.drew (Below.refl _ _)))
          (first
          | (go_at_call 59; obtain ⟨-, -, -, -, hw0⟩ := ‹_ ∧ _ ∧ _ ∧ _ ∧ Below wr.heap.size wr _›; refine (cc _).mono ?_; rintro e w1 ⟨rfl, g1⟩; have g2 := Below.comp hw0 g1.below))
        all_goals go_wp2
        go_roundw
        case rel => exact ⟨lo, h, by omega, by omega, rfl, by go_num, ⟨HI.out.1, fun t h1 h2 => by
          cases hc' : ltS (f t) (p, q)
          · rfl
          · have := Hm.out h t h1 h2 hc'
            rw [HR.out] at this
            cases this⟩, Below.comp hb (by assumption)⟩
        case measure => simp [intOf]; omega
    · obtain rfl : hi = lo := by omega
      have hK := Hl.out hi hin HI.out.1 HI.out.2
      subst hK
      clear Hl Hm HI
      by_cases hkn : K < n
      · obtain ⟨bb, off, rfl, hcell⟩ := (hc.below (Below.comp g0 hb)) (by omega)
        obtain ⟨k0, k1⟩ := hcell K hkn
        clear hcell
        have hkn' : (K : Int) < (n : Int) := by omega
        generalize f K = y at k0 k1
        obtain ⟨p', q'⟩ := y
        simp only at k0 k1
        have cc := compareSizes_any (p', q') (p, q)
        have SB : Hid (∀ W, Below wr.heap.size wr W → W.cell? ⟨bb, off + K * 2, none⟩ = some (.int .i64 p') ∧ W.cell? ⟨bb, off + K * 2 + 1, none⟩ = some (.int .i64 q') ∧ W.cell? ⟨D, 0, none⟩ = some (.int .i64 p) ∧ W.cell? ⟨D, 1, none⟩ = some (.int .i64 q) ∧ Below wr.heap.size wr W) := fun W z => ⟨cell_on k0 z, cell_on k1 z, cell_on d0 z, cell_on d1 z, z⟩
        clear k0 k1 d0 d1
        generalize cfS (p', q') (p, q) = F at *
        go_wp2
        go_region_held3 (fun W => W.cell? ⟨bb, off + K * 2, none⟩ = some (.int .i64 p') ∧ W.cell? ⟨bb, off + K * 2 + 1, none⟩ = some (.int .i64 q') ∧ W.cell? ⟨D, 0, none⟩ = some (.int .i64 p) ∧ W.cell? ⟨D, 1, none⟩ = some (.int .i64 q) ∧ Below wr.heap.size wr W)
          ((refine SB.out _ ?_; first | assumption | exact Below.drew (Below.refl _ _)))
          (first
          | (go_at_call 59; obtain ⟨-, -, -, -, hw0⟩ := ‹_ ∧ _ ∧ _ ∧ _ ∧ Below wr.heap.size wr _›; refine (cc _).mono ?_; rintro e w1 ⟨rfl, g1⟩; have g2 := Below.comp hw0 g1.below))
        all_goals go_wp2
        all_goals
          go_ret2
          exact ⟨by first | exact Below.comp (Below.comp g0 hb) (by assumption) | exact (hD ▸ Below.comp (Below.comp g0 hb) (by assumption)), _, rfl⟩
      · have hkn' : decide ((K : Int) < (n : Int)) = false := by simp; omega
        go_wp2
        go_quiet (fail)
        go_wp2
        go_ret2
        exact ⟨by first | exact below_drewN (Below.comp g0 hb) _ | exact (hD ▸ below_drewN (Below.comp g0 hb) _), _, rfl⟩
end Go.Proofs.Ytoodioaflaklmaa
