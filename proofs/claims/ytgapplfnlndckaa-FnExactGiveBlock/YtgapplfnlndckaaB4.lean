import Derived.Test.YtgapplfnlndckaaB3
/- BuddyOf, on both sides. -/
namespace Go.Proofs.Ytgapplfnlndckaa
open Go.ChangeShapes Go.WideShapes Go.ChangeAt Go.RowKit
set_option linter.unusedVariables false
open Room

attribute [local go_sem] Oper.semAt_some

/-- The buddy, or nothing. -/
def budO (x : Ex) : Ex := if okB x then bud x else (0, 0)
def budV (x : Ex) : Value := .tuple #[xv (budO x), .bool (okB x)]
theorem xv_nat {x : Ex} (h : isB x = true) : ∃ p k : Nat, x = ((p : Int), (k : Int)) ∧ p ≤ 1073741824 ∧ k ≤ 8 := by
  obtain ⟨h1, h2, h3, h4, _⟩ := isB_iff.1 h
  obtain ⟨p, q⟩ := x
  simp only at *
  exact ⟨p.toNat, q.toNat, by simp; omega, by omega, by omega⟩

theorem below_set2 {B : Nat} {w w' : World} (h : Below B w w') {b i j : Nat} {u v : Value} (hb : B ≤ b) : Below B w ((w'.setCell ⟨b, i, none⟩ u).setCell ⟨b, j, none⟩ v) :=
  Below.setCell (Below.setCell h hb _) hb _
set_option maxHeartbeats 1000000 in
theorem specBuddyOf_any (x : Ex) (w : World) : Calls Try.prog 23 #[xv x] w fun e w' => e = .returned (budV x) ∧ Below w.heap.size w w' := by
  obtain ⟨s, hs⟩ : ∃ s, w.heap.size = s := ⟨_, rfl⟩
  obtain ⟨W0, hW0⟩ : ∃ W0, (w.alloc (.cells #[.int .i64 x.1, .int .i64 x.2] 43)).alloc (.cells #[.int .i64 0, .int .i64 0] 43) = W0 := ⟨_, rfl⟩
  have g0 : Below w.heap.size w W0 := by subst hW0; exact ba2 _ _ _
  obtain ⟨B1, B2⟩ : W0.heap[s]? = some (.cells #[.int .i64 x.1, .int .i64 x.2] 43 (0, 0)) ∧ W0.heap[s + 1]? = some (.cells #[.int .i64 0, .int .i64 0] 43 (0, 0)) := by subst hW0 hs; exact al2 _ _ _
  have HB : Hid _ := B1
  have HR : Hid _ := B2
  obtain ⟨i0, i1, -, -⟩ := box2_cells B1
  clear B1 B2
  have c1 := fun W => l6Block_any x W
  unfold budV budO
  obtain ⟨r, hr⟩ : ∃ r, isB x = r := ⟨_, rfl⟩
  rw [hr] at c1
  cases r with
  | false =>
    have ho : okB x = false := by simp [okB, hr]
    rw [ho]
    obtain ⟨p, q⟩ := x
    simp only at *
    clear hr ho
    go_enter Try.func23, Try.ntmps23
    go_wp2_with fail
    refine (c1 _).mono ?_
    rintro e w1 ⟨rfl, b1⟩
    clear hW0 i0 i1
    obtain ⟨r0, r1, f0, f1⟩ := box2_cells (box_on HR.out b1)
    have hz := (below_alloc w (.cells #[.int .i64 p, .int .i64 q] 43)).size
    go_wp2
    refine bodyPost_ret (v := .tuple #[xv (0, 0), .bool false]) (by simp [results, Try.results23, go_sem, r0, r1]) rfl ⟨rfl, ?_⟩
    have hG : Below s w w1 := hs ▸ Below.comp g0 b1
    exact below_set2 hG (by omega)
  | true =>
    obtain ⟨p, k, rfl, hp, hk⟩ := xv_nat hr
    rcases Nat.lt_or_ge k 8 with h8 | h8
    · have c2 := fun W => l6Buddy_any p k hp hk W
      have c3 := fun W => l6Block_any (bud ((p : Int), (k : Int))) W
      obtain ⟨t, ht⟩ : ∃ t, isB (bud ((p : Int), (k : Int))) = t := ⟨_, rfl⟩
      rw [ht] at c3
      have hok : okB ((p : Int), (k : Int)) = t := by simp [okB, hr, ht]; omega
      rw [hok]
      generalize bud ((p : Int), (k : Int)) = y at *
      obtain ⟨y1, y2⟩ := y
      simp only at *
      clear hr ht hok
      go_enter Try.func23, Try.ntmps23
      go_wp2_with fail
      refine (c1 _).mono ?_
      rintro e w1 ⟨rfl, b1⟩
      clear hW0 i0 i1
      obtain ⟨i0, i1, -, -⟩ := box2_cells (box_on HB.out b1)
      have g1 := Below.comp g0 b1
      go_wp2_with fail
      refine (c2 _).mono ?_
      rintro e w2 ⟨rfl, b2⟩
      go_wp2_with fail
      refine (c3 _).mono ?_
      rintro e w3 ⟨rfl, b3⟩
      have b23 := Below.comp b2 b3
      clear i0 i1
      obtain ⟨i0, i1, -, -⟩ := box2_cells (box_on (box_on HB.out b1) b23)
      obtain ⟨r0, r1, f0, f1⟩ := box2_cells (box_on (box_on HR.out b1) b23)
      have g3 := Below.comp g1 b23
      cases t with
      | false =>
        go_wp2
        refine bodyPost_ret (v := .tuple #[xv (0, 0), .bool false]) (by simp [results, Try.results23, go_sem, r0, r1]) rfl ⟨rfl, ?_⟩
        have hG : Below s w w3 := hs ▸ g3
        exact below_set2 hG (by omega)
      | true =>
        go_wp2_with fail
        refine (c2 _).mono ?_
        rintro e w4 ⟨rfl, b4⟩
        clear i0 i1 r0 r1 f0 f1
        obtain ⟨r0, r1, f0, f1⟩ := box2_cells (box_on (box_on (box_on HR.out b1) b23) b4)
        have g4 := Below.comp g3 b4
        go_wp2
        refine bodyPost_ret (v := .tuple #[xv (y1, y2), .bool true]) (by simp [results, Try.results23, go_sem, r0, r1]) rfl ⟨rfl, ?_⟩
        have hG : Below s w w4 := hs ▸ g4
        exact below_set2 hG (by omega)
    · obtain rfl : k = 8 := by omega
      have hok : okB ((p : Int), ((8 : Nat) : Int)) = false := by simp [okB]
      rw [hok]
      clear hr hok
      simp only [Int.cast_ofNat_Int] at *
      go_enter Try.func23, Try.ntmps23
      go_wp2_with fail
      refine (c1 _).mono ?_
      rintro e w1 ⟨rfl, b1⟩
      clear hW0 i0 i1
      obtain ⟨i0, i1, -, -⟩ := box2_cells (box_on HB.out b1)
      obtain ⟨r0, r1, f0, f1⟩ := box2_cells (box_on HR.out b1)
      have g1 := Below.comp g0 b1
      go_wp2
      refine bodyPost_ret (v := .tuple #[xv (0, 0), .bool false]) (by simp [results, Try.results23, go_sem, r0, r1]) rfl ⟨rfl, ?_⟩
      have hG : Below s w w1 := hs ▸ g1
      exact below_set2 hG (by omega)

set_option maxHeartbeats 2000000 in
theorem implBuddyOf_any (x : Ex) (w : World) : Calls Try.prog 25 #[xv x] w fun e w' => e = .returned (budV x) ∧ Below w.heap.size w w' := by
  obtain ⟨s, hs⟩ : ∃ s, w.heap.size = s := ⟨_, rfl⟩
  obtain ⟨W0, hW0⟩ : ∃ W0, (w.alloc (.cells #[.int .i64 x.1, .int .i64 x.2] 43)).alloc (.cells #[.int .i64 0, .int .i64 0] 43) = W0 := ⟨_, rfl⟩
  have g0 : Below w.heap.size w W0 := by subst hW0; exact ba2 _ _ _
  obtain ⟨B1, B2⟩ : W0.heap[s]? = some (.cells #[.int .i64 x.1, .int .i64 x.2] 43 (0, 0)) ∧ W0.heap[s + 1]? = some (.cells #[.int .i64 0, .int .i64 0] 43 (0, 0)) := by subst hW0 hs; exact al2 _ _ _
  have HB : Hid _ := B1
  have HR : Hid _ := B2
  obtain ⟨i0, i1, -, -⟩ := box2_cells B1
  clear B1 B2
  have c1 := fun W => isBlock_any x W
  unfold budV budO
  obtain ⟨r, hr⟩ : ∃ r, isB x = r := ⟨_, rfl⟩
  rw [hr] at c1
  cases r with
  | false =>
    have ho : okB x = false := by simp [okB, hr]
    rw [ho]
    obtain ⟨p, q⟩ := x
    simp only at *
    clear hr ho
    go_enter Try.func25, Try.ntmps25
    go_wp2_with fail
    refine (c1 _).mono ?_
    rintro e w1 ⟨rfl, b1⟩
    clear hW0 i0 i1
    obtain ⟨r0, r1, f0, f1⟩ := box2_cells (box_on HR.out b1)
    go_wp2
    refine bodyPost_ret (v := .tuple #[xv (0, 0), .bool false]) (by simp [results, Try.results25, go_sem, r0, r1]) rfl ⟨rfl, ?_⟩
    have hG : Below s w w1 := hs ▸ Below.comp g0 b1
    exact below_set2 hG (by omega)
  | true =>
    obtain ⟨p, k, rfl, hp, hk⟩ := xv_nat hr
    rcases Nat.lt_or_ge k 8 with h8 | h8
    · have c2 := fun W => lengthOf_any (p : Int) k hk W
      have c3 := fun W => isBlock_any (bud ((p : Int), (k : Int))) W
      have hxr := xor_bud hp hk
      obtain ⟨t, ht⟩ : ∃ t, isB (bud ((p : Int), (k : Int))) = t := ⟨_, rfl⟩
      rw [ht] at c3
      have hok : okB ((p : Int), (k : Int)) = t := by simp [okB, hr, ht]; omega
      rw [hok]
      have hy : bud ((p : Int), (k : Int)) = (xr (p : Int) (pw (k : Int)), (k : Int)) := rfl
      rw [hy] at c3 ⊢
      generalize xr (p : Int) (pw (k : Int)) = Y at *
      generalize pw (k : Int) = L at *
      simp only at *
      clear hr ht hok hy
      go_enter Try.func25, Try.ntmps25
      go_wp2_with fail
      refine (c1 _).mono ?_
      rintro e w1 ⟨rfl, b1⟩
      clear hW0 i0 i1
      obtain ⟨i0, i1, -, -⟩ := box2_cells (box_on HB.out b1)
      have g1 := Below.comp g0 b1
      have SB : Hid (∀ W, Below w1.heap.size w1 W → W.cell? ⟨s, 0, none⟩ = some (.int .i64 p) ∧ W.cell? ⟨s, 1, none⟩ = some (.int .i64 k) ∧ Below w1.heap.size w1 W) := fun W z => ⟨cell_on i0 z, cell_on i1 z, z⟩
      go_wp2
      clear i0 i1
      go_region_held3 (fun W => W.cell? ⟨s, 0, none⟩ = some (.int .i64 p) ∧ W.cell? ⟨s, 1, none⟩ = some (.int .i64 k) ∧ Below w1.heap.size w1 W)
        ((refine SB.out _ ?_; first | assumption | exact Below.drew (Below.refl _ _) | exact Below.drew (below_alloc w1 _) | exact Below.comp (by assumption) (below_alloc _ _) | exact below_set2 (by assumption) (by first | exact Nat.le_refl _ | exact (by assumption : Below _ _ _).size) | exact below_set2 (Below.comp (by assumption) (below_alloc _ _)) (by assumption : Below w1.heap.size w1 _).size))
        ((go_at_call 46; refine (c2 _).mono ?_; rintro e w2 ⟨rfl, b2'⟩; first | (have HE0 : Hid (w2.heap[w1.heap.size]? = some (.cells #[.int .i64 0, .int .i64 0] 43 (0, 0))) := box_on (w := (w1.alloc (.cells #[.int .i64 0, .int .i64 0] 43)).drew) (al1 w1 (.cells #[.int .i64 0, .int .i64 0] 43)) b2'; obtain ⟨e0, e1, f0, f1⟩ := box2_cells HE0.out; have b2 := Below.comp (Below.drew (below_alloc w1 (.cells #[.int .i64 0, .int .i64 0] 43))) b2'; clear b2') | (have b2 := Below.comp (Below.drew (Below.refl w1.heap.size w1)) b2'; clear b2')))
      all_goals
        (first
        | (obtain ⟨X, hX⟩ : ∃ X, w2.alloc (.cells #[.int .i64 Y, .int .i64 (k : Int)] 43) = X := ⟨_, rfl⟩
           rw [hX]
           have HE : Hid (X.heap[w2.heap.size]? = some (.cells #[.int .i64 Y, .int .i64 (k : Int)] 43 (0, 0))) := hX ▸ al1 _ _
           have bX : Below w1.heap.size w1 X := hX ▸ Below.comp b2 (below_alloc _ _)
           have hE : w1.heap.size ≤ w2.heap.size := b2.size
           clear hX
           generalize w2.heap.size = E at *)
        | (obtain ⟨X, hX⟩ : ∃ X, (w2.setCell ⟨w1.heap.size, 0, none⟩ (.int .i64 Y)).setCell ⟨w1.heap.size, 1, none⟩ (.int .i64 (k : Int)) = X := ⟨_, rfl⟩
           rw [hX]
           have HE : Hid (X.heap[w1.heap.size]? = some (.cells #[.int .i64 Y, .int .i64 (k : Int)] 43 (0, 0))) := hX ▸ box2_set HE0.out
           have bX : Below w1.heap.size w1 X := hX ▸ below_set2 b2 (Nat.le_refl _)
           clear hX e0 e1 f0 f1
           obtain ⟨E, hE'⟩ : ∃ E, w1.heap.size = E := ⟨_, rfl⟩
           rw [hE'] at HE ⊢
           have hE : w1.heap.size ≤ E := Nat.le_of_eq hE'
           clear hE'))
      all_goals
        clear ‹_ ∧ _ ∧ Below w1.heap.size w1 _›
        obtain ⟨j0, j1, -, -⟩ := box2_cells HE.out
        go_wp2_with fail
        refine (c3 _).mono ?_
        rintro e w3 ⟨rfl, b3⟩
        clear j0 j1
        obtain ⟨j0, j1, -, -⟩ := box2_cells (box_on HE.out b3)
        have b13 := Below.comp bX b3
        obtain ⟨r0, r1, f0, f1⟩ := box2_cells (box_on (box_on HR.out b1) b13)
        have hG : Below s w w3 := hs ▸ Below.comp g1 b13
        cases t with
        | false =>
          go_wp2
          refine bodyPost_ret (v := .tuple #[xv (0, 0), .bool false]) (by simp [results, Try.results25, go_sem, r0, r1]) rfl ⟨rfl, ?_⟩
          exact below_set2 hG (by omega)
        | true =>
          go_wp2
          refine bodyPost_ret (v := .tuple #[xv (Y, (k : Int)), .bool true]) (by simp [results, Try.results25, go_sem, r0, r1]) rfl ⟨rfl, ?_⟩
          exact below_set2 hG (by omega)
    · obtain rfl : k = 8 := by omega
      have hok : okB ((p : Int), ((8 : Nat) : Int)) = false := by simp [okB]
      rw [hok]
      clear hr hok
      simp only [Int.cast_ofNat_Int] at *
      go_enter Try.func25, Try.ntmps25
      go_wp2_with fail
      refine (c1 _).mono ?_
      rintro e w1 ⟨rfl, b1⟩
      clear hW0 i0 i1
      obtain ⟨i0, i1, -, -⟩ := box2_cells (box_on HB.out b1)
      obtain ⟨r0, r1, f0, f1⟩ := box2_cells (box_on HR.out b1)
      have g1 := Below.comp g0 b1
      go_wp2
      refine bodyPost_ret (v := .tuple #[xv (0, 0), .bool false]) (by simp [results, Try.results25, go_sem, r0, r1]) rfl ⟨rfl, ?_⟩
      have hG : Below s w w1 := hs ▸ g1
      exact below_set2 hG (by omega)
end Go.Proofs.Ytgapplfnlndckaa
