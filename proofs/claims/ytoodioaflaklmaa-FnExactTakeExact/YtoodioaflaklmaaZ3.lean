/- impl.IsFreeAt. -/
import Derived.Test.YtoodioaflaklmaaZ2
import Derived.Test.YtoodioaflaklmaaG5s
import Derived.Test.YtoodioaflaklmaaK1
import Derived.Deep.RegionHeld3
namespace Go.Proofs.Ytoodioaflaklmaa
open Go.ChangeShapes Go.WideShapes Go.ChangeAt Go.RowKit
set_option linter.unusedVariables false
open Room
attribute [local go_sem] Oper.semAt_some

/-- Whether a block lies in an extent. -/
def inX (t : Int) (x : Ex) : Bool := decide (x.1 ≤ t) && decide (t < fin x)
/-- IsFreeAt's second answer, and its first. -/
def isO (b : Int) (l s : List Ex) (t : Int) : Bool := good b l s && (decide (0 ≤ t) && decide (t < b))
def isF (b : Int) (l s : List Ex) (t : Int) : Bool := isO b l s t && l.any (inX t)

theorem fst_any {l : List Ex} {p : Ex → Bool} {y : Ex} {r : Bool} (h : Fst l.length (gx l) p y r) : r = l.any p := by
  rcases h with ⟨rfl, k, hk, -, hp, -⟩ | ⟨rfl, -, hp⟩
  · refine (List.any_eq_true.2 ⟨l[k], List.getElem_mem hk, ?_⟩).symm
    rw [← gx_eq hk]; exact hp
  · refine (List.any_eq_false.2 fun x hx => ?_).symm
    obtain ⟨i, hi, rfl⟩ := List.getElem_of_mem hx
    have := hp i hi
    rw [gx_eq hi] at this
    simp [this]

theorem sx_of {w : World} {a : Option Addr} {n cap : Nat} {f : Nat → Ex} (h : RowX w a n f) : Sx (w.alloc (.cells #[.slice a n cap] 27)) (w.alloc (.cells #[.slice a n cap] 27)).heap.size w.heap.size a n cap f :=
  ⟨by simp, (cell1 (al1 w _)).1, fun hn => by
    obtain ⟨b, off, e, hc⟩ := h hn
    have h0 := World.block_lt_of_cell? w ⟨b, off + 0 * 2, none⟩ (hc 0 (by omega)).1
    exact ⟨b, off, e, by simp at h0 ⊢; omega, fun i hi => ⟨cell_on (hc i hi).1 (below_alloc _ _), cell_on (hc i hi).2 (below_alloc _ _)⟩⟩⟩

theorem All_any (a : Option Addr) (n cap : Nat) (w : World) : Calls Try.prog 50 #[.slice a n cap] w fun e w' => e = .returned (.func (.func 64) #[] #[.pointer (some ⟨w.heap.size, 0, none⟩)]) ∧ w' = w.alloc (.cells #[.slice a n cap] 27) := by
  go_enter Try.func50, Try.ntmps50
  go_wp2
  go_ret
  exact ⟨rfl, rfl⟩

theorem cl70_any (t : Int) (L : Nat) (x : Ex) (w : World) (hc : w.cell? ⟨L, 0, none⟩ = some (.int .i64 t)) (h : -9223372036854775808 ≤ fin x) (h' : fin x ≤ 9223372036854775807) :
    Calls Try.prog 54 #[xv x, .pointer (some ⟨L, 0, none⟩)] w fun e w' => e = .returned (.bool (inX t x)) ∧ Below w.heap.size w w' := by
  have c56 := fun W => endOf_any x W h h'
  unfold inX
  generalize fin x = F at *
  obtain ⟨p, q⟩ := x
  simp only at c56 ⊢
  obtain ⟨D, hD⟩ : ∃ D, w.heap.size = D := ⟨_, rfl⟩
  obtain ⟨W0, hW0⟩ : ∃ W0, w.alloc (.cells #[.int .i64 p, .int .i64 q] 41) = W0 := ⟨_, rfl⟩
  have g0 : Below w.heap.size w W0 := by subst hW0; exact below_alloc _ _
  have B1 : W0.heap[D]? = some (.cells #[.int .i64 p, .int .i64 q] 41 (0, 0)) := by subst hW0 hD; exact al1 _ _
  have y0 := cell_on hc g0
  obtain ⟨i0, i1, -, -⟩ := box2_cells B1
  go_enter Try.func54, Try.ntmps54
  go_wp2
  clear hW0
  cases hd : decide (p ≤ t) with
  | false =>
    go_quiet (fail)
    go_wp2
    go_ret
    exact ⟨by rw [hd]; rfl, by first | exact below_drewN g0 _ | exact (hD ▸ below_drewN g0 _)⟩
  | true =>
    have SB : Hid (∀ W, Below W0.heap.size W0 W → W.cell? ⟨D, 0, none⟩ = some (.int .i64 p) ∧ W.cell? ⟨D, 1, none⟩ = some (.int .i64 q) ∧ W.cell? ⟨L, 0, none⟩ = some (.int .i64 t) ∧ Below W0.heap.size W0 W) := fun W z => ⟨cell_on i0 z, cell_on i1 z, cell_on y0 z, z⟩
    go_region_held3 (fun W => W.cell? ⟨D, 0, none⟩ = some (.int .i64 p) ∧ W.cell? ⟨D, 1, none⟩ = some (.int .i64 q) ∧ W.cell? ⟨L, 0, none⟩ = some (.int .i64 t) ∧ Below W0.heap.size W0 W)
      ((refine SB.out _ ?_; first | assumption | exact Below.drew (Below.refl _ _)))
      ((go_at_call 39; obtain ⟨-, -, -, hw0⟩ := ‹_ ∧ _ ∧ _ ∧ Below W0.heap.size W0 _›; refine (c56 _).mono ?_; rintro e w1 ⟨rfl, b1'⟩; have b1 := Below.comp hw0 b1'; clear b1' hw0))
    all_goals go_wp2
    all_goals
      go_ret
      exact ⟨by rw [hd]; rfl, by first | exact Below.comp g0 (by assumption) | exact (hD ▸ Below.comp g0 (by assumption))⟩

set_option maxHeartbeats 1000000 in
theorem implIsFree_any (b : Int) (a : Option Addr) (ca : Nat) (a' : Option Addr) (ca' : Nat) (l s : List Ex) (t : Int) (w : World) (hn : l.length ≤ 1048576) (hn' : s.length ≤ 1048576) (hx : ∀ x, x ∈ l → x.1 ≤ 9223372036854775807) (ha : Exs w a l) (ha' : Exs w a' s) :
    Calls Try.prog 27 #[fv b a l.length ca a' s.length ca', .int .i64 t] w fun e w' => e = .returned (.tuple #[.bool (isF b l s t), .bool (isO b l s t)]) ∧ Below w.heap.size w w' := by
  obtain ⟨D, hD⟩ : ∃ D, w.heap.size = D := ⟨_, rfl⟩
  obtain ⟨W0, hW0⟩ : ∃ W0, (w.alloc (.cells #[.int .i64 b, .slice a l.length ca, .slice a' s.length ca'] 29)).alloc (.cells #[.int .i64 t] 3) = W0 := ⟨_, rfl⟩
  have g0 : Below w.heap.size w W0 := by subst hW0; exact ba2 _ _ _
  obtain ⟨B1, B2⟩ : W0.heap[D]? = some (.cells #[.int .i64 b, .slice a l.length ca, .slice a' s.length ca'] 29 (0, 0)) ∧ W0.heap[D + 1]? = some (.cells #[.int .i64 t] 3 (0, 0)) := by subst hW0 hD; exact al2 _ _ _
  have HB : Hid _ := B1
  have HX : Hid _ := B2
  obtain ⟨i0, i1, i2, -, -, -⟩ := box3_cells B1
  obtain ⟨i3, -⟩ := cell1 B2
  clear B1 B2
  have cg := implGood_any b a ca a' ca' l s W0 hn hn' hx (ha.below g0) (ha'.below g0)
  have hfin : good b l s = true → ∀ i, i < l.length → -9223372036854775808 ≤ fin (gx l i) ∧ fin (gx l i) ≤ 9223372036854775807 := fun hr i hi => by
    have hg := good_iff.1 hr
    have := hg.2.2.1.ins (gx l i) (by rw [gx_eq hi]; exact List.getElem_mem hi)
    unfold fin at *
    omega
  unfold isF isO
  obtain ⟨r, hr⟩ : ∃ r, good b l s = r := ⟨_, rfl⟩
  rw [hr] at cg hfin ⊢
  go_enter Try.func27, Try.ntmps27
  go_wp2_with fail
  refine cg.mono ?_
  rintro e w1 ⟨rfl, b1⟩
  clear cg hW0 i0 i1 i2 i3
  obtain ⟨i0, i1, i2, -, -, -⟩ := box3_cells (box_on HB.out b1)
  obtain ⟨i3, -⟩ := cell1 (box_on HX.out b1)
  have g1 := Below.comp g0 b1
  cases r with
  | false =>
    go_wp2
    go_ret2
    exact ⟨rfl, by first | exact g1 | exact (hD ▸ g1)⟩
  | true =>
    by_cases h1 : t < 0
    · have e1 : decide (0 ≤ t) = false := decide_eq_false (by omega)
      go_wp2
      go_ret2
      exact ⟨by rw [e1]; rfl, by first | exact g1 | exact (hD ▸ g1)⟩
    have e1 : decide (0 ≤ t) = true := decide_eq_true (by omega)
    by_cases h2 : b ≤ t
    · have e2 : decide (t < b) = false := decide_eq_false (by omega)
      go_wp2
      go_ret2
      exact ⟨by rw [e1, e2]; rfl, by first | exact g1 | exact (hD ▸ g1)⟩
    have e2 : decide (t < b) = true := decide_eq_true (by omega)
    have cf := first70 w1.heap.size (D + 1) a l.length ca (gx l) (inX t) (w1.alloc (.cells #[.slice a l.length ca] 27)) hn (sx_of (ha.below g1)) (fun i hi W hW => cl70_any t (D + 1) (gx l i) W (cell_on i3 (Below.comp (below_alloc _ _) hW)) (hfin rfl i hi).1 (hfin rfl i hi).2)
    have E1 : Hid _ := e1
    have E2 : Hid _ := e2
    clear e1 e2 hfin ha ha' hx
    go_wp2_with (first
      | (go_at_call 50; refine (All_any a l.length ca _).mono ?_; rintro e w2 ⟨rfl, rfl⟩)
      | (go_at_call 49; refine cf.mono ?_; rintro e w3 ⟨b3, y, r, rfl, hF⟩; have hr3 := fst_any hF; clear hF cf; subst hr3))
    go_ret2
    exact ⟨by rw [E1.out, E2.out]; rfl, by first | exact Below.comp g1 (Below.comp (below_alloc _ _) (Below.comp b3 (below_alloc _ _))) | exact (hD ▸ Below.comp g1 (Below.comp (below_alloc _ _) (Below.comp b3 (below_alloc _ _))))⟩
end Go.Proofs.Ytoodioaflaklmaa
