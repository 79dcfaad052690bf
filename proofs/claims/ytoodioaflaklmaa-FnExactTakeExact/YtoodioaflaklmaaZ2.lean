/- firstThat, its closure 54. -/
import Derived.Test.YtoodioaflaklmaaZ1
import Derived.RangeFuncFrom
import Derived.RangeFuncNested
namespace Go.Proofs.Ytoodioaflaklmaa
open Go.ChangeShapes Go.WideShapes Go.ChangeAt Go.RowKit Go.Shelf
set_option linter.unusedVariables false
open Room
attribute [local go_sem] Oper.semAt_some

theorem keeps_of_below {W W' : World} (h : Below W.heap.size W W') : KeepsOthers W W' := ⟨h.size, fun k o hk _ => (h.block k (Array.getElem?_eq_some_iff.1 hk).1).trans hk⟩
theorem cell1 {w : World} {b : Nat} {v : Value} {e : TypeId} (h : w.heap[b]? = some (.cells #[v] e (0, 0))) : w.cell? ⟨b, 0, none⟩ = some v ∧ w.frozen? ⟨b, 0, none⟩ = false :=
  ⟨by simp [World.cell?, h], by simp [World.frozen?, h]⟩
/-- What a search for the first tells. -/
def Fst (n : Nat) (f : Nat → Ex) (p : Ex → Bool) (y : Ex) (r : Bool) : Prop :=
  (r = true ∧ ∃ k, k < n ∧ y = f k ∧ p (f k) = true ∧ ∀ j, j < k → p (f j) = false) ∨ (r = false ∧ y = (0, 0) ∧ ∀ j, j < n → p (f j) = false)
theorem pre_fin {n : Nat} {pre : List (Fin n)} {x : Fin n} (h : pre ++ [x] <+: List.finRange n) (j : Nat) (hj : j < x.1) : (⟨j, by omega⟩ : Fin n) ∈ pre := by
  obtain ⟨t, ht⟩ := h
  have h1 : (pre ++ [x] ++ t)[pre.length]? = (List.finRange n)[pre.length]? := by rw [ht]
  have h2 : (pre ++ [x] ++ t)[j]? = (List.finRange n)[j]? := by rw [ht]
  have hl : pre.length < n := by have := congrArg List.length ht; simp at this; omega
  rw [List.getElem?_eq_getElem (l := List.finRange n) (by simpa using hl)] at h1
  simp at h1
  have hx : x.1 = pre.length := by rw [h1]
  rw [List.append_assoc, List.getElem?_append_left (by omega), List.getElem?_eq_getElem (l := List.finRange n) (i := j) (by simp; omega)] at h2
  simp only [List.getElem_finRange] at h2
  exact List.mem_of_getElem? h2

set_option maxRecDepth 100000 in
set_option maxHeartbeats 2000000 in
theorem first70 (Bs L : Nat) (a : Option Addr) (n cap : Nat) (f : Nat → Ex) (p : Ex → Bool) (w : World) (hn : n ≤ 1048576) (hS : Sx w w.heap.size Bs a n cap f)
    (hg : ∀ i, i < n → ∀ W, Below w.heap.size w W → Calls Try.prog 54 #[xv (f i), .pointer (some ⟨L, 0, none⟩)] W fun e W' => e = .returned (.bool (p (f i))) ∧ Below W.heap.size W W') :
    Calls Try.prog 49 #[.func (.func 64) #[] #[.pointer (some ⟨Bs, 0, none⟩)], .func (.func 54) #[] #[.pointer (some ⟨L, 0, none⟩)]] w fun e w' => Below w.heap.size w w' ∧ ∃ y r, e = .returned (.tuple #[xv y, .bool r]) ∧ Fst n f p y r := by
  refine (callsIn_wide (n := 8)).1 ?_
  refine callsIn_of_wp_marks Try.func49 rfl trivial ?_ rfl
  simp only [Try.ntmps49, List.size_toArray, List.length_cons, List.length_nil, Nat.reduceAdd, Nat.reduceSub, Array.replicate_succ, Array.replicate_zero, List.push_toArray, List.append_toArray, List.nil_append, List.cons_append]
  obtain ⟨W0, hW0⟩ : ∃ W0, ((w.alloc (.cells #[.func (.func 54) #[] #[.pointer (some ⟨L, 0, none⟩)]] 71)).alloc (.cells #[.int .i64 0, .int .i64 0] 41)).alloc (.cells #[.bool false] 4) = W0 := ⟨_, rfl⟩
  gi_wp2
  have hB0 : Below w.heap.size w W0 := by rw [← hW0]; exact ba3 _ _ _ _
  have hsz : W0.heap.size = w.heap.size + 3 := by rw [← hW0]; simp
  obtain ⟨x0, x1, x2⟩ : W0.heap[w.heap.size]? = some (.cells #[.func (.func 54) #[] #[.pointer (some ⟨L, 0, none⟩)]] 71 (0, 0)) ∧ W0.heap[w.heap.size + 1]? = some (.cells #[.int .i64 0, .int .i64 0] 41 (0, 0)) ∧ W0.heap[w.heap.size + 1 + 1]? = some (.cells #[.bool false] 4 (0, 0)) := by subst hW0; exact al3 _ _ _ _
  clear hW0
  refine wpIn_rangeFunc_ownH rfl (by omega) (gf := 64) (lb := #[.pointer (some ⟨Bs, 0, none⟩)]) rfl trivial (enters_of Try.func64 (by kernel_rfl) rfl)
    (all_stops Fence.wide _ trivial rfl (by omega) w.heap.size Bs a n cap f hn W0 (by omega) (hS.kept hB0)) belowK_t (belowK_b (by omega)) (Below.refl _ _) (fun _ => rfl)
    (fun pre W => (∀ y ∈ pre, p (f y.1) = false) ∧ (W.heap[w.heap.size]? = some (.cells #[.func (.func 54) #[] #[.pointer (some ⟨L, 0, none⟩)]] 71 (0, 0)) ∧ W.heap[w.heap.size + 1]? = some (.cells #[.int .i64 0, .int .i64 0] 41 (0, 0)) ∧ W.heap[w.heap.size + 1 + 1]? = some (.cells #[.bool false] 4 (0, 0))) ∧ Below w.heap.size w W)
    (fun c pre W => (c = .ret ∧ ∃ (pr : List (Fin n)) (x : Fin n), pre = pr ++ [x] ∧ p (f x.1) = true ∧ (∀ y ∈ pr, p (f y.1) = false) ∧ W.heap[w.heap.size + 1]? = some (.cells #[.int .i64 (f x.1).1, .int .i64 (f x.1).2] 41 (0, 0)) ∧ W.heap[w.heap.size + 1 + 1]? = some (.cells #[.bool true] 4 (0, 0))) ∧ Below w.heap.size w W)
    (OwnFrom.and (ownFrom_pure _ _) (OwnFrom.and (Own.from (fun s A B row hs hg hr => ⟨(grownBy_keeps_cells hg hr hs.1 rfl).trans hs.1, (grownBy_keeps_cells hg hr hs.2.1 rfl).trans hs.2.1, (grownBy_keeps_cells hg hr hs.2.2 rfl).trans hs.2.2⟩) _) (ownFrom_below (Nat.le_refl _) (by omega))))
    (fun c => OwnFrom.and (Own.from (fun s A B row hs hg hr => by
      obtain ⟨hc, pr, x, h1, h2, h3, h4, h5⟩ := hs
      exact ⟨hc, pr, x, h1, h2, h3, (grownBy_keeps_cells hg hr h4 rfl).trans h4, (grownBy_keeps_cells hg hr h5 rfl).trans h5⟩) _) (ownFrom_below (Nat.le_refl _) (by omega)))
    ⟨by simp, ⟨x0, x1, x2⟩, hB0⟩
    (fun x a' W => (∃ Bx, a' = { tmps := #[.func (.func 64) #[] #[.pointer (some ⟨Bs, 0, none⟩)], .func (.func 54) #[] #[.pointer (some ⟨L, 0, none⟩)], undef, .pointer (some ⟨w.heap.size, 0, none⟩), .pointer (some ⟨w.heap.size + 1, 0, none⟩), .pointer (some ⟨w.heap.size + 1 + 1, 0, none⟩), undef, .pointer (some ⟨Bx, 0, none⟩), undef, .func (.func 64) #[] #[.pointer (some ⟨Bs, 0, none⟩)], .int .i64 (x.1 : Int), xv (f x.1), undef, undef, undef, undef, undef], defers := [] } ∧ W.heap[Bx]? = some (.cells #[.int .i64 (f x.1).1, .int .i64 (f x.1).2] 41 (0, 0))))
    (fun x a' => Own.from (fun s A B row hs hg hr => by
      obtain ⟨Bx, h1, h2⟩ := hs
      exact ⟨Bx, h1, (grownBy_keeps_cells hg hr h2 rfl).trans h2⟩) _) ?assign ?body ?done ?stop
  case assign =>
    rintro l pre x W K ⟨hp, ⟨c0, c1, c2⟩, hB⟩ hK
    gi_wp2
    exact hK _ _ ((KeepsOthers.alloc _ _).from _) ((below_alloc W _).mono hB.size) ⟨hp, ⟨box_on c0 (below_alloc _ _), box_on c1 (below_alloc _ _), box_on c2 (below_alloc _ _)⟩, Below.comp hB (below_alloc _ _)⟩ ⟨_, rfl, al1 _ _⟩
  case body =>
    rintro l pre x a' W hl hr ⟨hp, ⟨c0, c1, c2⟩, hB⟩ ⟨Bx, rfl, hBx⟩ _
    have cg := hg x.1 x.2 W hB
    obtain ⟨y0, z0⟩ := cell1 c0
    obtain ⟨i0, i1, -, -⟩ := box2_cells hBx
    by_cases hx : p (f x.1) = true
    · rw [hx] at cg
      gi_wp2_with (refine ⟨trivial, ?_⟩; gi_at_call 54; refine (CallsIn.inRound l (callsIn_wide.2 cg)).mono ?_; rintro e w1 ⟨rfl, b1⟩; obtain ⟨j0, j1, -, -⟩ := box2_cells (box_on hBx b1); obtain ⟨k0, k1, k2, k3⟩ := box2_cells (box_on c1 b1); obtain ⟨m0, m1⟩ := cell1 (box_on c2 b1))
      have A2 := box2_set (x0 := .int .i64 (f x.1).1) (x1 := .int .i64 (f x.1).2) (box_on c1 b1)
      exact ⟨((((keeps_of_below b1).trans (KeepsOthers.setCell _ _ _)).trans (KeepsOthers.setCell _ _ _)).trans (KeepsOthers.setCell _ _ _)).from _,
        ⟨rfl, pre, x, rfl, hx, hp, box_out A2 (out_setCell _ (w.heap.size + 1 + 1) 0 _) (.inl (by omega)), (block_set (box_out (box_out (box_on c2 b1) (out_setCell _ (w.heap.size + 1) 0 _) (.inr (by omega))) (out_setCell _ (w.heap.size + 1) 1 _) (.inr (by omega)))).trans rfl⟩,
        (((Below.comp hB b1).setCell (by simp) _).setCell (by simp) _).setCell (by simp; omega) _⟩
    · rw [Bool.not_eq_true] at hx
      rw [hx] at cg
      gi_wp2_with (refine ⟨trivial, ?_⟩; gi_at_call 54; refine (CallsIn.inRound l (callsIn_wide.2 cg)).mono ?_; rintro e w1 ⟨rfl, b1⟩)
      exact ⟨(keeps_of_below b1).from _, b1.mono hB.size, fun y hy => (List.mem_append.1 hy).elim (hp y) (fun e => by simp at e; subst e; exact hx), ⟨box_on c0 b1, box_on c1 b1, box_on c2 b1⟩, Below.comp hB b1⟩
  case done =>
    rintro Df ys W hDf hys ⟨hp, ⟨c0, c1, c2⟩, hB⟩ hKd
    have ha1 := al1 W (.cells #[.int .i64 0, .int .i64 0] 41)
    have hba := below_alloc W (.cells #[.int .i64 0, .int .i64 0] 41)
    obtain ⟨k0, k1, k2, k3⟩ := box2_cells (box_on c1 hba)
    obtain ⟨m0, m1⟩ := cell1 (box_on c2 hba)
    obtain ⟨j0, j1, -, -⟩ := box2_cells ha1
    gi_wp2
    obtain ⟨X, hX⟩ : ∃ X, (((W.alloc (.cells #[.int .i64 0, .int .i64 0] 41)).setCell ⟨w.heap.size + 1, 0, none⟩ (.int .i64 0)).setCell ⟨w.heap.size + 1, 1, none⟩ (.int .i64 0)).setCell ⟨w.heap.size + 1 + 1, 0, none⟩ (.bool false) = X := ⟨_, rfl⟩
    have A2 := box2_set (x0 := .int .i64 0) (x1 := .int .i64 0) (box_on c1 hba)
    have hA : X.heap[w.heap.size + 1]? = some (.cells #[.int .i64 0, .int .i64 0] 41 (0, 0)) := by subst hX; exact box_out A2 (out_setCell _ (w.heap.size + 1 + 1) 0 _) (.inl (by omega))
    have hBb : X.heap[w.heap.size + 1 + 1]? = some (.cells #[.bool false] 4 (0, 0)) := by subst hX; exact (block_set (box_out (box_out (box_on c2 hba) (out_setCell _ (w.heap.size + 1) 0 _) (.inr (by omega))) (out_setCell _ (w.heap.size + 1) 1 _) (.inr (by omega)))).trans rfl
    have hKd' : X.heap[Df]? = some (.deferred (some [])) := by subst hX; exact ((((KeepsOthers.alloc W _).trans (KeepsOthers.setCell _ _ _)).trans (KeepsOthers.setCell _ _ _)).trans (KeepsOthers.setCell _ _ _)).same Df _ hKd rfl
    have gX : Below w.heap.size w X := by subst hX; exact (((Below.comp hB hba).setCell (by simp) _).setCell (by simp) _).setCell (by simp; omega) _
    rw [hX]
    clear hX A2 ha1 hba k0 k1 k2 k3 m0 m1 j0 j1
    have gp' := grownBy_putObj' X Df (.deferred none)
    have hA' := (gp'.block _ (box_lt hA) (fun e => by cases e; omega)).trans hA
    have hB' := (gp'.block _ (box_lt hBb) (fun e => by cases e; omega)).trans hBb
    obtain ⟨c5, c6, -, -⟩ := box2_cells hA'
    obtain ⟨c7, -⟩ := cell1 hB'
    refine ⟨by simp, .inl ⟨_, _, rfl, run_takeDeferred hKd', ?_⟩⟩
    refine ⟨.tuple #[xv (0, 0), .bool false], by simp [results, Try.f49, go_sem, c5, c6, c7], gX.trans (belowK_b (w := w) (Nat.le_refl _) X Df _ _ (by omega) hKd' rfl rfl), (0, 0), false, rfl, .inr ⟨rfl, rfl, fun j hj => hp ⟨j, hj⟩ (by rw [hys]; exact List.mem_finRange _)⟩⟩
  case stop =>
    rintro Df c pre W hDf hpre ⟨⟨rfl, pr, x, rfl, hx, hpr, hA, hBb⟩, hB⟩ hKd
    gi_wp2
    have gp' := grownBy_putObj' W Df (.deferred none)
    have hA' := (gp'.block _ (box_lt hA) (fun e => by cases e; omega)).trans hA
    have hB' := (gp'.block _ (box_lt hBb) (fun e => by cases e; omega)).trans hBb
    obtain ⟨c5, c6, -, -⟩ := box2_cells hA'
    obtain ⟨c7, -⟩ := cell1 hB'
    refine ⟨by simp, .inl ⟨_, _, rfl, run_takeDeferred hKd, ?_⟩⟩
    refine ⟨.tuple #[xv (f x.1), .bool true], by simp [results, Try.f49, go_sem, c5, c6, c7], hB.trans (belowK_b (w := w) (Nat.le_refl _) W Df _ _ (by omega) hKd rfl rfl), f x.1, true, rfl, .inl ⟨rfl, x.1, x.2, rfl, hx, fun j hj => hpr ⟨j, by omega⟩ (pre_fin hpre j hj)⟩⟩
end Go.Proofs.Ytoodioaflaklmaa
