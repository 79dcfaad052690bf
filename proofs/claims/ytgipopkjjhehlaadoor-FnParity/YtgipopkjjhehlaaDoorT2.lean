import Derived.Test.YtgipopkjjhehlaaDoorT1
namespace Go.Proofs.YtgipopkjjhehlaaDoor
open Go.ChangeShapes Go.WideShapes Go.ChangeAt Go.RowKit Go.Shelf
set_option linter.unusedVariables false
attribute [local go_sem] Oper.semAt_some

def goodB (n : Nat) (D : Nat → ByteArray) (P Q : ByteArray) : Bool := decide (1 ≤ n ∧ n ≤ 16 ∧ P.size ≤ 40 ∧ (∀ i, i < n → (D i).size = P.size) ∧ Q.size = P.size)
theorem fin_mem {m : Nat} {xs : List (Fin m)} (h : xs = List.finRange m) (p : Fin m → Prop) (hp : ∀ x ∈ xs, p x) (i : Nat) (hi : i < m) : p ⟨i, hi⟩ := hp _ (by rw [h]; exact List.mem_finRange _)

set_option maxRecDepth 100000 in
set_option maxHeartbeats 2000000 in
theorem implGood_any (a : Option Addr) (n cap : Nat) (D : Nat → ByteArray) (P Q : ByteArray) (w : World) (hn : n ≤ 1048576) (hP : P.size ≤ 9223372036854775807) (hQ : Q.size ≤ 9223372036854775807) (hD : ∀ i, i < n → (D i).size ≤ 9223372036854775807) (hc : At w a n fun i => .string (D i)) :
    Calls Tryd.prog 10 #[.agg #[.slice a n cap, .string P, .string Q]] w fun e w' => e = .returned (.bool (goodB n D P Q)) ∧ Below w.heap.size w w' := by
  refine (callsIn_wide (n := 6)).1 ?_
  refine callsIn_of_wp_marks Tryd.func10 rfl trivial ?_ rfl
  simp only [Tryd.ntmps10, List.size_toArray, List.length_cons, List.length_nil, Nat.reduceAdd, Nat.reduceSub, Array.replicate_succ, Array.replicate_zero, List.push_toArray, List.append_toArray, List.nil_append, List.cons_append]
  have B1 : ∀ o o' : Obj, Below w.heap.size w ((w.alloc o).alloc o') := fun o o' => ((Below.refl _ w).alloc (Nat.le_refl _) _).alloc (by simp) _
  have B2 := B1 (.cells #[.slice a n cap, .string P, .string Q] 26) (.cells #[.bool false] 4)
  by_cases h0 : n = 0
  · subst h0
    have hg : goodB 0 D P Q = false := decide_eq_false (by omega)
    gi_wp2
    exact ⟨.bool false, by simp [results, Tryd.f10, go_sem], by first | rfl | rw [hg], B2⟩
  have h0' : ¬ (n : Int) = 0 := by omega
  by_cases h1 : 16 < n
  · have hg : goodB n D P Q = false := decide_eq_false (by omega)
    have h1' : (16 : Int) < (n : Int) := by omega
    gi_wp2
    exact ⟨.bool false, by simp [results, Tryd.f10, go_sem], by first | rfl | rw [hg], B2⟩
  have h1' : ¬ (16 : Int) < (n : Int) := by omega
  by_cases h2 : 40 < P.size
  · have hg : goodB n D P Q = false := decide_eq_false (by omega)
    have h2' : (40 : Int) < (P.size : Int) := by omega
    gi_wp2
    exact ⟨.bool false, by simp [results, Tryd.f10, go_sem], by first | rfl | rw [hg], B2⟩
  have h2' : ¬ (40 : Int) < (P.size : Int) := by omega
  gi_wp2_with (refine ⟨trivial, ?_⟩; gi_at_call 28; refine (disksOf_any Fence.wide _ trivial rfl a n cap P Q _).mono ?_; rintro e w' ⟨rfl, rfl⟩)
  have hW0 : ∃ W0, ((w.alloc (.cells #[.slice a n cap, .string P, .string Q] 26)).alloc (.cells #[.bool false] 4)).alloc (.cells #[.slice a n cap, .string P, .string Q] 26) = W0 := ⟨_, rfl⟩
  obtain ⟨W0, hW0⟩ := hW0
  have hB0 : Below w.heap.size w W0 := by rw [← hW0]; exact B2.alloc (by simp; omega) _
  have hsz : W0.heap.size = w.heap.size + 3 := by rw [← hW0]; simp
  have c01 : W0.cell? ⟨w.heap.size, 1, none⟩ = some (.string P) := by rw [← hW0]; simp [go_sem]
  have c10 : W0.cell? ⟨w.heap.size + 1, 0, none⟩ = some (.bool false) := by rw [← hW0]; simp [go_sem]
  have f10 : W0.frozen? ⟨w.heap.size + 1, 0, none⟩ = false := by rw [← hW0]; simp [go_sem]
  have c20 : W0.cell? ⟨w.heap.size + 1 + 1, 0, none⟩ = some (.slice a n cap) := by rw [← hW0]; simp [go_sem]
  have c21 : W0.cell? ⟨w.heap.size + 1 + 1, 1, none⟩ = some (.string P) := by rw [← hW0]; simp [go_sem]
  have c22 : W0.cell? ⟨w.heap.size + 1 + 1, 2, none⟩ = some (.string Q) := by rw [← hW0]; simp [go_sem]
  have hSb : Sb W0 (w.heap.size + 3) (w.heap.size + 3) (w.heap.size + 1 + 1) a n cap D P Q := ⟨by omega, by omega, c20, c21, c22, fun h => by
    obtain ⟨b, off, e, hcs⟩ := hc h
    have hlt := lt_of_cell (hcs 0 (by omega))
    exact ⟨b, off, e, by omega, by omega, fun i hi => (hB0.cell (p := ⟨b, off + i, none⟩) hlt).trans (hcs i hi)⟩⟩
  rw [hW0]
  clear hc B1 B2 c20 c21 c22 hD
  refine wpIn_rangeFunc_ownF rfl (by omega) (gf := 52) (lb := #[.pointer (some ⟨w.heap.size + 1 + 1, 0, none⟩)]) rfl trivial (enters_of Tryd.func52 (by kernel_rfl) rfl)
    (disks_stops Fence.wide _ trivial rfl (by omega) (w.heap.size + 3) (w.heap.size + 3) (w.heap.size + 1 + 1) a n cap D P Q hn W0 (by omega) hSb) Kq.trans (Kq.put (by omega)) (Below.refl _ _) (fun _ => rfl)
    (fun pre W => ((∀ y ∈ pre, (dt n D P Q y.1).size = P.size) ∧ W.cell? ⟨w.heap.size, 1, none⟩ = some (.string P) ∧ W.cell? ⟨w.heap.size + 1, 0, none⟩ = some (.bool false) ∧ W.frozen? ⟨w.heap.size + 1, 0, none⟩ = false) ∧ Below w.heap.size w W)
    (fun c pre W => (c = .ret ∧ (∃ y ∈ pre, (dt n D P Q y.1).size ≠ P.size) ∧ W.cell? ⟨w.heap.size + 1, 0, none⟩ = some (.bool false)) ∧ Below w.heap.size w W)
    (OwnFrom.and (Own.from (fun s A B row hs hg hr => ⟨hs.1, cell_kept hs.2.1 hg hr, cell_kept hs.2.2.1 hg hr, (frozen_kept hs.2.2.1 hg hr).trans hs.2.2.2⟩) _) (ownFrom_below (Nat.le_refl _) (by omega)))
    (fun c => OwnFrom.and (Own.from (fun s A B row hs hg hr => ⟨hs.1, hs.2.1, cell_kept hs.2.2 hg hr⟩) _) (ownFrom_below (Nat.le_refl _) (by omega)))
    ⟨⟨by simp, c01, c10, f10⟩, hB0⟩
    (fun x => { tmps := #[.agg #[.slice a n cap, .string P, .string Q], .pointer (some ⟨w.heap.size, 0, none⟩), .pointer (some ⟨w.heap.size + 1, 0, none⟩), undef, .string (dt n D P Q x.1), .pointer (some ⟨w.heap.size, 0, none⟩), .slice a n cap, .int .i64 n, .bool false, .bool false, .pointer (some ⟨w.heap.size, 0, none⟩), .slice a n cap, .int .i64 n, .bool false, .bool false, .bool false, .pointer (some ⟨w.heap.size, 1, none⟩), .string P, .int .i64 P.size, .bool false, .bool false, .agg #[.slice a n cap, .string P, .string Q], .func (.func 52) #[] #[.pointer (some ⟨w.heap.size + 1 + 1, 0, none⟩)], .int .i64 (x.1 : Int), .string (dt n D P Q x.1), undef, undef, undef, undef, undef, undef], defers := [] }) ?assign ?body ?done ?stop
  case assign =>
    intro l x W K hK
    gi_wp2
    exact hK
  case body =>
    rintro l pre x W ⟨⟨hp, hcw, hcr, hfr⟩, hB⟩ _
    by_cases hx : (dt n D P Q x.1).size = P.size
    · have hx' : ((dt n D P Q x.1).size : Int) = (P.size : Int) := by omega
      gi_wp2
      exact ⟨KeepsOthers.refl _, Kq.refl _ _ _, ⟨fun y hy => (List.mem_append.1 hy).elim (hp y) (fun e => by simp at e; subst e; exact hx), hcw, hcr, hfr⟩, hB⟩
    · have hx' : ¬ ((dt n D P Q x.1).size : Int) = (P.size : Int) := by omega
      gi_wp2
      exact ⟨KeepsOthers.setCell _ _ _, ⟨rfl, ⟨x, by simp, hx⟩, World.cell?_setCell_same' _ _ _ (by rw [hcr]; rfl)⟩, hB.setCell (p := ⟨w.heap.size + 1, 0, none⟩) (by simp) _⟩
  case done =>
    rintro Df ys W hDf hys ⟨⟨hne, _, hcr, hfr⟩, hB⟩ hK
    have hg : goodB n D P Q = true := decide_eq_true ⟨by omega, by omega, by omega, fun i hi => by have := fin_mem hys _ hne i (by omega); simpa [dt_d hi] using this, by have := fin_mem hys _ hne (n + 1) (by omega); simpa [dt_q] using this⟩
    gi_wp2
    have hK' := (KeepsOthers.setCell W ⟨w.heap.size + 1, 0, none⟩ (.bool true)).same Df _ hK rfl
    refine ⟨by simp, .inl ⟨_, _, rfl, run_takeDeferred hK', ?_⟩⟩
    have hc5 := cell_kept (World.cell?_setCell_same' W ⟨w.heap.size + 1, 0, none⟩ (.bool true) (by rw [hcr]; rfl)) (grownBy_putObj' _ Df (.deferred none)) (fun r e => by cases e; exact ⟨_, hK', rfl⟩)
    refine ⟨.bool true, ?_, by first | rfl | rw [hg], (hB.setCell (p := ⟨w.heap.size + 1, 0, none⟩) (by simp) _).trans (belowK_b (w := w) (Nat.le_refl _) _ Df _ _ (by omega) hK' rfl rfl)⟩
    simp [results, Tryd.f10, go_sem, hc5]
  case stop =>
    rintro Df c pre W hDf hpre ⟨⟨rfl, ⟨y, hy, hyn⟩, hcr⟩, hB⟩ hK
    have hg : goodB n D P Q = false := decide_eq_false fun h => hyn (by
      obtain ⟨g1, g2, g3, g4, g5⟩ := h
      unfold dt
      split
      · exact g4 _ ‹_›
      · split
        · rfl
        · exact g5)
    gi_wp2
    refine ⟨by simp, .inl ⟨_, _, rfl, run_takeDeferred hK, ?_⟩⟩
    have hc5 := cell_kept hcr (grownBy_putObj' _ Df (.deferred none)) (fun r e => by cases e; exact ⟨_, hK, rfl⟩)
    refine ⟨.bool false, ?_, by first | rfl | rw [hg], hB.trans (belowK_b (w := w) (Nat.le_refl _) W Df _ _ (by omega) hK rfl rfl)⟩
    simp [results, Tryd.f10, go_sem, hc5]
end Go.Proofs.YtgipopkjjhehlaaDoor
