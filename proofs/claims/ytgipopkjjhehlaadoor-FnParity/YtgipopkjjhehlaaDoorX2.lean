import Derived.Test.YtgipopkjjhehlaaDoorX1
namespace Go.Proofs.YtgipopkjjhehlaaDoor
open Go.ChangeShapes Go.WideShapes Go.ChangeAt Go.RowKit
set_option linter.unusedVariables false
open GF

/-- Noughts. -/
def zr (L : Nat) : ByteArray := tx L fun _ => 0
set_option maxHeartbeats 400000 in
theorem l1Zeros_any (L : Nat) (w : World) (hL : L ≤ 40) :
    Calls Tryd.prog 62 #[.int .i64 (L : Int)] w fun e w' => e = .returned (.string (zr L)) ∧ Below w.heap.size w w' := by
  have hmk := make_any (P := Tryd.prog) 22 5 _ 1 1 Tryd.underlying22 info5 .i64 .i64 L (by omega) (by omega) w
  obtain ⟨W0, hW0⟩ : ∃ W0, w.alloc (.cells (made (.int .u8 0) (L * 1)) 5) = W0 := ⟨_, rfl⟩
  have m1 : At W0 (some ⟨w.heap.size, 0, none⟩) L (by' fun _ => 0) := fun _ => ⟨_, 0, rfl, fun i hi => by
    rw [Nat.zero_add, ← hW0, Nat.mul_one]
    exact cell_of_block (heap_alloc_new w _) (bys_made L i hi)⟩
  have v1 : (convert 22 9 (.slice (some ⟨w.heap.size, 0, none⟩) L L)).run Tryd.prog W0 = .ok (.string (zr L)) W0 := conv_any L (fun _ => by omega) m1
  have b0 : Below w.heap.size w W0 := by rw [← hW0]; exact below_alloc _ _
  rw [hW0] at hmk
  clear hW0 m1
  go_enter Tryd.func62, Tryd.ntmps62
  go_wp2
  go_ret
  exact ⟨rfl, b0⟩

/-- One text turned. -/
def upD (D : Nat → ByteArray) (i : Nat) (u : ByteArray) : Nat → ByteArray := fun j => if j = i then u else D j
theorem strs_set {n : Nat} {D : Nat → ByteArray} {c : Array Value} (h : strs n D c) {t : Nat} (ht : t < n) (u : ByteArray) : strs n (upD D t u) (c.setIfInBounds t (.string u)) := by
  intro i hi
  have hc := (Array.getElem?_eq_some_iff.1 (h t ht)).1
  by_cases e : i = t
  · subst e; rw [set_at hc]; simp [upD]
  · rw [set_ne e, h i hi]; simp [upD, e]
theorem Grown.below {w w' : World} {row : Option Nat} {B : Nat} (h : w.grownBy w' row) (hB : B ≤ w.heap.size) (hr : ∀ k, row = some k → B ≤ k) : Below B w w' := (Below.refl _ _).grown h hB hr

set_option maxHeartbeats 800000 in
theorem l3Own_any (a : Option Addr) (n cap : Nat) (D : Nat → ByteArray) (P Q : ByteArray) (w : World) (hn0 : 1 ≤ n) (hn : n ≤ 16) (hc : At w a n fun i => .string (D i)) :
    Calls Tryd.prog 42 #[sv a n cap P Q] w fun e w' => Below w.heap.size w w' ∧ ∃ x cx, e = .returned (sv x n cx P Q) ∧ Mine w' w.heap.size w'.heap.size 9 n x (strs n D) := by
  unfold sv
  obtain ⟨W0, hW0⟩ : ∃ W0, (w.alloc (.cells #[.slice a n cap, .string P, .string Q] 26)).alloc (.cells #[.slice none 0 0, .string ⟨#[]⟩, .string ⟨#[]⟩] 26) = W0 := ⟨_, rfl⟩
  have b0 : Below w.heap.size w W0 := by rw [← hW0]; exact (below_alloc w _).alloc (by simp) _
  have hsz : W0.heap.size = w.heap.size + 1 + 1 := by rw [← hW0]; simp
  have c0 : W0.cell? ⟨w.heap.size, 0, none⟩ = some (.slice a n cap) := by rw [← hW0]; simp [go_sem]
  have c1 : W0.cell? ⟨w.heap.size, 1, none⟩ = some (.string P) := by rw [← hW0]; simp [go_sem]
  have c2 : W0.cell? ⟨w.heap.size, 2, none⟩ = some (.string Q) := by rw [← hW0]; simp [go_sem]
  have d0 : W0.cell? ⟨w.heap.size + 1, 0, none⟩ = some (.slice none 0 0) := by rw [← hW0]; simp [go_sem]
  have d1 : W0.cell? ⟨w.heap.size + 1, 1, none⟩ = some (.string ⟨#[]⟩) := by rw [← hW0]; simp [go_sem]
  have d2 : W0.cell? ⟨w.heap.size + 1, 2, none⟩ = some (.string ⟨#[]⟩) := by rw [← hW0]; simp [go_sem]
  have f0 : W0.frozen? ⟨w.heap.size, 0, none⟩ = false := by rw [← hW0]; simp [go_sem]
  have e0 : W0.frozen? ⟨w.heap.size + 1, 0, none⟩ = false := by rw [← hW0]; simp [go_sem]
  have e1 : W0.frozen? ⟨w.heap.size + 1, 1, none⟩ = false := by rw [← hW0]; simp [go_sem]
  have e2 : W0.frozen? ⟨w.heap.size + 1, 2, none⟩ = false := by rw [← hW0]; simp [go_sem]
  obtain ⟨i0, hi, hz0, hz1, hz2⟩ := info_parts info9
  obtain ⟨W1, hW1⟩ : ∃ W1, W0.alloc (.cells #[] 9) = W1 := ⟨_, rfl⟩
  have b1 : Below W0.heap.size W0 W1 := by rw [← hW1]; exact below_alloc _ _
  obtain ⟨b, off, rfl, hcell⟩ := (hc.below (Below.comp b0 b1)) (by omega)
  have hsrc := strCells_src hcell
  have hown := World.ownsRow_made (e := 9) (size := 1) (base := W0.heap.size) W0 #[] 0 (Nat.le_refl _) (by decide) (by simp)
  have hown1 : W1.ownsRow W0.heap.size 9 1 (.slice (some ⟨W0.heap.size, 0, none⟩) 0 0) 0 [] := by rw [← hW1]; exact hown
  have z1 : W0.heap.size ≤ W1.heap.size := b1.size
  have hz : w.heap.size + 1 < W0.heap.size := by omega
  have c0w := cell_on c0 b1
  clear hown hcell hc
  have HSZ : Hid _ := hsz
  clear hsz
  go_enter Tryd.func42, Tryd.ntmps42
  go_wp2_with (at_builtin; refine wpList_append_own _ rfl _ _ 23 rfl W0.heap.size 9 i0 _ 1 16 Tryd.underlying23 hi hz0 hz1 hz2 rfl (by decide) (.slice (some ⟨W0.heap.size, 0, none⟩) 0 0) 0 [] rfl hown1 ⟨b, off, none⟩ n cap (strCells n D) rfl (by rw [strCells_len]; omega) hsrc (strCells_one _ _) (by unfold maxLen; omega) (by omega) z1 ?_; intro v' w2 hown2 hgrow _; obtain ⟨g, cg, cur, hv, hg0, hg1, hg2, hg3⟩ := owns_mine hown2 (by omega); subst hv; clear hown2; have b2 : Below W0.heap.size W0 w2 := (b1.trans (Grown.below hgrow z1 (by intro k hk; simp [Value.ownBlock] at hk; omega))); have c1' := cell_on c1 b2; have c2' := cell_on c2 b2; have c0' := cell_on c0 b2; have d0' := cell_on d0 b2; have d1' := cell_on d1 b2; have d2' := cell_on d2 b2; have f0' := ((bcell b2).2 _ 0 (by omega : w.heap.size < W0.heap.size)).trans f0; have e0' := ((bcell b2).2 _ 0 hz).trans e0; have e1' := ((bcell b2).2 _ 1 hz).trans e1; have e2' := ((bcell b2).2 _ 2 hz).trans e2)
  have hst : strs n D cur := fun i hi => by rw [hg3 i (by omega)]; exact strCells_at n D hi
  have hgl := (Array.getElem?_eq_some_iff.1 hg1).1
  have m : Mine w2 W0.heap.size w2.heap.size 9 n (some ⟨g, 0, none⟩) (strs n D) := .inr ⟨g, cur, hg0, hgl, rfl, hg1, hst⟩
  have hz' := HSZ.out
  refine bodyPost_ret (v := .agg #[.slice (some ⟨g, 0, none⟩) n cg, .string P, .string Q]) (by simp [results, Tryd.results42, go_sem, d0', d1', d2']) rfl ⟨?_, some ⟨g, 0, none⟩, cg, rfl, ?_⟩
  · have g2 := b0.trans (b2.mono b0.size)
    refine (((g2.setCell ?_ _).setCell ?_ _).setCell ?_ _).setCell ?_ _ <;> simp
  · refine (m.out ((((Out.refl w.heap.size (w.heap.size + 2) w2).setCell ?_ ?_ _ _).setCell ?_ ?_ _ _ |>.setCell ?_ ?_ _ _) |>.setCell ?_ ?_ _ _) (.inr ?_)).mono ?_ ?_ <;> first | omega | (simp; done) | (simp; omega)
end Go.Proofs.YtgipopkjjhehlaaDoor
