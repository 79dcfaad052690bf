import Derived.Test.YtdbmdblghlfjfaaB2
import Derived.Test.YtdbmdblghlfjfaaZ3
/- Parts of a row; the closures of the searches; whether a piece meets any of a row. -/
namespace Go.Proofs.Ytdbmdblghlfjfaa
open Go.ChangeShapes Go.WideShapes Go.ChangeAt Go.RowKit
set_option linter.unusedVariables false
open Mp

attribute [local go_sem] Oper.semAt_some

/-- A part of a row. -/
def subA (x : Option Addr) (k c : Nat) : Option Addr := if c = k then x else x.map (·.add (k * 4))
theorem size40 (w : World) : (Go.sizeOf 40).run Try.prog w = .ok 4 w := Try.sizeOf40 w
theorem slice_to (x : Option Addr) (n c k : Nat) (h : k ≤ c) (w : World) : (Instr.slice 27 (.slice x n c) none (some (.int .i64 (k : Int))) none).run Try.prog w = .ok (.slice (subA x 0 c) k c) w := by
  rw [run_slice_h w 27 x n c (by kernel_rfl) .i64 k (by omega) (by omega), show Try.prog.elem 27 = 40 from by kernel_rfl, size40]
  simp [Result.andThen, sliced, subA]
theorem slice_from (x : Option Addr) (n c k : Nat) (h : k ≤ n) (w : World) : (Instr.slice 27 (.slice x n c) (some (.int .i64 (k : Int))) none none).run Try.prog w = .ok (.slice (subA x k c) (n - k) (c - k)) w := by
  rw [run_slice_l w 27 x n c (by kernel_rfl) .i64 k (by omega) (by omega), show Try.prog.elem 27 = 40 from by kernel_rfl, size40]
  simp [Result.andThen, sliced, subA]
theorem gp_take {l : List Pc} {k i : Nat} (h : i < k) : gp (l.take k) i = gp l i := by simp [gp, h]
theorem gp_drop {l : List Pc} {k i : Nat} : gp (l.drop k) i = gp l (k + i) := by simp [gp]
theorem RowP.takeN {w : World} {a : Option Addr} {n : Nat} {g : Nat → Pc} (h : RowP w a n g) (c k : Nat) (hk : k ≤ n) : RowP w (subA a 0 c) k g := by
  intro hn
  obtain ⟨b, off, rfl, hc⟩ := h (by omega)
  refine ⟨b, off, ?_, fun i hi => hc i (by omega)⟩
  unfold subA
  split
  · rfl
  · simp [Addr.add]
theorem RowP.take {w : World} {a : Option Addr} {l : List Pc} (h : Pcs w a l) (c k : Nat) (hk : k ≤ l.length) : Pcs w (subA a 0 c) (l.take k) := by
  have h1 := RowP.takeN h c k hk
  have e : (l.take k).length = k := by simp; omega
  intro hn
  rw [e] at hn
  obtain ⟨b, off, ea, hc⟩ := h1 hn
  refine ⟨b, off, ea, fun i hi => ?_⟩
  rw [e] at hi
  rw [gp_take hi]
  exact hc i hi
theorem RowP.drop {w : World} {a : Option Addr} {l : List Pc} (h : Pcs w a l) (c k : Nat) (hc : l.length ≤ c) : Pcs w (subA a k c) (l.drop k) := by
  intro hn
  simp at hn
  obtain ⟨b, off, rfl, hcell⟩ := h (by omega)
  refine ⟨b, off + k * 4, ?_, fun i hi => ?_⟩
  · unfold subA
    rw [if_neg (by omega)]
    have e : (⟨b, off, none⟩ : Addr).add (k * 4) = ⟨b, off + k * 4, none⟩ := by unfold Addr.add; split <;> simp_all
    simp [e]
  · simp at hi
    rw [gp_drop]
    have := hcell (k + i) (by omega)
    rw [show off + k * 4 + i * 4 = off + (k + i) * 4 by omega]
    exact this
theorem sx_of {w : World} {a : Option Addr} {n cap : Nat} {f : Nat → Pc} (h : RowP w a n f) : Sx (w.alloc (.cells #[.slice a n cap] 27)) (w.alloc (.cells #[.slice a n cap] 27)).heap.size w.heap.size a n cap f :=
  ⟨by simp, (box1_cells (al1 w _)).1, fun hn => by
    obtain ⟨b, off, e, hc⟩ := h hn
    have hb := below_alloc w (.cells #[.slice a n cap] 27)
    refine ⟨b, off, e, ?_, fun i hi => ⟨cell_on (hc i hi).1 hb, cell_on (hc i hi).2.1 hb, cell_on (hc i hi).2.2.1 hb, cell_on (hc i hi).2.2.2 hb⟩⟩
    have := lt_of_cell (hc 0 (by omega)).1
    simp; omega⟩
theorem All_any (a : Option Addr) (n cap : Nat) (w : World) :
    Calls Try.prog 50 #[.slice a n cap] w fun e w' => e = .returned (.func (.func 75) #[] #[.pointer (some ⟨w.heap.size, 0, none⟩)]) ∧ w' = w.alloc (.cells #[.slice a n cap] 27) := by
  go_enter Try.func50, Try.ntmps50
  go_wp2
  go_ret
  exact ⟨rfl, rfl⟩
theorem fst_any {n : Nat} {f : Nat → Pc} {p : Pc → Bool} {y : Pc} {r : Bool} (h : Fst n f p y r) : r = false ↔ ∀ j, j < n → p (f j) = false := by
  rcases h with ⟨rfl, k, hk, -, hp, -⟩ | ⟨rfl, -, h⟩
  · constructor
    · intro h; cases h
    · intro h
      have := h k hk
      rw [hp] at this
      cases this
  · exact ⟨fun _ => h, fun _ => rfl⟩

set_option maxHeartbeats 2000000 in
theorem cl71_any (p q : Pc) (L : Nat) (w : World) (hp : pok p) (hq : pok q) (hL : w.heap[L]? = some (.cells #[.int .i64 p.f, .int .i64 p.n, .int .i64 p.a, .bool p.z] 40 (0, 0))) :
    Calls Try.prog 71 #[pv q, .pointer (some ⟨L, 0, none⟩)] w fun e w' => e = .returned (.bool (mts p q)) ∧ Below w.heap.size w w' := by
  have d1 := fun u => inFile_any p u
  have d2 := fun u => inFile_any q u
  have d3 := fun u => onDevice_any p u
  have d4 := fun u => onDevice_any q u
  have d5 := fun u => overlap_any p.f p.n q.f q.n u (by unfold pok at hp; unfold i64; omega) (by unfold pok at hq; unfold i64; omega)
  have d6 := fun u => overlap_any p.a p.n q.a q.n u (by unfold pok at hp; unfold i64; omega) (by unfold pok at hq; unfold i64; omega)
  obtain ⟨u, hu⟩ : ∃ u, ovl p.f p.n q.f q.n = u := ⟨_, rfl⟩
  obtain ⟨v, hv⟩ : ∃ v, ovl p.a p.n q.a q.n = v := ⟨_, rfl⟩
  rw [show mts p q = (u || v) by rw [← hu, ← hv]; rfl]
  rw [hu] at d5
  rw [hv] at d6
  clear hu hv hp hq
  obtain ⟨f, n, a, z⟩ := p
  obtain ⟨f', n', a', z'⟩ := q
  simp only at d1 d2 d3 d4 d5 d6 hL
  obtain ⟨W0, hW0⟩ : ∃ W0, w.alloc (.cells #[.int .i64 f', .int .i64 n', .int .i64 a', .bool z'] 40) = W0 := ⟨_, rfl⟩
  have q0 : Below w.heap.size w W0 := by subst hW0; exact below_alloc _ _
  have A2 : W0.heap[w.heap.size]? = some (.cells #[.int .i64 f', .int .i64 n', .int .i64 a', .bool z'] 40 (0, 0)) := by subst hW0; exact al1 _ _
  have A1 := box_on hL q0
  have x0 : ∀ d os, (Go.Sort.grow (redrawn W0 d) os).cell? ⟨L, 0, none⟩ = some (.int .i64 f) := fun d os => cell_regrown (box4_cells A1).1 d os
  have x1 : ∀ d os, (Go.Sort.grow (redrawn W0 d) os).cell? ⟨L, 1, none⟩ = some (.int .i64 n) := fun d os => cell_regrown (box4_cells A1).2.1 d os
  have x2 : ∀ d os, (Go.Sort.grow (redrawn W0 d) os).cell? ⟨L, 2, none⟩ = some (.int .i64 a) := fun d os => cell_regrown (box4_cells A1).2.2.1 d os
  have x3 : ∀ d os, (Go.Sort.grow (redrawn W0 d) os).cell? ⟨L, 3, none⟩ = some (.bool z) := fun d os => cell_regrown (box4_cells A1).2.2.2 d os
  have y0 : ∀ d os, (Go.Sort.grow (redrawn W0 d) os).cell? ⟨w.heap.size, 0, none⟩ = some (.int .i64 f') := fun d os => cell_regrown (box4_cells A2).1 d os
  have y1 : ∀ d os, (Go.Sort.grow (redrawn W0 d) os).cell? ⟨w.heap.size, 1, none⟩ = some (.int .i64 n') := fun d os => cell_regrown (box4_cells A2).2.1 d os
  have y2 : ∀ d os, (Go.Sort.grow (redrawn W0 d) os).cell? ⟨w.heap.size, 2, none⟩ = some (.int .i64 a') := fun d os => cell_regrown (box4_cells A2).2.2.1 d os
  have y3 : ∀ d os, (Go.Sort.grow (redrawn W0 d) os).cell? ⟨w.heap.size, 3, none⟩ = some (.bool z') := fun d os => cell_regrown (box4_cells A2).2.2.2 d os
  have c1 := reg_of d1 W0
  have c2 := reg_of d2 W0
  have c3 := reg_of d3 W0
  have c4 := reg_of d4 W0
  have c5 := reg_of d5 W0
  have c6 := reg_of d6 W0
  clear A1 A2 d1 d2 d3 d4 d5 d6 hL
  cases u
  all_goals
    go_enter Try.func71, Try.ntmps71
    go_wp2
    clear hW0
    refine wp_region_quiet_below (by kernel_rfl) (by kernel_rfl) ?_
    repeat (go_big_quiet_step (first | with_reducible exact c1 _ _ | with_reducible exact c2 _ _ | with_reducible exact c3 _ _ | with_reducible exact c4 _ _ | with_reducible exact c5 _ _ | with_reducible exact c6 _ _))
    refine wpQuiet_nil ?_
    intro _ hw'
    obtain ⟨⟨dq', osq⟩, hw''⟩ := hw'
    subst hw''
    have b8 := below_regrown W0 dq' osq
    clear x0 x1 x2 x3 y0 y1 y2 y3 c1 c2 c3 c4 c5 c6
    generalize Go.Sort.grow (redrawn W0 dq') osq = w8 at *
    go_wp2
    go_ret
    exact ⟨rfl, Below.comp q0 b8⟩
set_option maxHeartbeats 1000000 in
theorem meetsAny_any (p : Pc) (a : Option Addr) (n cap : Nat) (f : Nat → Pc) (R : Bool) (hR : R = false ↔ ∀ j, j < n → mts p (f j) = false) (w : World) (hn : n ≤ 1048576) (hp : pok p) (hf : ∀ j, j < n → pok (f j)) (ha : RowP w a n f) :
    Calls Try.prog 44 #[pv p, .slice a n cap] w fun e w' => e = .returned (.bool R) ∧ Below w.heap.size w w' := by
  obtain ⟨W0, hW0⟩ : ∃ W0, w.alloc (.cells #[.int .i64 p.f, .int .i64 p.n, .int .i64 p.a, .bool p.z] 40) = W0 := ⟨_, rfl⟩
  have q0 : Below w.heap.size w W0 := by subst hW0; exact below_alloc _ _
  have A1 : W0.heap[w.heap.size]? = some (.cells #[.int .i64 p.f, .int .i64 p.n, .int .i64 p.a, .bool p.z] 40 (0, 0)) := by subst hW0; exact al1 _ _
  have qa := below_alloc W0 (.cells #[.slice a n cap] 27)
  have cf := first71 W0.heap.size w.heap.size a n cap f (mts p) (W0.alloc (.cells #[.slice a n cap] 27)) hn (sx_of (ha.below q0)) (fun i hi W hW => cl71_any p (f i) w.heap.size W hp (hf i hi) (box_on A1 (Below.comp qa hW)))
  have cA := All_any a n cap W0
  clear A1 hf ha hp
  obtain ⟨pf, pn, pa, pz⟩ := p
  simp only at hW0 hR cf
  go_enter Try.func44, Try.ntmps44
  go_wp2_with fail
  refine cA.mono ?_
  rintro e w2 ⟨rfl, rfl⟩
  clear hW0
  go_wp2_with fail
  refine cf.mono ?_
  rintro e w3 ⟨b3, y, r, rfl, hF⟩
  have hr := fst_any hF
  have e3 : r = R := by
    have h := hr.trans hR.symm
    clear hr hR hF cf
    cases r <;> cases R <;> simp at h <;> rfl
  subst e3
  clear hF hr hR cf cA
  obtain ⟨yf, yn, ya, yz⟩ := y
  go_wp2
  go_ret
  exact ⟨rfl, Below.comp q0 (Below.comp qa (Below.comp b3 (below_alloc _ _)))⟩
end Go.Proofs.Ytdbmdblghlfjfaa
