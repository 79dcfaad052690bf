import Derived.Test.YtpolhigpcllhiaaIF
import Derived.Test.YtpolhigpcllhiaaI5
import Derived.Deep.DeepCutAuto
/- Work with an item more: the program's side. -/
namespace Go.Proofs.Ytpolhigpcllhiaa
open Go.ChangeShapes Go.WideShapes Go.ChangeAt Go.RowKit
set_option linter.unusedVariables false
open Room

attribute [local go_sem] Oper.semAt_some

section
variable {P : Program} {ops : Array Oper} {Q : Exit → Act → World → Prop} {md : Region.Mode} {S : World → Prop} {last : Nat}
/-- Any of those that may come up now, the last one not among them. -/
theorem someL {fuel : Nat} {listed : Array Bool} {a : Act} {w : World} (l : List Nat) (hr : Region.ready md ops listed = l) (hne : l ≠ [])
    (h : ∀ i, i ∈ l → wpOp P ops Q i (fun a' w' => (i ≠ last → S w') ∧ wpAnyL P md ops Q S last fuel (listed.setIfInBounds i true) a' w') a w) : wpAnyL P md ops Q S last (fuel + 1) listed a w :=
  ⟨fun h0 => absurd (hr.symm.trans h0) hne, fun i hi => h i (hr ▸ hi)⟩
theorem stepL {i : Nat} {o : Oper} {fuel : Nat} {listed : Array Bool} {a : Act} {w : World} (ho : ops[i]? = some o)
    (h : ∀ K' : Act → World → Prop, Shut (∀ a w, S w → (S w → wpAnyL P md ops Q S last fuel (listed.setIfInBounds i true) a w) → K' a w) → if Region.wanted o (yielded ops a.tmps) = true then Oper.wp P o a w K' Q else K' (a.put o.dst undef) w) :
    wpOp P ops Q i (fun a' w' => (i ≠ last → S w') ∧ wpAnyL P md ops Q S last fuel (listed.setIfInBounds i true) a' w') a w :=
  wpOp_step ho (fun K' hK => h K' (fun a w hS hW => hK a w ⟨fun _ => hS, hW hS⟩))
end
theorem Concat2_any (Qb Pb : Nat) (ia : Option Addr) (ci : Nat) (t : List It) (x : It) (w : World) (hm : t.length ≤ 1048576) (ht : Its w ia t) (hQ : w.heap[Qb]? = some (.cells #[.slice ia t.length ci, .slice (some ⟨Pb, 0, none⟩) 1 1] 25 (0, 0))) (hP : w.heap[Pb]? = some (.cells #[.int .i64 x.k, .int .i64 x.i, .int .i64 x.x.1, .int .i64 x.x.2, .int .i64 x.u] 71 (0, 0))) :
    Calls Try.prog 66 #[.slice (some ⟨Qb, 0, none⟩) 2 2] w fun e w' => Below w.heap.size w w' ∧ ∃ y cy, e = .returned (.slice y (t.length + 1) cy) ∧ OwnI w' w.heap.size (.slice y (t.length + 1) cy) (t ++ [x]) := by
  have h := ConcatI_any Qb 2 2 (fun i => if i = 0 then ia else some ⟨Pb, 0, none⟩) (fun i => if i = 0 then ci else 1) (fun i => if i = 0 then t else [x]) w (by omega)
    (fun i hi => by by_cases e : i = 0 <;> simp [e]; omega)
    (fun i hi => by
      have e : i = 0 ∨ i = 1 := by omega
      rcases e with rfl | rfl
      · exact cell_of_block hQ rfl
      · exact cell_of_block hQ rfl)
    (fun i hi => by
      by_cases e : i = 0
      · simp only [e, if_true]; exact ht
      · simp only [e, if_false]
        obtain ⟨k0, k1, k2, k3, k4⟩ := box5_cells hP
        intro _
        refine ⟨Pb, 0, rfl, fun j hj => ?_⟩
        obtain rfl : j = 0 := by simp at hj; exact hj
        exact ⟨by simpa [gi] using k0, by simpa [gi] using k1, by simpa [gi] using k2, by simpa [gi] using k3, by simpa [gi] using k4⟩)
  have e : flatI (fun i => if i = 0 then t else [x]) 2 = t ++ [x] := by simp [flatI]
  rw [e] at h
  refine h.mono ?_
  rintro e w' ⟨b1, y, cy, rfl, ho⟩
  have el : (t ++ [x]).length = t.length + 1 := by simp
  rw [el] at ho
  exact ⟨b1, y, cy, by rw [el], ho⟩
theorem leafW (W0 w : World) (K9 A A' C C' : Nat) {b nx2 : Int} {x : Option Addr} {n c : Nat} {x' : Option Addr} {n' c' : Nat} {y : Option Addr} {m cy p1 q1 p2 q2 : Nat} {f f' : Nat → Ex} {g2 : Nat → It}
    (hB : w.heap[K9]? = some (.cells #[.int .i64 0, .slice none 0 0, .slice none 0 0, .int .i64 0, .slice none 0 0] 27 (0, 0))) (m1 : MineX w p1 q1 x n f) (m2 : MineX w p2 q2 x' n' f') (hr1 : A ≤ p1 ∧ q1 ≤ A' ∧ A ≤ p2 ∧ q2 ≤ A') (hr2 : q1 ≤ p2 ∨ q2 ≤ p1) (hC : MineI w C C' y (m + 1) g2 ∧ m + 1 ≤ cy) (hW : Below W0.heap.size W0 w)
    (h1 : A' ≤ C ∨ C' ≤ A) (h2 : K9 < A ∨ A' ≤ K9) (h3 : K9 < C ∨ C' ≤ K9) (h4 : W0.heap.size ≤ A ∧ W0.heap.size ≤ C ∧ W0.heap.size ≤ K9) (h5 : A' ≤ w.heap.size) (h6 : C' ≤ w.heap.size) (h7 : K9 < w.heap.size) :
    ∃ K x0 c0 x0' c0' y0 cy0, Value.pointer (some ⟨K9, 0, none⟩) = .pointer (some ⟨K, 0, none⟩) ∧ (((((w.setCell ⟨K9, 0, none⟩ (.int .i64 b)).setCell ⟨K9, 1, none⟩ (.slice x n c)).setCell ⟨K9, 2, none⟩ (.slice x' n' c')).setCell ⟨K9, 3, none⟩ (.int .i64 nx2)).setCell ⟨K9, 4, none⟩ (.slice y (m + 1) cy)).heap[K]? = some (.cells #[.int .i64 b, .slice x0 n c0, .slice x0' n' c0', .int .i64 nx2, .slice y0 (m + 1) cy0] 27 (0, 0)) ∧ WkM (((((w.setCell ⟨K9, 0, none⟩ (.int .i64 b)).setCell ⟨K9, 1, none⟩ (.slice x n c)).setCell ⟨K9, 2, none⟩ (.slice x' n' c')).setCell ⟨K9, 3, none⟩ (.int .i64 nx2)).setCell ⟨K9, 4, none⟩ (.slice y (m + 1) cy)) W0.heap.size (((((w.setCell ⟨K9, 0, none⟩ (.int .i64 b)).setCell ⟨K9, 1, none⟩ (.slice x n c)).setCell ⟨K9, 2, none⟩ (.slice x' n' c')).setCell ⟨K9, 3, none⟩ (.int .i64 nx2)).setCell ⟨K9, 4, none⟩ (.slice y (m + 1) cy)).heap.size (wv b x0 n c0 x0' n' c0' nx2 y0 (m + 1) cy0) b n n' (m + 1) f f' nx2 g2 ∧ Below W0.heap.size W0 (((((w.setCell ⟨K9, 0, none⟩ (.int .i64 b)).setCell ⟨K9, 1, none⟩ (.slice x n c)).setCell ⟨K9, 2, none⟩ (.slice x' n' c')).setCell ⟨K9, 3, none⟩ (.int .i64 nx2)).setCell ⟨K9, 4, none⟩ (.slice y (m + 1) cy)) := by
  have o := box5_out w K9 (.int .i64 b) (.slice x n c) (.slice x' n' c') (.int .i64 nx2) (.slice y (m + 1) cy)
  have z := o.size
  exact ⟨K9, x, c, x', c', y, cy, rfl, box5_set hB, ⟨x, c, x', c', y, cy, p1, q1, p2, q2, C, C', rfl, by omega, by omega, m1.out o (by omega), m2.out o (by omega), hC.1.out o (by omega), hC.2⟩, hW.trans ((o.below (by omega)).mono (by omega))⟩

/-- What work with an item more is. -/
def wiB (ok : Bool) (b : Int) : Int := if ok then b else 0
def wiL {α : Type} (ok : Bool) (l : List α) : List α := if ok then l else []
set_option maxRecDepth 20000 in
set_option maxHeartbeats 16000000 in
theorem withItem_any (b : Int) (a : Option Addr) (ca : Nat) (a' : Option Addr) (ca' : Nat) (l s : List Ex) (nx : Int) (i : Option Addr) (ci : Nat) (t : List It) (x0 : It) (nx2 : Int) (w : World) (hn : l.length ≤ 1048576) (hn' : s.length ≤ 1048576) (hm : t.length ≤ 1048576) (hx : ∀ x, x ∈ l → x.1 ≤ 9223372036854775807) (hxi : ∀ x, x ∈ t ++ [x0] → x.x.1 ≤ 9223372036854775807) (ha : Exs w a l) (ha' : Exs w a' s) (hi : Its w i t) :
    Calls Try.prog 44 #[wv b a l.length ca a' s.length ca' nx i t.length ci, iv x0, .int .i64 nx2] w fun e w' => Below w.heap.size w w' ∧ ∃ v, e = .returned (.tuple #[v, .bool (gw b l s nx2 (t ++ [x0]))]) ∧ WkM w' w.heap.size w'.heap.size v (wiB (gw b l s nx2 (t ++ [x0])) b) (wiL (gw b l s nx2 (t ++ [x0])) l).length (wiL (gw b l s nx2 (t ++ [x0])) s).length (wiL (gw b l s nx2 (t ++ [x0])) (t ++ [x0])).length (gx (wiL (gw b l s nx2 (t ++ [x0])) l)) (gx (wiL (gw b l s nx2 (t ++ [x0])) s)) (wiB (gw b l s nx2 (t ++ [x0])) nx2) (gi (wiL (gw b l s nx2 (t ++ [x0])) (t ++ [x0]))) := by
  have cC := fun W h => copyFree_any b a ca a' ca' l s W hn hn' (ha.below h) (ha'.below h)
  have cR := fun (W : World) h Qb Pb => Concat2_any Qb Pb i ci t x0 W hm (hi.below h)
  have cG := fun (W : World) (v : Value) (h : WkR W v b l.length s.length (t.length + 1) (gx l) (gx s) nx2 (gi (t ++ [x0]))) => show Calls Try.prog 17 #[v] W fun e w' => e = .returned (.bool (gw b l s nx2 (t ++ [x0]))) ∧ Below W.heap.size W w' by
    obtain ⟨x, c, x', c', y, cy, rfl, k1, k2, k3, k4⟩ := h
    have el : (t ++ [x0]).length = t.length + 1 := by simp
    have k3' : Its W y (t ++ [x0]) := by unfold Its; rw [el]; exact k3
    have := implGoodW_any b x c x' c' l s nx2 y cy (t ++ [x0]) W hn hn' (by omega) hx hxi k1 k2 k3'
    rw [el] at this
    exact this
  have HOw : Hid (∀ (wa wb : World) (B : Nat) (y : Option Addr) (cy : Nat), wa.ownsRow B 71 5 (.slice y (t.length + 1) cy) (t ++ [x0]).length (cis (t ++ [x0])) → Below wa.heap.size wa wb → MineI wb B wa.heap.size y (t.length + 1) (gi (t ++ [x0])) ∧ t.length + 1 ≤ cy) := fun wa wb B y cy h hb => by
    have el : (t ++ [x0]).length = t.length + 1 := by simp
    have h1 := OwnI.own (l := t ++ [x0]) h
    rw [el] at h1
    exact ⟨h1.1.below hb, h1.2.2⟩
  have HFin : Hid (∀ (w' : World) (B C : Nat) (v : Value), WkM w' B C v b l.length s.length (t.length + 1) (gx l) (gx s) nx2 (gi (t ++ [x0])) → WkM w' B C v (wiB true b) (wiL true l).length (wiL true s).length (wiL true (t ++ [x0])).length (gx (wiL true l)) (gx (wiL true s)) (wiB true nx2) (gi (wiL true (t ++ [x0])))) := fun w' B C v h => by
    have el : (t ++ [x0]).length = t.length + 1 := by simp
    show WkM w' B C v b l.length s.length (t ++ [x0]).length (gx l) (gx s) nx2 (gi (t ++ [x0]))
    rw [el]
    exact h
  generalize gw b l s nx2 (t ++ [x0]) = ok at *
  clear ha ha' hi hx hxi
  obtain ⟨L2, hL2⟩ : ∃ L2, t ++ [x0] = L2 := ⟨_, rfl⟩
  rw [hL2] at cR cG HOw HFin
  rw [hL2]
  have hlen : t.length + 1 = L2.length := by rw [← hL2]; simp
  clear hL2
  obtain ⟨f, hf⟩ : ∃ f, gx l = f := ⟨_, rfl⟩
  obtain ⟨f', hf'⟩ : ∃ f', gx s = f' := ⟨_, rfl⟩
  obtain ⟨g2, hg2⟩ : ∃ g2, gi L2 = g2 := ⟨_, rfl⟩
  rw [hf] at cC cG HFin
  rw [hf'] at cC cG HFin
  rw [hg2] at cG HOw HFin
  clear hf hf' hg2 hlen
  obtain ⟨n, hnn⟩ : ∃ n, l.length = n := ⟨_, rfl⟩
  obtain ⟨n', hnn'⟩ : ∃ n', s.length = n' := ⟨_, rfl⟩
  obtain ⟨m, hmm⟩ : ∃ m, t.length = m := ⟨_, rfl⟩
  rw [hnn] at cC cG HFin hn
  rw [hnn'] at cC cG HFin hn'
  rw [hmm] at cR cG HOw HFin hm
  rw [hnn, hnn', hmm]
  clear hnn hnn' hmm
  obtain ⟨pk, pi, ⟨px, py⟩, pu⟩ := x0
  simp only at cR
  obtain ⟨D, hD⟩ : ∃ D, w.heap.size = D := ⟨_, rfl⟩
  obtain ⟨W0, hW0⟩ : ∃ W0, ((w.alloc (.cells #[.int .i64 b, .slice a n ca, .slice a' n' ca', .int .i64 nx, .slice i m ci] 27)).alloc (.cells #[.int .i64 pk, .int .i64 pi, .int .i64 px, .int .i64 py, .int .i64 pu] 71)).alloc (.cells #[.int .i64 0, .slice none 0 0, .slice none 0 0, .int .i64 0, .slice none 0 0] 27) = W0 := ⟨_, rfl⟩
  have g0 : Below w.heap.size w W0 := by subst hW0; exact ba3 _ _ _ _
  obtain ⟨B1, B2, B3⟩ : W0.heap[D]? = some (.cells #[.int .i64 b, .slice a n ca, .slice a' n' ca', .int .i64 nx, .slice i m ci] 27 (0, 0)) ∧ W0.heap[D + 1]? = some (.cells #[.int .i64 pk, .int .i64 pi, .int .i64 px, .int .i64 py, .int .i64 pu] 71 (0, 0)) ∧ W0.heap[D + 1 + 1]? = some (.cells #[.int .i64 0, .slice none 0 0, .slice none 0 0, .int .i64 0, .slice none 0 0] 27 (0, 0)) := by subst hW0 hD; exact al3 _ _ _ _
  have H1 : Hid (W0.heap[D]? = some (.cells #[.int .i64 b, .slice a n ca, .slice a' n' ca', .int .i64 nx, .slice i m ci] 27 (0, 0))) := B1
  have H2 : Hid (W0.heap[D + 1]? = some (.cells #[.int .i64 pk, .int .i64 pi, .int .i64 px, .int .i64 py, .int .i64 pu] 71 (0, 0))) := B2
  have H3 : Hid (W0.heap[D + 1 + 1]? = some (.cells #[.int .i64 0, .slice none 0 0, .slice none 0 0, .int .i64 0, .slice none 0 0] 27 (0, 0))) := B3
  have z0 := box_lt B3
  have cC := fun W h => cC W (Below.comp g0 h)
  have cR := fun W h Qb Pb h1 h2 => cR W (Below.comp g0 h) Qb Pb h1 h2
  have SB : Hid (∀ W, Below W0.heap.size W0 W → W.cell? ⟨D, 0, none⟩ = some (.int .i64 b) ∧ W.cell? ⟨D, 1, none⟩ = some (.slice a n ca) ∧ W.cell? ⟨D, 2, none⟩ = some (.slice a' n' ca') ∧ W.cell? ⟨D, 3, none⟩ = some (.int .i64 nx) ∧ W.cell? ⟨D, 4, none⟩ = some (.slice i m ci) ∧ W.cell? ⟨D + 1, 0, none⟩ = some (.int .i64 pk) ∧ W.cell? ⟨D + 1, 1, none⟩ = some (.int .i64 pi) ∧ W.cell? ⟨D + 1, 2, none⟩ = some (.int .i64 px) ∧ W.cell? ⟨D + 1, 3, none⟩ = some (.int .i64 py) ∧ W.cell? ⟨D + 1, 4, none⟩ = some (.int .i64 pu) ∧ Below W0.heap.size W0 W) := fun W z => by
    obtain ⟨h0, h1, h2, h3, h4⟩ := box5_cells (box_on H1.out z)
    obtain ⟨k0, k1, k2, k3, k4⟩ := box5_cells (box_on H2.out z)
    exact ⟨h0, h1, h2, h3, h4, k0, k1, k2, k3, k4, z⟩
  clear B1 B2 B3
  have zd : W0.drew.heap.size = W0.heap.size := rfl
  have HW0 : Hid (((w.alloc (.cells #[.int .i64 b, .slice a n ca, .slice a' n' ca', .int .i64 nx, .slice i m ci] 27)).alloc (.cells #[.int .i64 pk, .int .i64 pi, .int .i64 px, .int .i64 py, .int .i64 pu] 71)).alloc (.cells #[.int .i64 0, .slice none 0 0, .slice none 0 0, .int .i64 0, .slice none 0 0] 27) = W0) := hW0
  go_enter Try.func44, Try.ntmps44
  go_wp2
  go_cut [8] (fun sp wx => ∃ K x c x' c' y cy, sp = .pointer (some ⟨K, 0, none⟩) ∧ wx.heap[K]? = some (.cells #[.int .i64 b, .slice x n c, .slice x' n' c', .int .i64 nx2, .slice y (m + 1) cy] 27 (0, 0)) ∧ WkM wx W0.heap.size wx.heap.size (wv b x n c x' n' c' nx2 y (m + 1) cy) b n n' (m + 1) f f' nx2 g2 ∧ Below W0.heap.size W0 wx)
  case first =>
    clear hW0
    refine wp_region_L (fun W => Below W0.heap.size W0 W) 12 13 (by kernel_rfl) rfl (Below.drew (Below.refl _ _)) (fun hS0 => ?_)
    obtain ⟨Wd, hWd⟩ : ∃ Wd, W0.drew = Wd := ⟨_, rfl⟩
    rw [hWd] at hS0 zd
    rw [hWd]
    have HZd : Hid (Wd.heap.size = W0.heap.size) := zd
    clear hWd zd
    refine tkL (i := 0) (d := 9) (v := ?_) rfl rfl (by kernel_rfl) (by kernel_rfl) (by kernel_rfl) (by kernel_rfl) (fun _ _ _ h => h) (Or.inl ⟨by rfl, by intro wq hSq; obtain ⟨q0, q1, q2, q3, q4, r0, r1, r2, r3, r4, -⟩ := SB.out wq hSq; go_simp; try with_reducible rfl⟩) (by assumption) ?_
    simp only [List.setIfInBounds_toArray, List.set_cons_zero, List.set_cons_succ]
    refine tkL (i := 1) (d := 10) (v := ?_) rfl rfl (by kernel_rfl) (by kernel_rfl) (by kernel_rfl) (by kernel_rfl) (fun _ _ _ h => h) (Or.inl ⟨by rfl, by intro wq hSq; obtain ⟨q0, q1, q2, q3, q4, r0, r1, r2, r3, r4, -⟩ := SB.out wq hSq; go_simp; try with_reducible rfl⟩) (by assumption) ?_
    simp only [List.setIfInBounds_toArray, List.set_cons_zero, List.set_cons_succ]
    refine tkL (i := 3) (d := 12) (v := ?_) rfl rfl (by kernel_rfl) (by kernel_rfl) (by kernel_rfl) (by kernel_rfl) (fun _ _ _ h => h) (Or.inl ⟨by rfl, by intro wq hSq; obtain ⟨q0, q1, q2, q3, q4, r0, r1, r2, r3, r4, -⟩ := SB.out wq hSq; go_simp; try with_reducible rfl⟩) (by assumption) ?_
    simp only [List.setIfInBounds_toArray, List.set_cons_zero, List.set_cons_succ]
    refine tkL (i := 4) (d := 13) (v := ?_) rfl rfl (by kernel_rfl) (by kernel_rfl) (by kernel_rfl) (by kernel_rfl) (fun _ _ _ h => h) (Or.inl ⟨by rfl, by intro wq hSq; obtain ⟨q0, q1, q2, q3, q4, r0, r1, r2, r3, r4, -⟩ := SB.out wq hSq; go_simp; try with_reducible rfl⟩) (by assumption) ?_
    simp only [List.setIfInBounds_toArray, List.set_cons_zero, List.set_cons_succ]
    refine tkL (i := 5) (d := 14) (v := ?_) rfl rfl (by kernel_rfl) (by kernel_rfl) (by kernel_rfl) (by kernel_rfl) (fun _ _ _ h => h) (Or.inl ⟨by rfl, by intro wq hSq; obtain ⟨q0, q1, q2, q3, q4, r0, r1, r2, r3, r4, -⟩ := SB.out wq hSq; go_simp; try with_reducible rfl⟩) (by assumption) ?_
    simp only [List.setIfInBounds_toArray, List.set_cons_zero, List.set_cons_succ]
    refine tkL (i := 6) (d := 15) (v := ?_) rfl rfl (by kernel_rfl) (by kernel_rfl) (by kernel_rfl) (by kernel_rfl) (fun _ _ _ h => h) (Or.inl ⟨by rfl, by intro wq hSq; obtain ⟨q0, q1, q2, q3, q4, r0, r1, r2, r3, r4, -⟩ := SB.out wq hSq; go_simp; try with_reducible rfl⟩) (by assumption) ?_
    simp only [List.setIfInBounds_toArray, List.set_cons_zero, List.set_cons_succ]
    refine someL [2, 7, 11] (by kernel_rfl) (by simp) (fun iq hiq => ?_)
    simp only [List.mem_cons, List.not_mem_nil, or_false] at hiq
    rcases hiq with rfl | rfl | rfl
    · refine stepL (o := _) rfl (fun K0 hK0 => ?_)
      go_simp
      refine (cC _ hS0).mono ?_
      rintro e w1 ⟨bs, va, rfl, x, c, x', c', p1, q1, p2, q2, rfl, hr1, hr2, m1, m2⟩
      have bW1 := Below.comp hS0 bs
      have zs1 := bs.size
      refine hK0.out _ _ bW1 (fun _ => ?_)
      clear hK0 K0
      have bRefl1 : Below w1.heap.size w1 w1 := Below.refl _ _
      clear bs
      refine someL [7, 11] (by kernel_rfl) (by simp) (fun iq hiq => ?_)
      simp only [List.mem_cons, List.not_mem_nil, or_false] at hiq
      rcases hiq with rfl | rfl
      · refine stepL (o := _) rfl (fun K0 hK0 => ?_)
        go_simp
        obtain ⟨w2, hw2⟩ : ∃ wz, World.alloc w1 (.cells #[.int .i64 pk, .int .i64 pi, .int .i64 px, .int .i64 py, .int .i64 pu] 71) = wz := ⟨_, rfl⟩
        have bs : Below (World.heap w1).size w1 w2 := by subst hw2; exact below_alloc _ _
        have hP : w2.heap[(World.heap w1).size]? = some (.cells #[.int .i64 pk, .int .i64 pi, .int .i64 px, .int .i64 py, .int .i64 pu] 71 (0, 0)) := by subst hw2; exact al1 _ _
        have bW2 := Below.comp bW1 bs
        have bA2 := Below.comp bRefl1 bs
        have zs2 := bs.size
        first | rw [hw2] | skip
        refine hK0.out _ _ bW2 (fun _ => ?_)
        clear hK0 K0
        have bRefl2 : Below w2.heap.size w2 w2 := Below.refl _ _
        clear bs
        refine someL [8, 11] (by kernel_rfl) (by simp) (fun iq hiq => ?_)
        simp only [List.mem_cons, List.not_mem_nil, or_false] at hiq
        rcases hiq with rfl | rfl
        · refine stepL (o := _) rfl (fun K0 hK0 => ?_)
          go_simp
          obtain ⟨w3, hw3⟩ : ∃ wz, World.alloc w2 (.cells #[.slice i m ci, .slice (some ⟨(World.heap w1).size, 0, none⟩) 1 1] 25) = wz := ⟨_, rfl⟩
          have bs : Below (World.heap w2).size w2 w3 := by subst hw3; exact below_alloc _ _
          have hQ : w3.heap[(World.heap w2).size]? = some (.cells #[.slice i m ci, .slice (some ⟨(World.heap w1).size, 0, none⟩) 1 1] 25 (0, 0)) := by subst hw3; exact al1 _ _
          have bW3 := Below.comp bW2 bs
          have bA3 := Below.comp bA2 bs
          have bP3 := Below.comp bRefl2 bs
          have zs3 := bs.size
          first | rw [hw3] | skip
          refine hK0.out _ _ bW3 (fun _ => ?_)
          clear hK0 K0
          have bRefl3 : Below w3.heap.size w3 w3 := Below.refl _ _
          clear bs
          refine someL [9, 11] (by kernel_rfl) (by simp) (fun iq hiq => ?_)
          simp only [List.mem_cons, List.not_mem_nil, or_false] at hiq
          rcases hiq with rfl | rfl
          · refine stepL (o := _) rfl (fun K0 hK0 => ?_)
            go_simp
            refine (cR _ bW3 _ _ (box_on hQ bRefl3) (box_on hP bP3)).mono ?_
            rintro e w4 ⟨bs, y, cy, rfl, ho⟩
            have bW4 := Below.comp bW3 bs
            have bA4 := Below.comp bA3 bs
            have bP4 := Below.comp bP3 bs
            have bQ4 := Below.comp bRefl3 bs
            have zs4 := bs.size
            refine hK0.out _ _ bW4 (fun _ => ?_)
            clear hK0 K0
            have bRefl4 : Below w4.heap.size w4 w4 := Below.refl _ _
            clear bs
            refine tkL (i := 10) (d := 19) (v := ?_) rfl rfl (by kernel_rfl) (by kernel_rfl) (by kernel_rfl) (by kernel_rfl) (fun _ _ _ h => h) (Or.inl ⟨by rfl, by intro wq hSq; obtain ⟨q0, q1, q2, q3, q4, r0, r1, r2, r3, r4, -⟩ := SB.out wq hSq; go_simp; try with_reducible rfl⟩) (by assumption) ?_
            simp only [List.setIfInBounds_toArray, List.set_cons_zero, List.set_cons_succ]
            refine someL [11] (by kernel_rfl) (by simp) (fun iq hiq => ?_)
            obtain rfl := List.mem_singleton.1 hiq
            · refine stepL (o := _) rfl (fun K0 hK0 => ?_)
              go_simp
              obtain ⟨w5, hw5⟩ : ∃ wz, World.alloc w4 (.cells #[.int .i64 0, .slice none 0 0, .slice none 0 0, .int .i64 0, .slice none 0 0] 27) = wz := ⟨_, rfl⟩
              have bs : Below (World.heap w4).size w4 w5 := by subst hw5; exact below_alloc _ _
              have hX : w5.heap[(World.heap w4).size]? = some (.cells #[.int .i64 0, .slice none 0 0, .slice none 0 0, .int .i64 0, .slice none 0 0] 27 (0, 0)) := by subst hw5; exact al1 _ _
              have zx5 := box_lt hX
              have bW5 := Below.comp bW4 bs
              have bA5 := Below.comp bA4 bs
              have bP5 := Below.comp bP4 bs
              have bQ5 := Below.comp bQ4 bs
              have bC5 := Below.comp bRefl4 bs
              have zs5 := bs.size
              first | rw [hw5] | skip
              refine hK0.out _ _ bW5 (fun _ => ?_)
              clear hK0 K0
              have bRefl5 : Below w5.heap.size w5 w5 := Below.refl _ _
              clear bs
              have hB := box_on hX bRefl5
              obtain ⟨k0, k1, k2, k3, k4⟩ := box5_cells hB
              obtain ⟨j0, j1, j2, j3, j4⟩ := box5_free hB
              refine lastL rfl (by kernel_rfl) (by kernel_rfl) (fun K0 hK0 => ?_)
              go_simp
              refine hK0.out _ _ ?_
              clear hK0 K0
              go_wp2_with fail
              go_meet
              have zd := HZd.out
              have hKl := box_lt hB
              exact leafW W0 w5 (World.heap w4).size (World.heap Wd).size (World.heap w1).size (World.heap w3).size (World.heap w4).size hB (m1.below bA5) (m2.below bA5) hr1 hr2 (HOw.out _ _ _ _ _ ho bC5) bW5 (by omega) (by omega) (by omega) (by omega) (by omega) (by omega) (by omega)
          · refine stepL (o := _) rfl (fun K0 hK0 => ?_)
            go_simp
            obtain ⟨w6, hw6⟩ : ∃ wz, World.alloc w3 (.cells #[.int .i64 0, .slice none 0 0, .slice none 0 0, .int .i64 0, .slice none 0 0] 27) = wz := ⟨_, rfl⟩
            have bs : Below (World.heap w3).size w3 w6 := by subst hw6; exact below_alloc _ _
            have hX : w6.heap[(World.heap w3).size]? = some (.cells #[.int .i64 0, .slice none 0 0, .slice none 0 0, .int .i64 0, .slice none 0 0] 27 (0, 0)) := by subst hw6; exact al1 _ _
            have zx6 := box_lt hX
            have bW6 := Below.comp bW3 bs
            have bA6 := Below.comp bA3 bs
            have bP6 := Below.comp bP3 bs
            have bQ6 := Below.comp bRefl3 bs
            have zs6 := bs.size
            first | rw [hw6] | skip
            refine hK0.out _ _ bW6 (fun _ => ?_)
            clear hK0 K0
            have bRefl6 : Below w6.heap.size w6 w6 := Below.refl _ _
            clear bs
            refine someL [9] (by kernel_rfl) (by simp) (fun iq hiq => ?_)
            obtain rfl := List.mem_singleton.1 hiq
            · refine stepL (o := _) rfl (fun K0 hK0 => ?_)
              go_simp
              refine (cR _ bW6 _ _ (box_on hQ bQ6) (box_on hP bP6)).mono ?_
              rintro e w7 ⟨bs, y, cy, rfl, ho⟩
              have bW7 := Below.comp bW6 bs
              have bA7 := Below.comp bA6 bs
              have bP7 := Below.comp bP6 bs
              have bQ7 := Below.comp bQ6 bs
              have bX7 := Below.comp bRefl6 bs
              have zs7 := bs.size
              refine hK0.out _ _ bW7 (fun _ => ?_)
              clear hK0 K0
              have bRefl7 : Below w7.heap.size w7 w7 := Below.refl _ _
              clear bs
              refine tkL (i := 10) (d := 19) (v := ?_) rfl rfl (by kernel_rfl) (by kernel_rfl) (by kernel_rfl) (by kernel_rfl) (fun _ _ _ h => h) (Or.inl ⟨by rfl, by intro wq hSq; obtain ⟨q0, q1, q2, q3, q4, r0, r1, r2, r3, r4, -⟩ := SB.out wq hSq; go_simp; try with_reducible rfl⟩) (by assumption) ?_
              simp only [List.setIfInBounds_toArray, List.set_cons_zero, List.set_cons_succ]
              have hB := box_on hX bX7
              obtain ⟨k0, k1, k2, k3, k4⟩ := box5_cells hB
              obtain ⟨j0, j1, j2, j3, j4⟩ := box5_free hB
              refine lastL rfl (by kernel_rfl) (by kernel_rfl) (fun K0 hK0 => ?_)
              go_simp
              refine hK0.out _ _ ?_
              clear hK0 K0
              go_wp2_with fail
              go_meet
              have zd := HZd.out
              have hKl := box_lt hB
              exact leafW W0 w7 (World.heap w3).size (World.heap Wd).size (World.heap w1).size (World.heap w6).size (World.heap w7).size hB (m1.below bA7) (m2.below bA7) hr1 hr2 (HOw.out _ _ _ _ _ ho bRefl7) bW7 (by omega) (by omega) (by omega) (by omega) (by omega) (by omega) (by omega)
        · refine stepL (o := _) rfl (fun K0 hK0 => ?_)
          go_simp
          obtain ⟨w8, hw8⟩ : ∃ wz, World.alloc w2 (.cells #[.int .i64 0, .slice none 0 0, .slice none 0 0, .int .i64 0, .slice none 0 0] 27) = wz := ⟨_, rfl⟩
          have bs : Below (World.heap w2).size w2 w8 := by subst hw8; exact below_alloc _ _
          have hX : w8.heap[(World.heap w2).size]? = some (.cells #[.int .i64 0, .slice none 0 0, .slice none 0 0, .int .i64 0, .slice none 0 0] 27 (0, 0)) := by subst hw8; exact al1 _ _
          have zx8 := box_lt hX
          have bW8 := Below.comp bW2 bs
          have bA8 := Below.comp bA2 bs
          have bP8 := Below.comp bRefl2 bs
          have zs8 := bs.size
          first | rw [hw8] | skip
          refine hK0.out _ _ bW8 (fun _ => ?_)
          clear hK0 K0
          have bRefl8 : Below w8.heap.size w8 w8 := Below.refl _ _
          clear bs
          refine someL [8] (by kernel_rfl) (by simp) (fun iq hiq => ?_)
          obtain rfl := List.mem_singleton.1 hiq
          · refine stepL (o := _) rfl (fun K0 hK0 => ?_)
            go_simp
            obtain ⟨w9, hw9⟩ : ∃ wz, World.alloc w8 (.cells #[.slice i m ci, .slice (some ⟨(World.heap w1).size, 0, none⟩) 1 1] 25) = wz := ⟨_, rfl⟩
            have bs : Below (World.heap w8).size w8 w9 := by subst hw9; exact below_alloc _ _
            have hQ : w9.heap[(World.heap w8).size]? = some (.cells #[.slice i m ci, .slice (some ⟨(World.heap w1).size, 0, none⟩) 1 1] 25 (0, 0)) := by subst hw9; exact al1 _ _
            have bW9 := Below.comp bW8 bs
            have bA9 := Below.comp bA8 bs
            have bP9 := Below.comp bP8 bs
            have bX9 := Below.comp bRefl8 bs
            have zs9 := bs.size
            first | rw [hw9] | skip
            refine hK0.out _ _ bW9 (fun _ => ?_)
            clear hK0 K0
            have bRefl9 : Below w9.heap.size w9 w9 := Below.refl _ _
            clear bs
            refine someL [9] (by kernel_rfl) (by simp) (fun iq hiq => ?_)
            obtain rfl := List.mem_singleton.1 hiq
            · refine stepL (o := _) rfl (fun K0 hK0 => ?_)
              go_simp
              refine (cR _ bW9 _ _ (box_on hQ bRefl9) (box_on hP bP9)).mono ?_
              rintro e w10 ⟨bs, y, cy, rfl, ho⟩
              have bW10 := Below.comp bW9 bs
              have bA10 := Below.comp bA9 bs
              have bP10 := Below.comp bP9 bs
              have bX10 := Below.comp bX9 bs
              have bQ10 := Below.comp bRefl9 bs
              have zs10 := bs.size
              refine hK0.out _ _ bW10 (fun _ => ?_)
              clear hK0 K0
              have bRefl10 : Below w10.heap.size w10 w10 := Below.refl _ _
              clear bs
              refine tkL (i := 10) (d := 19) (v := ?_) rfl rfl (by kernel_rfl) (by kernel_rfl) (by kernel_rfl) (by kernel_rfl) (fun _ _ _ h => h) (Or.inl ⟨by rfl, by intro wq hSq; obtain ⟨q0, q1, q2, q3, q4, r0, r1, r2, r3, r4, -⟩ := SB.out wq hSq; go_simp; try with_reducible rfl⟩) (by assumption) ?_
              simp only [List.setIfInBounds_toArray, List.set_cons_zero, List.set_cons_succ]
              have hB := box_on hX bX10
              obtain ⟨k0, k1, k2, k3, k4⟩ := box5_cells hB
              obtain ⟨j0, j1, j2, j3, j4⟩ := box5_free hB
              refine lastL rfl (by kernel_rfl) (by kernel_rfl) (fun K0 hK0 => ?_)
              go_simp
              refine hK0.out _ _ ?_
              clear hK0 K0
              go_wp2_with fail
              go_meet
              have zd := HZd.out
              have hKl := box_lt hB
              exact leafW W0 w10 (World.heap w2).size (World.heap Wd).size (World.heap w1).size (World.heap w9).size (World.heap w10).size hB (m1.below bA10) (m2.below bA10) hr1 hr2 (HOw.out _ _ _ _ _ ho bRefl10) bW10 (by omega) (by omega) (by omega) (by omega) (by omega) (by omega) (by omega)
      · refine stepL (o := _) rfl (fun K0 hK0 => ?_)
        go_simp
        obtain ⟨w11, hw11⟩ : ∃ wz, World.alloc w1 (.cells #[.int .i64 0, .slice none 0 0, .slice none 0 0, .int .i64 0, .slice none 0 0] 27) = wz := ⟨_, rfl⟩
        have bs : Below (World.heap w1).size w1 w11 := by subst hw11; exact below_alloc _ _
        have hX : w11.heap[(World.heap w1).size]? = some (.cells #[.int .i64 0, .slice none 0 0, .slice none 0 0, .int .i64 0, .slice none 0 0] 27 (0, 0)) := by subst hw11; exact al1 _ _
        have zx11 := box_lt hX
        have bW11 := Below.comp bW1 bs
        have bA11 := Below.comp bRefl1 bs
        have zs11 := bs.size
        first | rw [hw11] | skip
        refine hK0.out _ _ bW11 (fun _ => ?_)
        clear hK0 K0
        have bRefl11 : Below w11.heap.size w11 w11 := Below.refl _ _
        clear bs
        refine someL [7] (by kernel_rfl) (by simp) (fun iq hiq => ?_)
        obtain rfl := List.mem_singleton.1 hiq
        · refine stepL (o := _) rfl (fun K0 hK0 => ?_)
          go_simp
          obtain ⟨w12, hw12⟩ : ∃ wz, World.alloc w11 (.cells #[.int .i64 pk, .int .i64 pi, .int .i64 px, .int .i64 py, .int .i64 pu] 71) = wz := ⟨_, rfl⟩
          have bs : Below (World.heap w11).size w11 w12 := by subst hw12; exact below_alloc _ _
          have hP : w12.heap[(World.heap w11).size]? = some (.cells #[.int .i64 pk, .int .i64 pi, .int .i64 px, .int .i64 py, .int .i64 pu] 71 (0, 0)) := by subst hw12; exact al1 _ _
          have bW12 := Below.comp bW11 bs
          have bA12 := Below.comp bA11 bs
          have bX12 := Below.comp bRefl11 bs
          have zs12 := bs.size
          first | rw [hw12] | skip
          refine hK0.out _ _ bW12 (fun _ => ?_)
          clear hK0 K0
          have bRefl12 : Below w12.heap.size w12 w12 := Below.refl _ _
          clear bs
          refine someL [8] (by kernel_rfl) (by simp) (fun iq hiq => ?_)
          obtain rfl := List.mem_singleton.1 hiq
          · refine stepL (o := _) rfl (fun K0 hK0 => ?_)
            go_simp
            obtain ⟨w13, hw13⟩ : ∃ wz, World.alloc w12 (.cells #[.slice i m ci, .slice (some ⟨(World.heap w11).size, 0, none⟩) 1 1] 25) = wz := ⟨_, rfl⟩
            have bs : Below (World.heap w12).size w12 w13 := by subst hw13; exact below_alloc _ _
            have hQ : w13.heap[(World.heap w12).size]? = some (.cells #[.slice i m ci, .slice (some ⟨(World.heap w11).size, 0, none⟩) 1 1] 25 (0, 0)) := by subst hw13; exact al1 _ _
            have bW13 := Below.comp bW12 bs
            have bA13 := Below.comp bA12 bs
            have bX13 := Below.comp bX12 bs
            have bP13 := Below.comp bRefl12 bs
            have zs13 := bs.size
            first | rw [hw13] | skip
            refine hK0.out _ _ bW13 (fun _ => ?_)
            clear hK0 K0
            have bRefl13 : Below w13.heap.size w13 w13 := Below.refl _ _
            clear bs
            refine someL [9] (by kernel_rfl) (by simp) (fun iq hiq => ?_)
            obtain rfl := List.mem_singleton.1 hiq
            · refine stepL (o := _) rfl (fun K0 hK0 => ?_)
              go_simp
              refine (cR _ bW13 _ _ (box_on hQ bRefl13) (box_on hP bP13)).mono ?_
              rintro e w14 ⟨bs, y, cy, rfl, ho⟩
              have bW14 := Below.comp bW13 bs
              have bA14 := Below.comp bA13 bs
              have bX14 := Below.comp bX13 bs
              have bP14 := Below.comp bP13 bs
              have bQ14 := Below.comp bRefl13 bs
              have zs14 := bs.size
              refine hK0.out _ _ bW14 (fun _ => ?_)
              clear hK0 K0
              have bRefl14 : Below w14.heap.size w14 w14 := Below.refl _ _
              clear bs
              refine tkL (i := 10) (d := 19) (v := ?_) rfl rfl (by kernel_rfl) (by kernel_rfl) (by kernel_rfl) (by kernel_rfl) (fun _ _ _ h => h) (Or.inl ⟨by rfl, by intro wq hSq; obtain ⟨q0, q1, q2, q3, q4, r0, r1, r2, r3, r4, -⟩ := SB.out wq hSq; go_simp; try with_reducible rfl⟩) (by assumption) ?_
              simp only [List.setIfInBounds_toArray, List.set_cons_zero, List.set_cons_succ]
              have hB := box_on hX bX14
              obtain ⟨k0, k1, k2, k3, k4⟩ := box5_cells hB
              obtain ⟨j0, j1, j2, j3, j4⟩ := box5_free hB
              refine lastL rfl (by kernel_rfl) (by kernel_rfl) (fun K0 hK0 => ?_)
              go_simp
              refine hK0.out _ _ ?_
              clear hK0 K0
              go_wp2_with fail
              go_meet
              have zd := HZd.out
              have hKl := box_lt hB
              exact leafW W0 w14 (World.heap w1).size (World.heap Wd).size (World.heap w1).size (World.heap w13).size (World.heap w14).size hB (m1.below bA14) (m2.below bA14) hr1 hr2 (HOw.out _ _ _ _ _ ho bRefl14) bW14 (by omega) (by omega) (by omega) (by omega) (by omega) (by omega) (by omega)
    · refine stepL (o := _) rfl (fun K0 hK0 => ?_)
      go_simp
      obtain ⟨w15, hw15⟩ : ∃ wz, World.alloc Wd (.cells #[.int .i64 pk, .int .i64 pi, .int .i64 px, .int .i64 py, .int .i64 pu] 71) = wz := ⟨_, rfl⟩
      have bs : Below (World.heap Wd).size Wd w15 := by subst hw15; exact below_alloc _ _
      have hP : w15.heap[(World.heap Wd).size]? = some (.cells #[.int .i64 pk, .int .i64 pi, .int .i64 px, .int .i64 py, .int .i64 pu] 71 (0, 0)) := by subst hw15; exact al1 _ _
      have bW15 := Below.comp hS0 bs
      have zs15 := bs.size
      first | rw [hw15] | skip
      refine hK0.out _ _ bW15 (fun _ => ?_)
      clear hK0 K0
      have bRefl15 : Below w15.heap.size w15 w15 := Below.refl _ _
      clear bs
      refine someL [2, 8, 11] (by kernel_rfl) (by simp) (fun iq hiq => ?_)
      simp only [List.mem_cons, List.not_mem_nil, or_false] at hiq
      rcases hiq with rfl | rfl | rfl
      · refine stepL (o := _) rfl (fun K0 hK0 => ?_)
        go_simp
        refine (cC _ bW15).mono ?_
        rintro e w16 ⟨bs, va, rfl, x, c, x', c', p1, q1, p2, q2, rfl, hr1, hr2, m1, m2⟩
        have bW16 := Below.comp bW15 bs
        have bP16 := Below.comp bRefl15 bs
        have zs16 := bs.size
        refine hK0.out _ _ bW16 (fun _ => ?_)
        clear hK0 K0
        have bRefl16 : Below w16.heap.size w16 w16 := Below.refl _ _
        clear bs
        refine someL [8, 11] (by kernel_rfl) (by simp) (fun iq hiq => ?_)
        simp only [List.mem_cons, List.not_mem_nil, or_false] at hiq
        rcases hiq with rfl | rfl
        · refine stepL (o := _) rfl (fun K0 hK0 => ?_)
          go_simp
          obtain ⟨w17, hw17⟩ : ∃ wz, World.alloc w16 (.cells #[.slice i m ci, .slice (some ⟨(World.heap Wd).size, 0, none⟩) 1 1] 25) = wz := ⟨_, rfl⟩
          have bs : Below (World.heap w16).size w16 w17 := by subst hw17; exact below_alloc _ _
          have hQ : w17.heap[(World.heap w16).size]? = some (.cells #[.slice i m ci, .slice (some ⟨(World.heap Wd).size, 0, none⟩) 1 1] 25 (0, 0)) := by subst hw17; exact al1 _ _
          have bW17 := Below.comp bW16 bs
          have bP17 := Below.comp bP16 bs
          have bA17 := Below.comp bRefl16 bs
          have zs17 := bs.size
          first | rw [hw17] | skip
          refine hK0.out _ _ bW17 (fun _ => ?_)
          clear hK0 K0
          have bRefl17 : Below w17.heap.size w17 w17 := Below.refl _ _
          clear bs
          refine someL [9, 11] (by kernel_rfl) (by simp) (fun iq hiq => ?_)
          simp only [List.mem_cons, List.not_mem_nil, or_false] at hiq
          rcases hiq with rfl | rfl
          · refine stepL (o := _) rfl (fun K0 hK0 => ?_)
            go_simp
            refine (cR _ bW17 _ _ (box_on hQ bRefl17) (box_on hP bP17)).mono ?_
            rintro e w18 ⟨bs, y, cy, rfl, ho⟩
            have bW18 := Below.comp bW17 bs
            have bP18 := Below.comp bP17 bs
            have bA18 := Below.comp bA17 bs
            have bQ18 := Below.comp bRefl17 bs
            have zs18 := bs.size
            refine hK0.out _ _ bW18 (fun _ => ?_)
            clear hK0 K0
            have bRefl18 : Below w18.heap.size w18 w18 := Below.refl _ _
            clear bs
            refine tkL (i := 10) (d := 19) (v := ?_) rfl rfl (by kernel_rfl) (by kernel_rfl) (by kernel_rfl) (by kernel_rfl) (fun _ _ _ h => h) (Or.inl ⟨by rfl, by intro wq hSq; obtain ⟨q0, q1, q2, q3, q4, r0, r1, r2, r3, r4, -⟩ := SB.out wq hSq; go_simp; try with_reducible rfl⟩) (by assumption) ?_
            simp only [List.setIfInBounds_toArray, List.set_cons_zero, List.set_cons_succ]
            refine someL [11] (by kernel_rfl) (by simp) (fun iq hiq => ?_)
            obtain rfl := List.mem_singleton.1 hiq
            · refine stepL (o := _) rfl (fun K0 hK0 => ?_)
              go_simp
              obtain ⟨w19, hw19⟩ : ∃ wz, World.alloc w18 (.cells #[.int .i64 0, .slice none 0 0, .slice none 0 0, .int .i64 0, .slice none 0 0] 27) = wz := ⟨_, rfl⟩
              have bs : Below (World.heap w18).size w18 w19 := by subst hw19; exact below_alloc _ _
              have hX : w19.heap[(World.heap w18).size]? = some (.cells #[.int .i64 0, .slice none 0 0, .slice none 0 0, .int .i64 0, .slice none 0 0] 27 (0, 0)) := by subst hw19; exact al1 _ _
              have zx19 := box_lt hX
              have bW19 := Below.comp bW18 bs
              have bP19 := Below.comp bP18 bs
              have bA19 := Below.comp bA18 bs
              have bQ19 := Below.comp bQ18 bs
              have bC19 := Below.comp bRefl18 bs
              have zs19 := bs.size
              first | rw [hw19] | skip
              refine hK0.out _ _ bW19 (fun _ => ?_)
              clear hK0 K0
              have bRefl19 : Below w19.heap.size w19 w19 := Below.refl _ _
              clear bs
              have hB := box_on hX bRefl19
              obtain ⟨k0, k1, k2, k3, k4⟩ := box5_cells hB
              obtain ⟨j0, j1, j2, j3, j4⟩ := box5_free hB
              refine lastL rfl (by kernel_rfl) (by kernel_rfl) (fun K0 hK0 => ?_)
              go_simp
              refine hK0.out _ _ ?_
              clear hK0 K0
              go_wp2_with fail
              go_meet
              have zd := HZd.out
              have hKl := box_lt hB
              exact leafW W0 w19 (World.heap w18).size (World.heap w15).size (World.heap w16).size (World.heap w17).size (World.heap w18).size hB (m1.below bA19) (m2.below bA19) hr1 hr2 (HOw.out _ _ _ _ _ ho bC19) bW19 (by omega) (by omega) (by omega) (by omega) (by omega) (by omega) (by omega)
          · refine stepL (o := _) rfl (fun K0 hK0 => ?_)
            go_simp
            obtain ⟨w20, hw20⟩ : ∃ wz, World.alloc w17 (.cells #[.int .i64 0, .slice none 0 0, .slice none 0 0, .int .i64 0, .slice none 0 0] 27) = wz := ⟨_, rfl⟩
            have bs : Below (World.heap w17).size w17 w20 := by subst hw20; exact below_alloc _ _
            have hX : w20.heap[(World.heap w17).size]? = some (.cells #[.int .i64 0, .slice none 0 0, .slice none 0 0, .int .i64 0, .slice none 0 0] 27 (0, 0)) := by subst hw20; exact al1 _ _
            have zx20 := box_lt hX
            have bW20 := Below.comp bW17 bs
            have bP20 := Below.comp bP17 bs
            have bA20 := Below.comp bA17 bs
            have bQ20 := Below.comp bRefl17 bs
            have zs20 := bs.size
            first | rw [hw20] | skip
            refine hK0.out _ _ bW20 (fun _ => ?_)
            clear hK0 K0
            have bRefl20 : Below w20.heap.size w20 w20 := Below.refl _ _
            clear bs
            refine someL [9] (by kernel_rfl) (by simp) (fun iq hiq => ?_)
            obtain rfl := List.mem_singleton.1 hiq
            · refine stepL (o := _) rfl (fun K0 hK0 => ?_)
              go_simp
              refine (cR _ bW20 _ _ (box_on hQ bQ20) (box_on hP bP20)).mono ?_
              rintro e w21 ⟨bs, y, cy, rfl, ho⟩
              have bW21 := Below.comp bW20 bs
              have bP21 := Below.comp bP20 bs
              have bA21 := Below.comp bA20 bs
              have bQ21 := Below.comp bQ20 bs
              have bX21 := Below.comp bRefl20 bs
              have zs21 := bs.size
              refine hK0.out _ _ bW21 (fun _ => ?_)
              clear hK0 K0
              have bRefl21 : Below w21.heap.size w21 w21 := Below.refl _ _
              clear bs
              refine tkL (i := 10) (d := 19) (v := ?_) rfl rfl (by kernel_rfl) (by kernel_rfl) (by kernel_rfl) (by kernel_rfl) (fun _ _ _ h => h) (Or.inl ⟨by rfl, by intro wq hSq; obtain ⟨q0, q1, q2, q3, q4, r0, r1, r2, r3, r4, -⟩ := SB.out wq hSq; go_simp; try with_reducible rfl⟩) (by assumption) ?_
              simp only [List.setIfInBounds_toArray, List.set_cons_zero, List.set_cons_succ]
              have hB := box_on hX bX21
              obtain ⟨k0, k1, k2, k3, k4⟩ := box5_cells hB
              obtain ⟨j0, j1, j2, j3, j4⟩ := box5_free hB
              refine lastL rfl (by kernel_rfl) (by kernel_rfl) (fun K0 hK0 => ?_)
              go_simp
              refine hK0.out _ _ ?_
              clear hK0 K0
              go_wp2_with fail
              go_meet
              have zd := HZd.out
              have hKl := box_lt hB
              exact leafW W0 w21 (World.heap w17).size (World.heap w15).size (World.heap w16).size (World.heap w20).size (World.heap w21).size hB (m1.below bA21) (m2.below bA21) hr1 hr2 (HOw.out _ _ _ _ _ ho bRefl21) bW21 (by omega) (by omega) (by omega) (by omega) (by omega) (by omega) (by omega)
        · refine stepL (o := _) rfl (fun K0 hK0 => ?_)
          go_simp
          obtain ⟨w22, hw22⟩ : ∃ wz, World.alloc w16 (.cells #[.int .i64 0, .slice none 0 0, .slice none 0 0, .int .i64 0, .slice none 0 0] 27) = wz := ⟨_, rfl⟩
          have bs : Below (World.heap w16).size w16 w22 := by subst hw22; exact below_alloc _ _
          have hX : w22.heap[(World.heap w16).size]? = some (.cells #[.int .i64 0, .slice none 0 0, .slice none 0 0, .int .i64 0, .slice none 0 0] 27 (0, 0)) := by subst hw22; exact al1 _ _
          have zx22 := box_lt hX
          have bW22 := Below.comp bW16 bs
          have bP22 := Below.comp bP16 bs
          have bA22 := Below.comp bRefl16 bs
          have zs22 := bs.size
          first | rw [hw22] | skip
          refine hK0.out _ _ bW22 (fun _ => ?_)
          clear hK0 K0
          have bRefl22 : Below w22.heap.size w22 w22 := Below.refl _ _
          clear bs
          refine someL [8] (by kernel_rfl) (by simp) (fun iq hiq => ?_)
          obtain rfl := List.mem_singleton.1 hiq
          · refine stepL (o := _) rfl (fun K0 hK0 => ?_)
            go_simp
            obtain ⟨w23, hw23⟩ : ∃ wz, World.alloc w22 (.cells #[.slice i m ci, .slice (some ⟨(World.heap Wd).size, 0, none⟩) 1 1] 25) = wz := ⟨_, rfl⟩
            have bs : Below (World.heap w22).size w22 w23 := by subst hw23; exact below_alloc _ _
            have hQ : w23.heap[(World.heap w22).size]? = some (.cells #[.slice i m ci, .slice (some ⟨(World.heap Wd).size, 0, none⟩) 1 1] 25 (0, 0)) := by subst hw23; exact al1 _ _
            have bW23 := Below.comp bW22 bs
            have bP23 := Below.comp bP22 bs
            have bA23 := Below.comp bA22 bs
            have bX23 := Below.comp bRefl22 bs
            have zs23 := bs.size
            first | rw [hw23] | skip
            refine hK0.out _ _ bW23 (fun _ => ?_)
            clear hK0 K0
            have bRefl23 : Below w23.heap.size w23 w23 := Below.refl _ _
            clear bs
            refine someL [9] (by kernel_rfl) (by simp) (fun iq hiq => ?_)
            obtain rfl := List.mem_singleton.1 hiq
            · refine stepL (o := _) rfl (fun K0 hK0 => ?_)
              go_simp
              refine (cR _ bW23 _ _ (box_on hQ bRefl23) (box_on hP bP23)).mono ?_
              rintro e w24 ⟨bs, y, cy, rfl, ho⟩
              have bW24 := Below.comp bW23 bs
              have bP24 := Below.comp bP23 bs
              have bA24 := Below.comp bA23 bs
              have bX24 := Below.comp bX23 bs
              have bQ24 := Below.comp bRefl23 bs
              have zs24 := bs.size
              refine hK0.out _ _ bW24 (fun _ => ?_)
              clear hK0 K0
              have bRefl24 : Below w24.heap.size w24 w24 := Below.refl _ _
              clear bs
              refine tkL (i := 10) (d := 19) (v := ?_) rfl rfl (by kernel_rfl) (by kernel_rfl) (by kernel_rfl) (by kernel_rfl) (fun _ _ _ h => h) (Or.inl ⟨by rfl, by intro wq hSq; obtain ⟨q0, q1, q2, q3, q4, r0, r1, r2, r3, r4, -⟩ := SB.out wq hSq; go_simp; try with_reducible rfl⟩) (by assumption) ?_
              simp only [List.setIfInBounds_toArray, List.set_cons_zero, List.set_cons_succ]
              have hB := box_on hX bX24
              obtain ⟨k0, k1, k2, k3, k4⟩ := box5_cells hB
              obtain ⟨j0, j1, j2, j3, j4⟩ := box5_free hB
              refine lastL rfl (by kernel_rfl) (by kernel_rfl) (fun K0 hK0 => ?_)
              go_simp
              refine hK0.out _ _ ?_
              clear hK0 K0
              go_wp2_with fail
              go_meet
              have zd := HZd.out
              have hKl := box_lt hB
              exact leafW W0 w24 (World.heap w16).size (World.heap w15).size (World.heap w16).size (World.heap w23).size (World.heap w24).size hB (m1.below bA24) (m2.below bA24) hr1 hr2 (HOw.out _ _ _ _ _ ho bRefl24) bW24 (by omega) (by omega) (by omega) (by omega) (by omega) (by omega) (by omega)
      · refine stepL (o := _) rfl (fun K0 hK0 => ?_)
        go_simp
        obtain ⟨w25, hw25⟩ : ∃ wz, World.alloc w15 (.cells #[.slice i m ci, .slice (some ⟨(World.heap Wd).size, 0, none⟩) 1 1] 25) = wz := ⟨_, rfl⟩
        have bs : Below (World.heap w15).size w15 w25 := by subst hw25; exact below_alloc _ _
        have hQ : w25.heap[(World.heap w15).size]? = some (.cells #[.slice i m ci, .slice (some ⟨(World.heap Wd).size, 0, none⟩) 1 1] 25 (0, 0)) := by subst hw25; exact al1 _ _
        have bW25 := Below.comp bW15 bs
        have bP25 := Below.comp bRefl15 bs
        have zs25 := bs.size
        first | rw [hw25] | skip
        refine hK0.out _ _ bW25 (fun _ => ?_)
        clear hK0 K0
        have bRefl25 : Below w25.heap.size w25 w25 := Below.refl _ _
        clear bs
        refine someL [2, 11] (by kernel_rfl) (by simp) (fun iq hiq => ?_)
        simp only [List.mem_cons, List.not_mem_nil, or_false] at hiq
        rcases hiq with rfl | rfl
        · refine stepL (o := _) rfl (fun K0 hK0 => ?_)
          go_simp
          refine (cC _ bW25).mono ?_
          rintro e w26 ⟨bs, va, rfl, x, c, x', c', p1, q1, p2, q2, rfl, hr1, hr2, m1, m2⟩
          have bW26 := Below.comp bW25 bs
          have bP26 := Below.comp bP25 bs
          have bQ26 := Below.comp bRefl25 bs
          have zs26 := bs.size
          refine hK0.out _ _ bW26 (fun _ => ?_)
          clear hK0 K0
          have bRefl26 : Below w26.heap.size w26 w26 := Below.refl _ _
          clear bs
          refine someL [9, 11] (by kernel_rfl) (by simp) (fun iq hiq => ?_)
          simp only [List.mem_cons, List.not_mem_nil, or_false] at hiq
          rcases hiq with rfl | rfl
          · refine stepL (o := _) rfl (fun K0 hK0 => ?_)
            go_simp
            refine (cR _ bW26 _ _ (box_on hQ bQ26) (box_on hP bP26)).mono ?_
            rintro e w27 ⟨bs, y, cy, rfl, ho⟩
            have bW27 := Below.comp bW26 bs
            have bP27 := Below.comp bP26 bs
            have bQ27 := Below.comp bQ26 bs
            have bA27 := Below.comp bRefl26 bs
            have zs27 := bs.size
            refine hK0.out _ _ bW27 (fun _ => ?_)
            clear hK0 K0
            have bRefl27 : Below w27.heap.size w27 w27 := Below.refl _ _
            clear bs
            refine tkL (i := 10) (d := 19) (v := ?_) rfl rfl (by kernel_rfl) (by kernel_rfl) (by kernel_rfl) (by kernel_rfl) (fun _ _ _ h => h) (Or.inl ⟨by rfl, by intro wq hSq; obtain ⟨q0, q1, q2, q3, q4, r0, r1, r2, r3, r4, -⟩ := SB.out wq hSq; go_simp; try with_reducible rfl⟩) (by assumption) ?_
            simp only [List.setIfInBounds_toArray, List.set_cons_zero, List.set_cons_succ]
            refine someL [11] (by kernel_rfl) (by simp) (fun iq hiq => ?_)
            obtain rfl := List.mem_singleton.1 hiq
            · refine stepL (o := _) rfl (fun K0 hK0 => ?_)
              go_simp
              obtain ⟨w28, hw28⟩ : ∃ wz, World.alloc w27 (.cells #[.int .i64 0, .slice none 0 0, .slice none 0 0, .int .i64 0, .slice none 0 0] 27) = wz := ⟨_, rfl⟩
              have bs : Below (World.heap w27).size w27 w28 := by subst hw28; exact below_alloc _ _
              have hX : w28.heap[(World.heap w27).size]? = some (.cells #[.int .i64 0, .slice none 0 0, .slice none 0 0, .int .i64 0, .slice none 0 0] 27 (0, 0)) := by subst hw28; exact al1 _ _
              have zx28 := box_lt hX
              have bW28 := Below.comp bW27 bs
              have bP28 := Below.comp bP27 bs
              have bQ28 := Below.comp bQ27 bs
              have bA28 := Below.comp bA27 bs
              have bC28 := Below.comp bRefl27 bs
              have zs28 := bs.size
              first | rw [hw28] | skip
              refine hK0.out _ _ bW28 (fun _ => ?_)
              clear hK0 K0
              have bRefl28 : Below w28.heap.size w28 w28 := Below.refl _ _
              clear bs
              have hB := box_on hX bRefl28
              obtain ⟨k0, k1, k2, k3, k4⟩ := box5_cells hB
              obtain ⟨j0, j1, j2, j3, j4⟩ := box5_free hB
              refine lastL rfl (by kernel_rfl) (by kernel_rfl) (fun K0 hK0 => ?_)
              go_simp
              refine hK0.out _ _ ?_
              clear hK0 K0
              go_wp2_with fail
              go_meet
              have zd := HZd.out
              have hKl := box_lt hB
              exact leafW W0 w28 (World.heap w27).size (World.heap w25).size (World.heap w26).size (World.heap w26).size (World.heap w27).size hB (m1.below bA28) (m2.below bA28) hr1 hr2 (HOw.out _ _ _ _ _ ho bC28) bW28 (by omega) (by omega) (by omega) (by omega) (by omega) (by omega) (by omega)
          · refine stepL (o := _) rfl (fun K0 hK0 => ?_)
            go_simp
            obtain ⟨w29, hw29⟩ : ∃ wz, World.alloc w26 (.cells #[.int .i64 0, .slice none 0 0, .slice none 0 0, .int .i64 0, .slice none 0 0] 27) = wz := ⟨_, rfl⟩
            have bs : Below (World.heap w26).size w26 w29 := by subst hw29; exact below_alloc _ _
            have hX : w29.heap[(World.heap w26).size]? = some (.cells #[.int .i64 0, .slice none 0 0, .slice none 0 0, .int .i64 0, .slice none 0 0] 27 (0, 0)) := by subst hw29; exact al1 _ _
            have zx29 := box_lt hX
            have bW29 := Below.comp bW26 bs
            have bP29 := Below.comp bP26 bs
            have bQ29 := Below.comp bQ26 bs
            have bA29 := Below.comp bRefl26 bs
            have zs29 := bs.size
            first | rw [hw29] | skip
            refine hK0.out _ _ bW29 (fun _ => ?_)
            clear hK0 K0
            have bRefl29 : Below w29.heap.size w29 w29 := Below.refl _ _
            clear bs
            refine someL [9] (by kernel_rfl) (by simp) (fun iq hiq => ?_)
            obtain rfl := List.mem_singleton.1 hiq
            · refine stepL (o := _) rfl (fun K0 hK0 => ?_)
              go_simp
              refine (cR _ bW29 _ _ (box_on hQ bQ29) (box_on hP bP29)).mono ?_
              rintro e w30 ⟨bs, y, cy, rfl, ho⟩
              have bW30 := Below.comp bW29 bs
              have bP30 := Below.comp bP29 bs
              have bQ30 := Below.comp bQ29 bs
              have bA30 := Below.comp bA29 bs
              have bX30 := Below.comp bRefl29 bs
              have zs30 := bs.size
              refine hK0.out _ _ bW30 (fun _ => ?_)
              clear hK0 K0
              have bRefl30 : Below w30.heap.size w30 w30 := Below.refl _ _
              clear bs
              refine tkL (i := 10) (d := 19) (v := ?_) rfl rfl (by kernel_rfl) (by kernel_rfl) (by kernel_rfl) (by kernel_rfl) (fun _ _ _ h => h) (Or.inl ⟨by rfl, by intro wq hSq; obtain ⟨q0, q1, q2, q3, q4, r0, r1, r2, r3, r4, -⟩ := SB.out wq hSq; go_simp; try with_reducible rfl⟩) (by assumption) ?_
              simp only [List.setIfInBounds_toArray, List.set_cons_zero, List.set_cons_succ]
              have hB := box_on hX bX30
              obtain ⟨k0, k1, k2, k3, k4⟩ := box5_cells hB
              obtain ⟨j0, j1, j2, j3, j4⟩ := box5_free hB
              refine lastL rfl (by kernel_rfl) (by kernel_rfl) (fun K0 hK0 => ?_)
              go_simp
              refine hK0.out _ _ ?_
              clear hK0 K0
              go_wp2_with fail
              go_meet
              have zd := HZd.out
              have hKl := box_lt hB
              exact leafW W0 w30 (World.heap w26).size (World.heap w25).size (World.heap w26).size (World.heap w29).size (World.heap w30).size hB (m1.below bA30) (m2.below bA30) hr1 hr2 (HOw.out _ _ _ _ _ ho bRefl30) bW30 (by omega) (by omega) (by omega) (by omega) (by omega) (by omega) (by omega)
        · refine stepL (o := _) rfl (fun K0 hK0 => ?_)
          go_simp
          obtain ⟨w31, hw31⟩ : ∃ wz, World.alloc w25 (.cells #[.int .i64 0, .slice none 0 0, .slice none 0 0, .int .i64 0, .slice none 0 0] 27) = wz := ⟨_, rfl⟩
          have bs : Below (World.heap w25).size w25 w31 := by subst hw31; exact below_alloc _ _
          have hX : w31.heap[(World.heap w25).size]? = some (.cells #[.int .i64 0, .slice none 0 0, .slice none 0 0, .int .i64 0, .slice none 0 0] 27 (0, 0)) := by subst hw31; exact al1 _ _
          have zx31 := box_lt hX
          have bW31 := Below.comp bW25 bs
          have bP31 := Below.comp bP25 bs
          have bQ31 := Below.comp bRefl25 bs
          have zs31 := bs.size
          first | rw [hw31] | skip
          refine hK0.out _ _ bW31 (fun _ => ?_)
          clear hK0 K0
          have bRefl31 : Below w31.heap.size w31 w31 := Below.refl _ _
          clear bs
          refine someL [2] (by kernel_rfl) (by simp) (fun iq hiq => ?_)
          obtain rfl := List.mem_singleton.1 hiq
          · refine stepL (o := _) rfl (fun K0 hK0 => ?_)
            go_simp
            refine (cC _ bW31).mono ?_
            rintro e w32 ⟨bs, va, rfl, x, c, x', c', p1, q1, p2, q2, rfl, hr1, hr2, m1, m2⟩
            have bW32 := Below.comp bW31 bs
            have bP32 := Below.comp bP31 bs
            have bQ32 := Below.comp bQ31 bs
            have bX32 := Below.comp bRefl31 bs
            have zs32 := bs.size
            refine hK0.out _ _ bW32 (fun _ => ?_)
            clear hK0 K0
            have bRefl32 : Below w32.heap.size w32 w32 := Below.refl _ _
            clear bs
            refine someL [9] (by kernel_rfl) (by simp) (fun iq hiq => ?_)
            obtain rfl := List.mem_singleton.1 hiq
            · refine stepL (o := _) rfl (fun K0 hK0 => ?_)
              go_simp
              refine (cR _ bW32 _ _ (box_on hQ bQ32) (box_on hP bP32)).mono ?_
              rintro e w33 ⟨bs, y, cy, rfl, ho⟩
              have bW33 := Below.comp bW32 bs
              have bP33 := Below.comp bP32 bs
              have bQ33 := Below.comp bQ32 bs
              have bX33 := Below.comp bX32 bs
              have bA33 := Below.comp bRefl32 bs
              have zs33 := bs.size
              refine hK0.out _ _ bW33 (fun _ => ?_)
              clear hK0 K0
              have bRefl33 : Below w33.heap.size w33 w33 := Below.refl _ _
              clear bs
              refine tkL (i := 10) (d := 19) (v := ?_) rfl rfl (by kernel_rfl) (by kernel_rfl) (by kernel_rfl) (by kernel_rfl) (fun _ _ _ h => h) (Or.inl ⟨by rfl, by intro wq hSq; obtain ⟨q0, q1, q2, q3, q4, r0, r1, r2, r3, r4, -⟩ := SB.out wq hSq; go_simp; try with_reducible rfl⟩) (by assumption) ?_
              simp only [List.setIfInBounds_toArray, List.set_cons_zero, List.set_cons_succ]
              have hB := box_on hX bX33
              obtain ⟨k0, k1, k2, k3, k4⟩ := box5_cells hB
              obtain ⟨j0, j1, j2, j3, j4⟩ := box5_free hB
              refine lastL rfl (by kernel_rfl) (by kernel_rfl) (fun K0 hK0 => ?_)
              go_simp
              refine hK0.out _ _ ?_
              clear hK0 K0
              go_wp2_with fail
              go_meet
              have zd := HZd.out
              have hKl := box_lt hB
              exact leafW W0 w33 (World.heap w25).size (World.heap w31).size (World.heap w32).size (World.heap w32).size (World.heap w33).size hB (m1.below bA33) (m2.below bA33) hr1 hr2 (HOw.out _ _ _ _ _ ho bRefl33) bW33 (by omega) (by omega) (by omega) (by omega) (by omega) (by omega) (by omega)
      · refine stepL (o := _) rfl (fun K0 hK0 => ?_)
        go_simp
        obtain ⟨w34, hw34⟩ : ∃ wz, World.alloc w15 (.cells #[.int .i64 0, .slice none 0 0, .slice none 0 0, .int .i64 0, .slice none 0 0] 27) = wz := ⟨_, rfl⟩
        have bs : Below (World.heap w15).size w15 w34 := by subst hw34; exact below_alloc _ _
        have hX : w34.heap[(World.heap w15).size]? = some (.cells #[.int .i64 0, .slice none 0 0, .slice none 0 0, .int .i64 0, .slice none 0 0] 27 (0, 0)) := by subst hw34; exact al1 _ _
        have zx34 := box_lt hX
        have bW34 := Below.comp bW15 bs
        have bP34 := Below.comp bRefl15 bs
        have zs34 := bs.size
        first | rw [hw34] | skip
        refine hK0.out _ _ bW34 (fun _ => ?_)
        clear hK0 K0
        have bRefl34 : Below w34.heap.size w34 w34 := Below.refl _ _
        clear bs
        refine someL [2, 8] (by kernel_rfl) (by simp) (fun iq hiq => ?_)
        simp only [List.mem_cons, List.not_mem_nil, or_false] at hiq
        rcases hiq with rfl | rfl
        · refine stepL (o := _) rfl (fun K0 hK0 => ?_)
          go_simp
          refine (cC _ bW34).mono ?_
          rintro e w35 ⟨bs, va, rfl, x, c, x', c', p1, q1, p2, q2, rfl, hr1, hr2, m1, m2⟩
          have bW35 := Below.comp bW34 bs
          have bP35 := Below.comp bP34 bs
          have bX35 := Below.comp bRefl34 bs
          have zs35 := bs.size
          refine hK0.out _ _ bW35 (fun _ => ?_)
          clear hK0 K0
          have bRefl35 : Below w35.heap.size w35 w35 := Below.refl _ _
          clear bs
          refine someL [8] (by kernel_rfl) (by simp) (fun iq hiq => ?_)
          obtain rfl := List.mem_singleton.1 hiq
          · refine stepL (o := _) rfl (fun K0 hK0 => ?_)
            go_simp
            obtain ⟨w36, hw36⟩ : ∃ wz, World.alloc w35 (.cells #[.slice i m ci, .slice (some ⟨(World.heap Wd).size, 0, none⟩) 1 1] 25) = wz := ⟨_, rfl⟩
            have bs : Below (World.heap w35).size w35 w36 := by subst hw36; exact below_alloc _ _
            have hQ : w36.heap[(World.heap w35).size]? = some (.cells #[.slice i m ci, .slice (some ⟨(World.heap Wd).size, 0, none⟩) 1 1] 25 (0, 0)) := by subst hw36; exact al1 _ _
            have bW36 := Below.comp bW35 bs
            have bP36 := Below.comp bP35 bs
            have bX36 := Below.comp bX35 bs
            have bA36 := Below.comp bRefl35 bs
            have zs36 := bs.size
            first | rw [hw36] | skip
            refine hK0.out _ _ bW36 (fun _ => ?_)
            clear hK0 K0
            have bRefl36 : Below w36.heap.size w36 w36 := Below.refl _ _
            clear bs
            refine someL [9] (by kernel_rfl) (by simp) (fun iq hiq => ?_)
            obtain rfl := List.mem_singleton.1 hiq
            · refine stepL (o := _) rfl (fun K0 hK0 => ?_)
              go_simp
              refine (cR _ bW36 _ _ (box_on hQ bRefl36) (box_on hP bP36)).mono ?_
              rintro e w37 ⟨bs, y, cy, rfl, ho⟩
              have bW37 := Below.comp bW36 bs
              have bP37 := Below.comp bP36 bs
              have bX37 := Below.comp bX36 bs
              have bA37 := Below.comp bA36 bs
              have bQ37 := Below.comp bRefl36 bs
              have zs37 := bs.size
              refine hK0.out _ _ bW37 (fun _ => ?_)
              clear hK0 K0
              have bRefl37 : Below w37.heap.size w37 w37 := Below.refl _ _
              clear bs
              refine tkL (i := 10) (d := 19) (v := ?_) rfl rfl (by kernel_rfl) (by kernel_rfl) (by kernel_rfl) (by kernel_rfl) (fun _ _ _ h => h) (Or.inl ⟨by rfl, by intro wq hSq; obtain ⟨q0, q1, q2, q3, q4, r0, r1, r2, r3, r4, -⟩ := SB.out wq hSq; go_simp; try with_reducible rfl⟩) (by assumption) ?_
              simp only [List.setIfInBounds_toArray, List.set_cons_zero, List.set_cons_succ]
              have hB := box_on hX bX37
              obtain ⟨k0, k1, k2, k3, k4⟩ := box5_cells hB
              obtain ⟨j0, j1, j2, j3, j4⟩ := box5_free hB
              refine lastL rfl (by kernel_rfl) (by kernel_rfl) (fun K0 hK0 => ?_)
              go_simp
              refine hK0.out _ _ ?_
              clear hK0 K0
              go_wp2_with fail
              go_meet
              have zd := HZd.out
              have hKl := box_lt hB
              exact leafW W0 w37 (World.heap w15).size (World.heap w34).size (World.heap w35).size (World.heap w36).size (World.heap w37).size hB (m1.below bA37) (m2.below bA37) hr1 hr2 (HOw.out _ _ _ _ _ ho bRefl37) bW37 (by omega) (by omega) (by omega) (by omega) (by omega) (by omega) (by omega)
        · refine stepL (o := _) rfl (fun K0 hK0 => ?_)
          go_simp
          obtain ⟨w38, hw38⟩ : ∃ wz, World.alloc w34 (.cells #[.slice i m ci, .slice (some ⟨(World.heap Wd).size, 0, none⟩) 1 1] 25) = wz := ⟨_, rfl⟩
          have bs : Below (World.heap w34).size w34 w38 := by subst hw38; exact below_alloc _ _
          have hQ : w38.heap[(World.heap w34).size]? = some (.cells #[.slice i m ci, .slice (some ⟨(World.heap Wd).size, 0, none⟩) 1 1] 25 (0, 0)) := by subst hw38; exact al1 _ _
          have bW38 := Below.comp bW34 bs
          have bP38 := Below.comp bP34 bs
          have bX38 := Below.comp bRefl34 bs
          have zs38 := bs.size
          first | rw [hw38] | skip
          refine hK0.out _ _ bW38 (fun _ => ?_)
          clear hK0 K0
          have bRefl38 : Below w38.heap.size w38 w38 := Below.refl _ _
          clear bs
          refine someL [2] (by kernel_rfl) (by simp) (fun iq hiq => ?_)
          obtain rfl := List.mem_singleton.1 hiq
          · refine stepL (o := _) rfl (fun K0 hK0 => ?_)
            go_simp
            refine (cC _ bW38).mono ?_
            rintro e w39 ⟨bs, va, rfl, x, c, x', c', p1, q1, p2, q2, rfl, hr1, hr2, m1, m2⟩
            have bW39 := Below.comp bW38 bs
            have bP39 := Below.comp bP38 bs
            have bX39 := Below.comp bX38 bs
            have bQ39 := Below.comp bRefl38 bs
            have zs39 := bs.size
            refine hK0.out _ _ bW39 (fun _ => ?_)
            clear hK0 K0
            have bRefl39 : Below w39.heap.size w39 w39 := Below.refl _ _
            clear bs
            refine someL [9] (by kernel_rfl) (by simp) (fun iq hiq => ?_)
            obtain rfl := List.mem_singleton.1 hiq
            · refine stepL (o := _) rfl (fun K0 hK0 => ?_)
              go_simp
              refine (cR _ bW39 _ _ (box_on hQ bQ39) (box_on hP bP39)).mono ?_
              rintro e w40 ⟨bs, y, cy, rfl, ho⟩
              have bW40 := Below.comp bW39 bs
              have bP40 := Below.comp bP39 bs
              have bX40 := Below.comp bX39 bs
              have bQ40 := Below.comp bQ39 bs
              have bA40 := Below.comp bRefl39 bs
              have zs40 := bs.size
              refine hK0.out _ _ bW40 (fun _ => ?_)
              clear hK0 K0
              have bRefl40 : Below w40.heap.size w40 w40 := Below.refl _ _
              clear bs
              refine tkL (i := 10) (d := 19) (v := ?_) rfl rfl (by kernel_rfl) (by kernel_rfl) (by kernel_rfl) (by kernel_rfl) (fun _ _ _ h => h) (Or.inl ⟨by rfl, by intro wq hSq; obtain ⟨q0, q1, q2, q3, q4, r0, r1, r2, r3, r4, -⟩ := SB.out wq hSq; go_simp; try with_reducible rfl⟩) (by assumption) ?_
              simp only [List.setIfInBounds_toArray, List.set_cons_zero, List.set_cons_succ]
              have hB := box_on hX bX40
              obtain ⟨k0, k1, k2, k3, k4⟩ := box5_cells hB
              obtain ⟨j0, j1, j2, j3, j4⟩ := box5_free hB
              refine lastL rfl (by kernel_rfl) (by kernel_rfl) (fun K0 hK0 => ?_)
              go_simp
              refine hK0.out _ _ ?_
              clear hK0 K0
              go_wp2_with fail
              go_meet
              have zd := HZd.out
              have hKl := box_lt hB
              exact leafW W0 w40 (World.heap w15).size (World.heap w38).size (World.heap w39).size (World.heap w39).size (World.heap w40).size hB (m1.below bA40) (m2.below bA40) hr1 hr2 (HOw.out _ _ _ _ _ ho bRefl40) bW40 (by omega) (by omega) (by omega) (by omega) (by omega) (by omega) (by omega)
    · refine stepL (o := _) rfl (fun K0 hK0 => ?_)
      go_simp
      obtain ⟨w41, hw41⟩ : ∃ wz, World.alloc Wd (.cells #[.int .i64 0, .slice none 0 0, .slice none 0 0, .int .i64 0, .slice none 0 0] 27) = wz := ⟨_, rfl⟩
      have bs : Below (World.heap Wd).size Wd w41 := by subst hw41; exact below_alloc _ _
      have hX : w41.heap[(World.heap Wd).size]? = some (.cells #[.int .i64 0, .slice none 0 0, .slice none 0 0, .int .i64 0, .slice none 0 0] 27 (0, 0)) := by subst hw41; exact al1 _ _
      have zx41 := box_lt hX
      have bW41 := Below.comp hS0 bs
      have zs41 := bs.size
      first | rw [hw41] | skip
      refine hK0.out _ _ bW41 (fun _ => ?_)
      clear hK0 K0
      have bRefl41 : Below w41.heap.size w41 w41 := Below.refl _ _
      clear bs
      refine someL [2, 7] (by kernel_rfl) (by simp) (fun iq hiq => ?_)
      simp only [List.mem_cons, List.not_mem_nil, or_false] at hiq
      rcases hiq with rfl | rfl
      · refine stepL (o := _) rfl (fun K0 hK0 => ?_)
        go_simp
        refine (cC _ bW41).mono ?_
        rintro e w42 ⟨bs, va, rfl, x, c, x', c', p1, q1, p2, q2, rfl, hr1, hr2, m1, m2⟩
        have bW42 := Below.comp bW41 bs
        have bX42 := Below.comp bRefl41 bs
        have zs42 := bs.size
        refine hK0.out _ _ bW42 (fun _ => ?_)
        clear hK0 K0
        have bRefl42 : Below w42.heap.size w42 w42 := Below.refl _ _
        clear bs
        refine someL [7] (by kernel_rfl) (by simp) (fun iq hiq => ?_)
        obtain rfl := List.mem_singleton.1 hiq
        · refine stepL (o := _) rfl (fun K0 hK0 => ?_)
          go_simp
          obtain ⟨w43, hw43⟩ : ∃ wz, World.alloc w42 (.cells #[.int .i64 pk, .int .i64 pi, .int .i64 px, .int .i64 py, .int .i64 pu] 71) = wz := ⟨_, rfl⟩
          have bs : Below (World.heap w42).size w42 w43 := by subst hw43; exact below_alloc _ _
          have hP : w43.heap[(World.heap w42).size]? = some (.cells #[.int .i64 pk, .int .i64 pi, .int .i64 px, .int .i64 py, .int .i64 pu] 71 (0, 0)) := by subst hw43; exact al1 _ _
          have bW43 := Below.comp bW42 bs
          have bX43 := Below.comp bX42 bs
          have bA43 := Below.comp bRefl42 bs
          have zs43 := bs.size
          first | rw [hw43] | skip
          refine hK0.out _ _ bW43 (fun _ => ?_)
          clear hK0 K0
          have bRefl43 : Below w43.heap.size w43 w43 := Below.refl _ _
          clear bs
          refine someL [8] (by kernel_rfl) (by simp) (fun iq hiq => ?_)
          obtain rfl := List.mem_singleton.1 hiq
          · refine stepL (o := _) rfl (fun K0 hK0 => ?_)
            go_simp
            obtain ⟨w44, hw44⟩ : ∃ wz, World.alloc w43 (.cells #[.slice i m ci, .slice (some ⟨(World.heap w42).size, 0, none⟩) 1 1] 25) = wz := ⟨_, rfl⟩
            have bs : Below (World.heap w43).size w43 w44 := by subst hw44; exact below_alloc _ _
            have hQ : w44.heap[(World.heap w43).size]? = some (.cells #[.slice i m ci, .slice (some ⟨(World.heap w42).size, 0, none⟩) 1 1] 25 (0, 0)) := by subst hw44; exact al1 _ _
            have bW44 := Below.comp bW43 bs
            have bX44 := Below.comp bX43 bs
            have bA44 := Below.comp bA43 bs
            have bP44 := Below.comp bRefl43 bs
            have zs44 := bs.size
            first | rw [hw44] | skip
            refine hK0.out _ _ bW44 (fun _ => ?_)
            clear hK0 K0
            have bRefl44 : Below w44.heap.size w44 w44 := Below.refl _ _
            clear bs
            refine someL [9] (by kernel_rfl) (by simp) (fun iq hiq => ?_)
            obtain rfl := List.mem_singleton.1 hiq
            · refine stepL (o := _) rfl (fun K0 hK0 => ?_)
              go_simp
              refine (cR _ bW44 _ _ (box_on hQ bRefl44) (box_on hP bP44)).mono ?_
              rintro e w45 ⟨bs, y, cy, rfl, ho⟩
              have bW45 := Below.comp bW44 bs
              have bX45 := Below.comp bX44 bs
              have bA45 := Below.comp bA44 bs
              have bP45 := Below.comp bP44 bs
              have bQ45 := Below.comp bRefl44 bs
              have zs45 := bs.size
              refine hK0.out _ _ bW45 (fun _ => ?_)
              clear hK0 K0
              have bRefl45 : Below w45.heap.size w45 w45 := Below.refl _ _
              clear bs
              refine tkL (i := 10) (d := 19) (v := ?_) rfl rfl (by kernel_rfl) (by kernel_rfl) (by kernel_rfl) (by kernel_rfl) (fun _ _ _ h => h) (Or.inl ⟨by rfl, by intro wq hSq; obtain ⟨q0, q1, q2, q3, q4, r0, r1, r2, r3, r4, -⟩ := SB.out wq hSq; go_simp; try with_reducible rfl⟩) (by assumption) ?_
              simp only [List.setIfInBounds_toArray, List.set_cons_zero, List.set_cons_succ]
              have hB := box_on hX bX45
              obtain ⟨k0, k1, k2, k3, k4⟩ := box5_cells hB
              obtain ⟨j0, j1, j2, j3, j4⟩ := box5_free hB
              refine lastL rfl (by kernel_rfl) (by kernel_rfl) (fun K0 hK0 => ?_)
              go_simp
              refine hK0.out _ _ ?_
              clear hK0 K0
              go_wp2_with fail
              go_meet
              have zd := HZd.out
              have hKl := box_lt hB
              exact leafW W0 w45 (World.heap Wd).size (World.heap w41).size (World.heap w42).size (World.heap w44).size (World.heap w45).size hB (m1.below bA45) (m2.below bA45) hr1 hr2 (HOw.out _ _ _ _ _ ho bRefl45) bW45 (by omega) (by omega) (by omega) (by omega) (by omega) (by omega) (by omega)
      · refine stepL (o := _) rfl (fun K0 hK0 => ?_)
        go_simp
        obtain ⟨w46, hw46⟩ : ∃ wz, World.alloc w41 (.cells #[.int .i64 pk, .int .i64 pi, .int .i64 px, .int .i64 py, .int .i64 pu] 71) = wz := ⟨_, rfl⟩
        have bs : Below (World.heap w41).size w41 w46 := by subst hw46; exact below_alloc _ _
        have hP : w46.heap[(World.heap w41).size]? = some (.cells #[.int .i64 pk, .int .i64 pi, .int .i64 px, .int .i64 py, .int .i64 pu] 71 (0, 0)) := by subst hw46; exact al1 _ _
        have bW46 := Below.comp bW41 bs
        have bX46 := Below.comp bRefl41 bs
        have zs46 := bs.size
        first | rw [hw46] | skip
        refine hK0.out _ _ bW46 (fun _ => ?_)
        clear hK0 K0
        have bRefl46 : Below w46.heap.size w46 w46 := Below.refl _ _
        clear bs
        refine someL [2, 8] (by kernel_rfl) (by simp) (fun iq hiq => ?_)
        simp only [List.mem_cons, List.not_mem_nil, or_false] at hiq
        rcases hiq with rfl | rfl
        · refine stepL (o := _) rfl (fun K0 hK0 => ?_)
          go_simp
          refine (cC _ bW46).mono ?_
          rintro e w47 ⟨bs, va, rfl, x, c, x', c', p1, q1, p2, q2, rfl, hr1, hr2, m1, m2⟩
          have bW47 := Below.comp bW46 bs
          have bX47 := Below.comp bX46 bs
          have bP47 := Below.comp bRefl46 bs
          have zs47 := bs.size
          refine hK0.out _ _ bW47 (fun _ => ?_)
          clear hK0 K0
          have bRefl47 : Below w47.heap.size w47 w47 := Below.refl _ _
          clear bs
          refine someL [8] (by kernel_rfl) (by simp) (fun iq hiq => ?_)
          obtain rfl := List.mem_singleton.1 hiq
          · refine stepL (o := _) rfl (fun K0 hK0 => ?_)
            go_simp
            obtain ⟨w48, hw48⟩ : ∃ wz, World.alloc w47 (.cells #[.slice i m ci, .slice (some ⟨(World.heap w41).size, 0, none⟩) 1 1] 25) = wz := ⟨_, rfl⟩
            have bs : Below (World.heap w47).size w47 w48 := by subst hw48; exact below_alloc _ _
            have hQ : w48.heap[(World.heap w47).size]? = some (.cells #[.slice i m ci, .slice (some ⟨(World.heap w41).size, 0, none⟩) 1 1] 25 (0, 0)) := by subst hw48; exact al1 _ _
            have bW48 := Below.comp bW47 bs
            have bX48 := Below.comp bX47 bs
            have bP48 := Below.comp bP47 bs
            have bA48 := Below.comp bRefl47 bs
            have zs48 := bs.size
            first | rw [hw48] | skip
            refine hK0.out _ _ bW48 (fun _ => ?_)
            clear hK0 K0
            have bRefl48 : Below w48.heap.size w48 w48 := Below.refl _ _
            clear bs
            refine someL [9] (by kernel_rfl) (by simp) (fun iq hiq => ?_)
            obtain rfl := List.mem_singleton.1 hiq
            · refine stepL (o := _) rfl (fun K0 hK0 => ?_)
              go_simp
              refine (cR _ bW48 _ _ (box_on hQ bRefl48) (box_on hP bP48)).mono ?_
              rintro e w49 ⟨bs, y, cy, rfl, ho⟩
              have bW49 := Below.comp bW48 bs
              have bX49 := Below.comp bX48 bs
              have bP49 := Below.comp bP48 bs
              have bA49 := Below.comp bA48 bs
              have bQ49 := Below.comp bRefl48 bs
              have zs49 := bs.size
              refine hK0.out _ _ bW49 (fun _ => ?_)
              clear hK0 K0
              have bRefl49 : Below w49.heap.size w49 w49 := Below.refl _ _
              clear bs
              refine tkL (i := 10) (d := 19) (v := ?_) rfl rfl (by kernel_rfl) (by kernel_rfl) (by kernel_rfl) (by kernel_rfl) (fun _ _ _ h => h) (Or.inl ⟨by rfl, by intro wq hSq; obtain ⟨q0, q1, q2, q3, q4, r0, r1, r2, r3, r4, -⟩ := SB.out wq hSq; go_simp; try with_reducible rfl⟩) (by assumption) ?_
              simp only [List.setIfInBounds_toArray, List.set_cons_zero, List.set_cons_succ]
              have hB := box_on hX bX49
              obtain ⟨k0, k1, k2, k3, k4⟩ := box5_cells hB
              obtain ⟨j0, j1, j2, j3, j4⟩ := box5_free hB
              refine lastL rfl (by kernel_rfl) (by kernel_rfl) (fun K0 hK0 => ?_)
              go_simp
              refine hK0.out _ _ ?_
              clear hK0 K0
              go_wp2_with fail
              go_meet
              have zd := HZd.out
              have hKl := box_lt hB
              exact leafW W0 w49 (World.heap Wd).size (World.heap w46).size (World.heap w47).size (World.heap w48).size (World.heap w49).size hB (m1.below bA49) (m2.below bA49) hr1 hr2 (HOw.out _ _ _ _ _ ho bRefl49) bW49 (by omega) (by omega) (by omega) (by omega) (by omega) (by omega) (by omega)
        · refine stepL (o := _) rfl (fun K0 hK0 => ?_)
          go_simp
          obtain ⟨w50, hw50⟩ : ∃ wz, World.alloc w46 (.cells #[.slice i m ci, .slice (some ⟨(World.heap w41).size, 0, none⟩) 1 1] 25) = wz := ⟨_, rfl⟩
          have bs : Below (World.heap w46).size w46 w50 := by subst hw50; exact below_alloc _ _
          have hQ : w50.heap[(World.heap w46).size]? = some (.cells #[.slice i m ci, .slice (some ⟨(World.heap w41).size, 0, none⟩) 1 1] 25 (0, 0)) := by subst hw50; exact al1 _ _
          have bW50 := Below.comp bW46 bs
          have bX50 := Below.comp bX46 bs
          have bP50 := Below.comp bRefl46 bs
          have zs50 := bs.size
          first | rw [hw50] | skip
          refine hK0.out _ _ bW50 (fun _ => ?_)
          clear hK0 K0
          have bRefl50 : Below w50.heap.size w50 w50 := Below.refl _ _
          clear bs
          refine someL [2] (by kernel_rfl) (by simp) (fun iq hiq => ?_)
          obtain rfl := List.mem_singleton.1 hiq
          · refine stepL (o := _) rfl (fun K0 hK0 => ?_)
            go_simp
            refine (cC _ bW50).mono ?_
            rintro e w51 ⟨bs, va, rfl, x, c, x', c', p1, q1, p2, q2, rfl, hr1, hr2, m1, m2⟩
            have bW51 := Below.comp bW50 bs
            have bX51 := Below.comp bX50 bs
            have bP51 := Below.comp bP50 bs
            have bQ51 := Below.comp bRefl50 bs
            have zs51 := bs.size
            refine hK0.out _ _ bW51 (fun _ => ?_)
            clear hK0 K0
            have bRefl51 : Below w51.heap.size w51 w51 := Below.refl _ _
            clear bs
            refine someL [9] (by kernel_rfl) (by simp) (fun iq hiq => ?_)
            obtain rfl := List.mem_singleton.1 hiq
            · refine stepL (o := _) rfl (fun K0 hK0 => ?_)
              go_simp
              refine (cR _ bW51 _ _ (box_on hQ bQ51) (box_on hP bP51)).mono ?_
              rintro e w52 ⟨bs, y, cy, rfl, ho⟩
              have bW52 := Below.comp bW51 bs
              have bX52 := Below.comp bX51 bs
              have bP52 := Below.comp bP51 bs
              have bQ52 := Below.comp bQ51 bs
              have bA52 := Below.comp bRefl51 bs
              have zs52 := bs.size
              refine hK0.out _ _ bW52 (fun _ => ?_)
              clear hK0 K0
              have bRefl52 : Below w52.heap.size w52 w52 := Below.refl _ _
              clear bs
              refine tkL (i := 10) (d := 19) (v := ?_) rfl rfl (by kernel_rfl) (by kernel_rfl) (by kernel_rfl) (by kernel_rfl) (fun _ _ _ h => h) (Or.inl ⟨by rfl, by intro wq hSq; obtain ⟨q0, q1, q2, q3, q4, r0, r1, r2, r3, r4, -⟩ := SB.out wq hSq; go_simp; try with_reducible rfl⟩) (by assumption) ?_
              simp only [List.setIfInBounds_toArray, List.set_cons_zero, List.set_cons_succ]
              have hB := box_on hX bX52
              obtain ⟨k0, k1, k2, k3, k4⟩ := box5_cells hB
              obtain ⟨j0, j1, j2, j3, j4⟩ := box5_free hB
              refine lastL rfl (by kernel_rfl) (by kernel_rfl) (fun K0 hK0 => ?_)
              go_simp
              refine hK0.out _ _ ?_
              clear hK0 K0
              go_wp2_with fail
              go_meet
              have zd := HZd.out
              have hKl := box_lt hB
              exact leafW W0 w52 (World.heap Wd).size (World.heap w50).size (World.heap w51).size (World.heap w51).size (World.heap w52).size hB (m1.below bA52) (m2.below bA52) hr1 hr2 (HOw.out _ _ _ _ _ ho bRefl52) bW52 (by omega) (by omega) (by omega) (by omega) (by omega) (by omega) (by omega)
  case rest =>
    obtain ⟨K, x, c, x', c', y, cy, rfl, hK, hM, hb⟩ := hcut
    generalize wc = w4 at *
    have HK : Hid (w4.heap[K]? = some (.cells #[.int .i64 b, .slice x n c, .slice x' n' c', .int .i64 nx2, .slice y (m + 1) cy] 27 (0, 0))) := hK
    have HM : Hid (WkM w4 W0.heap.size w4.heap.size (wv b x n c x' n' c' nx2 y (m + 1) cy) b n n' (m + 1) f f' nx2 g2) := hM
    have zz := hb.size
    clear hM
    obtain ⟨k0, k1, k2, k3, k4⟩ := box5_cells hK
    clear hK
    go_wp2_with fail
    refine (cG _ _ HM.out.r).mono ?_
    rintro e w5 ⟨rfl, b5⟩
    clear k0 k1 k2 k3 k4
    have b05 : Below W0.heap.size W0 w5 := Below.comp hb b5
    have R5 : w5.heap[D + 1 + 1]? = some (.cells #[.int .i64 0, .slice none 0 0, .slice none 0 0, .int .i64 0, .slice none 0 0] 27 (0, 0)) := box_on H3.out b05
    obtain ⟨k0, k1, k2, k3, k4⟩ := box5_cells (box_on HK.out b5)
    obtain ⟨i0, i1, i2, i3, i4⟩ := box5_cells R5
    obtain ⟨j0, j1, j2, j3, j4⟩ := box5_free R5
    have z5 := b5.size
    cases ok with
    | false =>
      go_wp2
      obtain ⟨W6, hW6⟩ : ∃ W6, ((((w5.setCell ⟨D + 1 + 1, 0, none⟩ (.int .i64 0)).setCell ⟨D + 1 + 1, 1, none⟩ (.slice none 0 0)).setCell ⟨D + 1 + 1, 2, none⟩ (.slice none 0 0)).setCell ⟨D + 1 + 1, 3, none⟩ (.int .i64 0)).setCell ⟨D + 1 + 1, 4, none⟩ (.slice none 0 0) = W6 := ⟨_, rfl⟩
      have o6 : Out (D + 1 + 1) (D + 1 + 1 + 1) w5 W6 := by subst hW6; exact box5_out _ _ _ _ _ _ _
      have R6 : W6.heap[D + 1 + 1]? = some (.cells #[.int .i64 0, .slice none 0 0, .slice none 0 0, .int .i64 0, .slice none 0 0] 27 (0, 0)) := by subst hW6; exact box5_set R5
      rw [hW6]
      clear hW6 i0 i1 i2 i3 i4 j0 j1 j2 j3 j4 k0 k1 k2 k3 k4
      obtain ⟨t0, t1, t2, t3, t4⟩ := box5_cells R6
      have z6 := o6.size
      refine bodyPost_ret (v := .tuple #[wv 0 none 0 0 none 0 0 0 none 0 0, .bool false]) (by simp [results, Try.results44, go_sem, t0, t1, t2, t3, t4]) rfl ?_
      exact ⟨(Below.comp g0 b05).trans ((o6.below (by omega)).mono (by omega)), _, rfl, (WkM.nil W6 w.heap.size 0).mono (Nat.le_refl _) (by omega)⟩
    | true =>
      go_wp2
      obtain ⟨W6, hW6⟩ : ∃ W6, ((((w5.setCell ⟨D + 1 + 1, 0, none⟩ (.int .i64 b)).setCell ⟨D + 1 + 1, 1, none⟩ (.slice x n c)).setCell ⟨D + 1 + 1, 2, none⟩ (.slice x' n' c')).setCell ⟨D + 1 + 1, 3, none⟩ (.int .i64 nx2)).setCell ⟨D + 1 + 1, 4, none⟩ (.slice y (m + 1) cy) = W6 := ⟨_, rfl⟩
      have o6 : Out (D + 1 + 1) (D + 1 + 1 + 1) w5 W6 := by subst hW6; exact box5_out _ _ _ _ _ _ _
      have R6 : W6.heap[D + 1 + 1]? = some (.cells #[.int .i64 b, .slice x n c, .slice x' n' c', .int .i64 nx2, .slice y (m + 1) cy] 27 (0, 0)) := by subst hW6; exact box5_set R5
      rw [hW6]
      clear hW6 i0 i1 i2 i3 i4 j0 j1 j2 j3 j4 k0 k1 k2 k3 k4
      obtain ⟨t0, t1, t2, t3, t4⟩ := box5_cells R6
      have z6 := o6.size
      have hzw : w.heap.size ≤ W0.heap.size := g0.size
      refine bodyPost_ret (v := .tuple #[wv b x n c x' n' c' nx2 y (m + 1) cy, .bool true]) (by simp [results, Try.results44, go_sem, t0, t1, t2, t3, t4]) rfl ?_
      exact ⟨(Below.comp g0 b05).trans ((o6.below (by omega)).mono (by omega)), _, rfl, HFin.out _ _ _ _ (((HM.out.below b5).out o6 (.inr (by omega))).mono (by omega) (by omega))⟩
end Go.Proofs.Ytpolhigpcllhiaa
