import Derived.Test.YtgipopkjjhehlaaDoorX2
import Derived.Test.YtgipopkjjhehlaaDoorV0
import Derived.Deep.RegionHeld3
import Derived.Deep.DeepCutAuto
namespace Go.Proofs.YtgipopkjjhehlaaDoor
open Go.ChangeShapes Go.WideShapes Go.ChangeAt Go.RowKit
set_option linter.unusedVariables false
open GF

/-- A stripe with one disk's text turned. -/
def sD (n : Nat) (D : Nat → ByteArray) (i : Nat) (u : ByteArray) : Nat → ByteArray := if i < n then upD D i u else D
def sP (n : Nat) (P : ByteArray) (i : Nat) (u : ByteArray) : ByteArray := if i = n then u else P
def sQ (n : Nat) (Q : ByteArray) (i : Nat) (u : ByteArray) : ByteArray := if i = n + 1 then u else Q

theorem sD_d {n : Nat} {D : Nat → ByteArray} {i : Nat} {u : ByteArray} (h : i < n) : sD n D i u = upD D i u := if_pos h
theorem sD_n {n : Nat} {D : Nat → ByteArray} {i : Nat} {u : ByteArray} (h : ¬ i < n) : sD n D i u = D := if_neg h
theorem sP_p {n : Nat} {P u : ByteArray} : sP n P n u = u := if_pos rfl
theorem sP_n {n : Nat} {P : ByteArray} {i : Nat} {u : ByteArray} (h : ¬ i = n) : sP n P i u = P := if_neg h
theorem sQ_q {n : Nat} {Q u : ByteArray} : sQ n Q (n + 1) u = u := if_pos rfl
theorem sQ_n {n : Nat} {Q : ByteArray} {i : Nat} {u : ByteArray} (h : ¬ i = n + 1) : sQ n Q i u = Q := if_neg h
theorem box3_set {w : World} {b : Nat} {v0 v1 v2 x0 x1 x2 : Value} {e : TypeId} {z : Nat × Nat} (h : w.heap[b]? = some (.cells #[v0, v1, v2] e z)) :
    (((w.setCell ⟨b, 0, none⟩ x0).setCell ⟨b, 1, none⟩ x1).setCell ⟨b, 2, none⟩ x2).heap[b]? = some (.cells #[x0, x1, x2] e z) := by
  rw [block_setz (block_setz (block_setz h))]; rfl
theorem box3_cells {w : World} {b : Nat} {v0 v1 v2 : Value} {e : TypeId} (h : w.heap[b]? = some (.cells #[v0, v1, v2] e (0, 0))) :
    w.cell? ⟨b, 0, none⟩ = some v0 ∧ w.cell? ⟨b, 1, none⟩ = some v1 ∧ w.cell? ⟨b, 2, none⟩ = some v2 ∧ w.frozen? ⟨b, 0, none⟩ = false ∧ w.frozen? ⟨b, 1, none⟩ = false ∧ w.frozen? ⟨b, 2, none⟩ = false :=
  ⟨cell_of_block h rfl, cell_of_block h rfl, cell_of_block h rfl, free_of_block h, free_of_block h, free_of_block h⟩
theorem box_out {B C : Nat} {w w' : World} {b : Nat} {o : Obj} (h : w.heap[b]? = some o) (ho : Out B C w w') (hd : b < B ∨ C ≤ b) : w'.heap[b]? = some o := by
  rw [ho.block b (Array.getElem?_eq_some_iff.1 h).1 hd]; exact h

theorem box_on {w w' : World} {b : Nat} {o : Obj} (h : w.heap[b]? = some o) (hb : Below w.heap.size w w') : w'.heap[b]? = some o := (hb.block b (Array.getElem?_eq_some_iff.1 h).1).trans h
theorem box_lt {w : World} {b : Nat} {o : Obj} (h : w.heap[b]? = some o) : b < w.heap.size := (Array.getElem?_eq_some_iff.1 h).1

set_option maxRecDepth 100000 in
set_option maxHeartbeats 4000000 in
theorem withChange_any (a : Option Addr) (n cap : Nat) (D : Nat → ByteArray) (P Q : ByteArray) (i : Nat) (x : Option Addr) (cx : Nat) (f : Nat → Nat) (w : World) (hg : goodB n D P Q = true) (hi : i < n + 2) (hf : ∀ k, f k < 256) (hx : At w x P.size (by' f)) (hc : At w a n fun i => .string (D i)) :
    Calls Tryd.prog 33 #[sv a n cap P Q, .int .i64 (i : Int), .slice x P.size cx] w fun e w' => Below w.heap.size w w' ∧ ∃ y cy, e = .returned (sv y n cy (sP n P i (tx P.size fun k => bb (dt n D P Q i) k ^^^ f k)) (sQ n Q i (tx P.size fun k => bb (dt n D P Q i) k ^^^ f k))) ∧ Mine w' w.heap.size w'.heap.size 9 n y (strs n (sD n D i (tx P.size fun k => bb (dt n D P Q i) k ^^^ f k))) := by
  obtain ⟨hn1, hn2, hL, hDs, hQs⟩ := goodB_spec hg
  unfold sv
  obtain ⟨W0, hW0⟩ : ∃ W0, (w.alloc (.cells #[.slice a n cap, .string P, .string Q] 26)).alloc (.cells #[.slice none 0 0, .string ⟨#[]⟩, .string ⟨#[]⟩] 26) = W0 := ⟨_, rfl⟩
  have b0 : Below w.heap.size w W0 := by rw [← hW0]; exact (below_alloc w _).alloc (by simp) _
  have hsz : W0.heap.size = w.heap.size + 1 + 1 := by rw [← hW0]; simp
  have c0 : W0.cell? ⟨w.heap.size, 0, none⟩ = some (.slice a n cap) := by rw [← hW0]; simp [go_sem]
  have c1 : W0.cell? ⟨w.heap.size, 1, none⟩ = some (.string P) := by rw [← hW0]; simp [go_sem]
  have c2 : W0.cell? ⟨w.heap.size, 2, none⟩ = some (.string Q) := by rw [← hW0]; simp [go_sem]
  have HS0 : Hid (W0.heap[w.heap.size]? = some (.cells #[.slice a n cap, .string P, .string Q] 26 (0, 0))) := by
    show W0.heap[w.heap.size]? = _
    rw [← hW0, Below.heap_alloc _ _ _ (by simp)]; exact heap_alloc_new _ _
  have HR0 : Hid (W0.heap[w.heap.size + 1]? = some (.cells #[.slice none 0 0, .string ⟨#[]⟩, .string ⟨#[]⟩] 26 (0, 0))) := by
    have := heap_alloc_new (w.alloc (.cells #[.slice a n cap, .string P, .string Q] 26)) (.cells #[.slice none 0 0, .string ⟨#[]⟩, .string ⟨#[]⟩] 26)
    rw [World.size_alloc, hW0] at this
    exact this
  have HSZ : Hid _ := hsz
  clear hsz
  go_enter Tryd.func33, Tryd.ntmps33
  go_wp2
  clear hW0
  have HS2 : Hid (∀ W, Below W0.heap.size W0 W → (W.cell? ⟨w.heap.size, 0, none⟩ = some (.slice a n cap) ∧ W.cell? ⟨w.heap.size, 1, none⟩ = some (.string P) ∧ W.cell? ⟨w.heap.size, 2, none⟩ = some (.string Q) ∧ Below W0.heap.size W0 W)) := fun W hW => ⟨cell_on c0 hW, cell_on c1 hW, cell_on c2 hW, hW⟩
  go_cut [7] (fun p wx => ∃ b B C y cy, p = .pointer (some ⟨b, 0, none⟩) ∧ W0.heap.size ≤ b ∧ W0.heap.size ≤ B ∧ C ≤ wx.heap.size ∧ (b < B ∨ C ≤ b) ∧ wx.heap[b]? = some (.cells #[.slice y n cy, .string P, .string Q] 26 (0, 0)) ∧ Mine wx B C 9 n y (strs n D) ∧ Below W0.heap.size W0 wx)
  case first =>
    go_region_held3 (fun W => W.cell? ⟨w.heap.size, 0, none⟩ = some (.slice a n cap) ∧ W.cell? ⟨w.heap.size, 1, none⟩ = some (.string P) ∧ W.cell? ⟨w.heap.size, 2, none⟩ = some (.string Q) ∧ Below W0.heap.size W0 W)
      ((refine HS2.out _ ?_; first | assumption | exact Below.drew (Below.refl _ _) | exact Below.drew (below_alloc _ _) | exact Below.comp (by assumption) (below_alloc _ _) | exact Below.setCell (Below.setCell (Below.setCell (by assumption) (by simp <;> omega) _) (by simp <;> omega) _) (by simp <;> omega) _ | exact Below.drew (Below.setCell (Below.setCell (Below.setCell (by assumption) (by simp <;> omega) _) (by simp <;> omega) _) (by simp <;> omega) _)))
      (first
      | (go_at_call 56; obtain ⟨-, -, -, hw0⟩ := ‹_ ∧ _ ∧ _ ∧ Below W0.heap.size W0 _›; refine (copyList_any a n cap D _ (by omega) (hc.below (Below.comp b0 hw0))).mono ?_; rintro e w3 ⟨b3, y, cy, rfl, m3⟩; have nb3 := Below.comp hw0 b3; have lo := hw0.size; obtain ⟨d3, f3⟩ := bcell b3; have z3 := b3.size; (try simp at z3); (try have zz3 : W0.heap.size < w3.heap.size := (by omega)); clear hw0))
    all_goals go_wp2_with fail
    all_goals go_meet
    · exact ⟨_, W0.heap.size, w3.heap.size, y, cy, rfl, by omega, Nat.le_refl _, by simp, .inr (Nat.le_refl _), heap_alloc_new w3 _, (m3.mono lo (Nat.le_refl _)).below (below_alloc _ _), Below.comp nb3 (below_alloc _ _)⟩
    · refine ⟨W0.heap.size, W0.heap.size + 1, w3.heap.size, y, cy, rfl, Nat.le_refl _, by omega, by simp, .inl (by omega), box3_set (v0 := .slice none 0 0) (v1 := .string ⟨#[]⟩) (v2 := .string ⟨#[]⟩) ?_, ?_, ((nb3.setCell (by simp) _).setCell (by simp) _).setCell (by simp) _⟩
      · rw [b3.block _ (by simp)]; exact heap_alloc_new W0 _
      · refine (m3.out (((Out.refl W0.heap.size (W0.heap.size + 1) w3).setCell ?_ ?_ _ _).setCell ?_ ?_ _ _ |>.setCell ?_ ?_ _ _) (.inr ?_)).mono ?_ ?_ <;> first | omega | (simp; done) | (simp; omega)
  obtain ⟨b, B, C, y, cy, rfl, hb1, hB, hC, hbd, hbox, hm, hbel⟩ := hcut
  have HB : Hid _ := hbox
  have HSs : Hid _ := box_on HS0.out hbel
  have HRr : Hid _ := box_on HR0.out hbel
  have g := b0.trans (hbel.mono b0.size)
  have hszz := HSZ.out
  have hblt := box_lt hbox
  clear hbox HS2 c0 c1 c2 HS0 HR0 hbel
  generalize hS : w.heap.size = s at *
  obtain ⟨c0, c1, c2, -, -, -⟩ := box3_cells HSs.out
  go_wp2_with fail
  refine (isP_any a n cap P Q i _ (by omega)).mono ?_
  rintro e w5 ⟨rfl, b5⟩
  have HB5 : Hid _ := box_on HB.out b5
  have HS5 : Hid _ := box_on HSs.out b5
  have HR5 : Hid _ := box_on HRr.out b5
  have m5 := hm.below b5
  have g5 := g.trans (b5.mono (by have := g.size; omega))
  have z5 := b5.size
  clear c0 c1 c2 b5 hm HB HSs HRr g
  obtain ⟨c0, c1, c2, -, -, -⟩ := box3_cells HS5.out
  by_cases h1 : i = n
  · subst h1
    rw [decide_eq_true rfl]
    have hU := addText_any P x cx f _ hL hf (hx.below (hS ▸ g5 : Below w.heap.size w w5))
    go_wp2_with fail
    refine hU.mono ?_
    rintro e w6 ⟨rfl, b6⟩
    have HB6 : Hid _ := box_on HB5.out b6
    have HR6 : Hid _ := box_on HR5.out b6
    have m6 := m5.below b6
    have g6 := g5.trans (b6.mono (by omega))
    have z6 := b6.size
    clear c0 c1 c2 b6 hU
    obtain ⟨k0, k1, k2, l0, l1, l2⟩ := box3_cells HB6.out
    obtain ⟨r0, r1, r2, q0, q1, q2⟩ := box3_cells HR6.out
    have hbs : ¬ b = s + 1 := by omega
    have hbs' : ¬ s + 1 = b := by omega
    go_wp2
    refine bodyPost_ret (v := .agg #[.slice y i cy, .string (tx P.size fun k => bb P k ^^^ f k), .string Q]) (by simp [results, Tryd.results33, go_sem, r0, r1, r2]) rfl ⟨?_, y, cy, ?_, ?_⟩
    · rw [hS]
      refine (((g6.setCell ?_ _).setCell ?_ _).setCell ?_ _).setCell ?_ _ <;> first | omega | (simp; done) | (simp; omega)
    · rw [sP_p, sQ_n (by omega), dt_p]
    · rw [sD_n (by omega)]
      refine ((((m6.out (out_setCell _ b 1 _) (by omega)).out (out_setCell _ (s + 1) 0 _) (by omega)).out (out_setCell _ (s + 1) 1 _) (by omega)).out (out_setCell _ (s + 1) 2 _) (by omega)).mono (by omega) ?_
      simp
      omega
  · rw [decide_eq_false (by omega)]
    go_wp2_with fail
    refine (isQ_any a n cap P Q i _ (by omega)).mono ?_
    rintro e w6 ⟨rfl, b6⟩
    have HB6 : Hid _ := box_on HB5.out b6
    have HS6 : Hid _ := box_on HS5.out b6
    have HR6 : Hid _ := box_on HR5.out b6
    have m6 := m5.below b6
    have g6 := g5.trans (b6.mono (by omega))
    have z6 := b6.size
    clear c0 c1 c2 b6 HB5 HS5 HR5 m5 g5
    obtain ⟨c0, c1, c2, -, -, -⟩ := box3_cells HS6.out
    by_cases h2 : i = n + 1
    · subst h2
      rw [decide_eq_true (by omega)]
      have hU := addText_any Q x cx f _ (by omega) hf (by rw [hQs]; exact hx.below (hS ▸ g6 : Below w.heap.size w w6))
      rw [hQs] at hU
      go_wp2_with fail
      refine hU.mono ?_
      rintro e w7 ⟨rfl, b7⟩
      have HB7 : Hid _ := box_on HB6.out b7
      have HR7 : Hid _ := box_on HR6.out b7
      have m7 := m6.below b7
      have g7 := g6.trans (b7.mono (by omega))
      have z7 := b7.size
      clear c0 c1 c2 b7 hU
      obtain ⟨k0, k1, k2, l0, l1, l2⟩ := box3_cells HB7.out
      obtain ⟨r0, r1, r2, q0, q1, q2⟩ := box3_cells HR7.out
      have hbs : ¬ b = s + 1 := by omega
      have hbs' : ¬ s + 1 = b := by omega
      go_wp2
      refine bodyPost_ret (v := .agg #[.slice y n cy, .string P, .string (tx P.size fun k => bb Q k ^^^ f k)]) (by simp [results, Tryd.results33, go_sem, r0, r1, r2]) rfl ⟨?_, y, cy, ?_, ?_⟩
      · rw [hS]
        refine (((g7.setCell ?_ _).setCell ?_ _).setCell ?_ _).setCell ?_ _ <;> first | omega | (simp; done) | (simp; omega)
      · rw [sP_n (by omega), sQ_q, dt_q]
      · rw [sD_n (by omega)]
        refine ((((m7.out (out_setCell _ b 2 _) (by omega)).out (out_setCell _ (s + 1) 0 _) (by omega)).out (out_setCell _ (s + 1) 1 _) (by omega)).out (out_setCell _ (s + 1) 2 _) (by omega)).mono (by omega) ?_
        simp
        omega
    · have hin : i < n := by omega
      rw [decide_eq_false (by omega)]
      have hcw := hc.below (hS ▸ g6 : Below w.heap.size w w6)
      obtain ⟨ba, oa, rfl, hca⟩ := hcw (by omega)
      have hai := hca i hin
      have hxw := hx.below (hS ▸ g6 : Below w.heap.size w w6)
      have hlti : (i : Int) < (n : Int) := by omega
      have HDi : Hid _ := hDs i hin
      clear hca hcw hDs
      obtain ⟨b0', off0', e0', hcc0⟩ := hc (by omega)
      have hbal : ba < s := by
        have := lt_of_cell (hcc0 0 (by omega))
        cases e0'
        omega
      clear hcc0 e0'
      rcases m6 with m6 | ⟨gy, cyy, hy1, hy2, rfl, hy4, hy5⟩
      · omega
      have HY4 : Hid _ := hy4
      have hgy := cell_of_block hy4 (hy5 i hin)
      have hfy := free_of_block (i := i) hy4
      have hgyl := box_lt hy4
      clear hy4
      obtain ⟨k0, -, -, -, -, -⟩ := box3_cells HB6.out
      have HS2 : Hid (∀ W, Out B C w6 W → (W.cell? ⟨b, 0, none⟩ = some (.slice (some ⟨gy, 0, none⟩) n cy) ∧ W.cell? ⟨s, 0, none⟩ = some (.slice (some ⟨ba, oa, none⟩) n cap) ∧ W.cell? ⟨ba, oa + i, none⟩ = some (.string (D i)) ∧ Out B C w6 W)) := fun W hW => ⟨cell_out hW k0 hbd, cell_out hW c0 (by omega), cell_out hW hai (by omega), hW⟩
      have HU : Hid (∀ W, Out B C w6 W → Calls Tryd.prog 57 #[.string (D i), .slice x P.size cx] W fun e w' => e = .returned (.string (tx P.size fun k => bb (D i) k ^^^ f k)) ∧ Below W.heap.size W w') := fun W hW => by
        have hb : Below w.heap.size w W := (hS ▸ (g6.trans ((hW.below (by omega)).mono (by omega))) : Below w.heap.size w W)
        have := addText_any (D i) x cx f W (by rw [HDi.out]; exact hL) hf (by rw [HDi.out]; exact hx.below hb)
        rw [HDi.out] at this
        exact this
      go_wp2
      have n1 : ¬ b = gy := by omega
      have n2 : ¬ gy = b := by omega
      have n3 : ¬ s + 1 = gy := by omega
      have n4 : ¬ gy = s + 1 := by omega
      have n5 : ¬ b = s + 1 := by omega
      have n6 : ¬ s + 1 = b := by omega
      go_region_held3 (fun W => W.cell? ⟨b, 0, none⟩ = some (.slice (some ⟨gy, 0, none⟩) n cy) ∧ W.cell? ⟨s, 0, none⟩ = some (.slice (some ⟨ba, oa, none⟩) n cap) ∧ W.cell? ⟨ba, oa + i, none⟩ = some (.string (D i)) ∧ Out B C w6 W)
          ((refine HS2.out _ ?_; first | assumption | exact Out.drew _ _ _ | exact (Out.setCell (by assumption) hy1 hy2 _ _) | exact Out.trans (Out.setCell (by assumption) hy1 hy2 _ _) (Out.drew _ _ _)))
          (first
          | (go_at_call 57; obtain ⟨-, -, -, hw0⟩ := ‹_ ∧ _ ∧ _ ∧ Out B C w6 _›; refine (HU.out _ hw0).mono ?_; rintro e w7 ⟨rfl, b7⟩; have hy7 : w7.cell? ⟨gy, i, none⟩ = some (.string (D i)) := cell_on (w := w6.drew) hgy b7; have fy7 : w7.frozen? ⟨gy, i, none⟩ = false := ((bcell b7).2 gy i hgyl).trans hfy; have o7 : Out B C w6 w7 := hw0.trans (Out.of_below b7); have HY7 : Hid (w7.heap[gy]? = some (.cells cyy 9 (0, 0))) := (b7.block gy hgyl).trans HY4.out; obtain ⟨k0', k1', k2', -, -, -⟩ := box3_cells ((b7.block b (box_lt HB6.out)).trans HB6.out); obtain ⟨r0, r1, r2, q0, q1, q2⟩ := box3_cells ((b7.block (s + 1) (box_lt HR6.out)).trans HR6.out); have z7 := b7.size; clear hw0 b7))
      all_goals go_wp2
      have m7 : Mine (w7.setCell ⟨gy, i, none⟩ (.string (tx P.size fun k => bb (D i) k ^^^ f k))) B C 9 n (some ⟨gy, 0, none⟩) (strs n (upD D i (tx P.size fun k => bb (D i) k ^^^ f k))) := .inr ⟨gy, _, hy1, hy2, rfl, block_set HY7.out, strs_set hy5 hin _⟩
      have g7 : Below s w w7 := g6.trans ((o7.below (by omega)).mono (by omega))
      have z6' := o7.size
      refine bodyPost_ret (v := .agg #[.slice (some ⟨gy, 0, none⟩) n cy, .string P, .string Q]) (by simp [results, Tryd.results33, go_sem, r0, r1, r2]) rfl ⟨?_, some ⟨gy, 0, none⟩, cy, ?_, ?_⟩
      · rw [hS]
        refine (((g7.setCell ?_ _).setCell ?_ _).setCell ?_ _).setCell ?_ _ <;> first | omega | (simp; done) | (simp; omega)
      · rw [sP_n (by omega), sQ_n (by omega)]
      · rw [sD_d hin, dt_d hin]
        refine (((m7.out (out_setCell _ (s + 1) 0 _) (by omega)).out (out_setCell _ (s + 1) 1 _) (by omega)).out (out_setCell _ (s + 1) 2 _) (by omega)).mono (by omega) ?_
        simp
        omega
end Go.Proofs.YtgipopkjjhehlaaDoor
