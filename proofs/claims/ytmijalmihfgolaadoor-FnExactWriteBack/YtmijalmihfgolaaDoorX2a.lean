import Derived.Test.YtmijalmihfgolaaDoorKG
/- A store that owns its memory; SyncLog on both sides. -/
namespace Go.Proofs.YtmijalmihfgolaaDoor
open Go.ChangeShapes Go.WideShapes Go.ChangeAt Go.RowKit
set_option linter.unusedVariables false
open Tx

attribute [local go_sem] Oper.semAt_some

theorem cts_str (G : List ByteArray) : cts G = strCells G.length (gt G) := by
  apply List.ext_getElem?
  intro i
  by_cases h : i < G.length
  · rw [strCells_at _ _ h]
    simp [cts, gt, h]
  · rw [List.getElem?_eq_none (by rw [cts_len]; omega), List.getElem?_eq_none (by rw [strCells_len]; omega)]
theorem srcT {w : World} {a : Option Addr} {G : List ByteArray} (h : RowT w a G) : G.length = 0 ∨ ∃ ad, a = some ad ∧ ∀ j v, (cts G)[j]? = some v → w.cell? (ad.add j) = some v := by
  rw [cts_str]
  exact src1 h

set_option maxRecDepth 20000 in
set_option maxHeartbeats 4000000 in
theorem l11Own_any (x y z : Option Addr) (cx cy cz : Nat) (L : List ByteArray) (P : List Wr) (G : List ByteArray) (q : Int) (w : World) (hl : L.length ≤ 1048576) (hp : P.length ≤ 1048576) (hg : G.length ≤ 1048576) (ha : StAt w x y z L P G) :
    Calls Tryd.prog 54 #[stv x L.length cx y P.length cy z G.length cz q] w fun e w' => Below w.heap.size w w' ∧ ∃ x' cx' y' cy' z' cz' C, e = .returned (stv x' L.length cx' y' P.length cy' z' G.length cz' q) ∧ w.heap.size ≤ C ∧ C ≤ w'.heap.size ∧ MineT w' w.heap.size C x' L ∧ MineW w' w.heap.size C y' P ∧ OwnT w' C (.slice z' G.length cz') G := by
  obtain ⟨D, hD0⟩ : ∃ D, w.heap.size = D := ⟨_, rfl⟩
  have HD : Hid (w.heap.size = D) := hD0
  obtain ⟨W0, hW0⟩ : ∃ W0, (w.alloc (.cells #[.slice x L.length cx, .slice y P.length cy, .slice z G.length cz, .int .i64 q] 34)).alloc (.cells #[.slice none 0 0, .slice none 0 0, .slice none 0 0, .int .i64 0] 34) = W0 := ⟨_, rfl⟩
  have b0 : Below w.heap.size w W0 := by subst hW0; exact ba2 _ _ _
  have h2 : Hid (W0.heap[D]? = some (.cells #[.slice x L.length cx, .slice y P.length cy, .slice z G.length cz, .int .i64 q] 34 (0, 0)) ∧ W0.heap[D + 1]? = some (.cells #[.slice none 0 0, .slice none 0 0, .slice none 0 0, .int .i64 0] 34 (0, 0))) := by subst hW0 hD0; exact al2 _ _ _
  have hs0 : Hid (W0.heap.size = D + 2) := by subst hW0 hD0; rw [Hid, sz1, sz1]
  have c1 := l1Own_any x y L.length P.length cx cy (gt L) (Tl P) (Ul P) W0 hl hp (ha.below b0).x (ha.below b0).y
  have Haz : Hid _ := ha.z
  obtain ⟨x0, x1, x2, x3⟩ := box4_cells h2.out.1
  go_enter Tryd.func54, Tryd.ntmps54
  go_wp2_with fail
  refine c1.mono ?_
  rintro e w1 ⟨b1, x', cx', y', cy', rfl, ox, oy⟩
  have mx := owns_strs ox
  have my := owns_wrts oy
  have s1 : Hid (D + 2 ≤ w1.heap.size) := by have := b1.size; rw [hs0.out] at this; exact this
  have s1' := s1.out
  rw [hs0.out] at mx my
  have k1 := box_on h2.out.1 b1
  have k2 := box_on h2.out.2 b1
  obtain ⟨W2, hW2⟩ : ∃ W2, (w1.setCell ⟨D, 0, none⟩ (.slice x' L.length cx')).setCell ⟨D, 1, none⟩ (.slice y' P.length cy') = W2 := ⟨_, rfl⟩
  have o2 : Out D (D + 1) w1 W2 := by subst hW2; exact Out.setCell (out_setCell w1 _ 0 _) (Nat.le_refl _) (Nat.lt_succ_self _) 1 _
  have j1 : W2.heap[D]? = some (.cells #[.slice x' L.length cx', .slice y' P.length cy', .slice z G.length cz, .int .i64 q] 34 (0, 0)) := by subst hW2; rw [block_setz (block_setz k1)]; rfl
  have j2 := box_out k2 o2 (.inr (by omega))
  have g2 : Below w.heap.size w W2 := (Below.comp b0 b1).trans ((Out.below o2 (by omega)).mono (by rw [HD.out]; omega))
  have mx2 := mx.out o2 (.inr (by omega))
  have my2 := my.out o2 (.inr (by omega))
  have sW2 := o2.size
  obtain ⟨c0, c1, c2, c3⟩ := box4_cells k1
  obtain ⟨f0, f1, f2, f3⟩ := box4_free k1
  have q2 := below_alloc W2 (.cells #[] 9)
  have J1 : Hid _ := box_on j1 q2
  have J2 : Hid _ := box_on j2 q2
  obtain ⟨d0, d1, d2, d3⟩ := box4_cells J1.out
  have src : Hid _ := srcT (At.below Haz.out (Below.comp g2 q2))
  have hz2 := q2.size
  have HQ2 : Hid _ := q2
  have HG2 : Hid _ := g2
  have HMX : Hid (MineT W2 (D + 2) w1.heap.size x' L) := mx2
  have HMY : Hid (MineW W2 (D + 2) w1.heap.size y' P) := my2
  clear x0 x1 x2 x3 j1 j2 q2 g2 mx2 my2 mx my ox oy b1 b0
  go_wp2_with (at_builtin; refine wpList_append_src rfl _ _ 22 rfl W2.heap.size 9 _ 1 16 Tryd.underlying22 info9 rfl (by decide) (.slice (some ⟨W2.heap.size, 0, none⟩) 0 0) 0 [] rfl (own_empty W2 9 1) z G.length cz (cts G) rfl (by rw [cts_len, Nat.mul_one]) src.out (cts_one _) (by omega) (by decide) hz2 ?_; intro v3 w3 own3 gr3; rw [Nat.zero_add, List.nil_append] at own3; have g3 : Hid _ := grown_on (Below.mono HQ2.out (Nat.le_refl _)) hz2 (own_empty W2 9 1) gr3; have l1 : Hid (w3.heap[D]? = some (.cells #[.slice x' L.length cx', .slice y' P.length cy', .slice z G.length cz, .int .i64 q] 34 (0, 0))) := ((gr3.block D (box_lt J1.out) (fun e => by have := owns_ge (own_empty W2 9 1) D e.symm; omega)).trans J1.out); have l2 : Hid (w3.heap[D + 1]? = some (.cells #[.slice none 0 0, .slice none 0 0, .slice none 0 0, .int .i64 0] 34 (0, 0))) := ((gr3.block (D + 1) (box_lt J2.out) (fun e => by have := owns_ge (own_empty W2 9 1) (D + 1) e.symm; omega)).trans J2.out); obtain ⟨x3, c3', e3⟩ := owns_form own3; subst e3; obtain ⟨s0, s1, s2, s3⟩ := box4_cells l1.out; obtain ⟨p0, p1, p2, p3⟩ := box4_free l1.out; obtain ⟨t0, t1, t2, t3⟩ := box4_cells l2.out; obtain ⟨r0, r1, r2, r3⟩ := box4_free l2.out; clear c0 c1 c2 c3 f0 f1 f2 f3 d0 d1 d2 d3 hW2; have O3 : Hid _ := own3; clear own3 gr3)
  obtain ⟨W4, hW4⟩ : ∃ W4, w3.setCell ⟨D, 2, none⟩ (.slice x3 G.length c3') = W4 := ⟨_, rfl⟩
  have o4 : Out D (D + 1) w3 W4 := by subst hW4; exact out_setCell _ _ _ _
  try rw [hW4]
  have l2' := box_out l2.out o4 (.inr (Nat.le_refl _))
  have hset := box4_set l2' (x0 := .slice x' L.length cx') (x1 := .slice y' P.length cy') (x2 := .slice x3 G.length c3') (x3 := .int .i64 q)
  have hout := set4_out W4 (D + 1) (.slice x' L.length cx') (.slice y' P.length cy') (.slice x3 G.length c3') (.int .i64 q)
  obtain ⟨u0, u1, u2, u3⟩ := box4_cells hset
  have s34 := o4.size
  have s45 := hout.size
  have s23 := g3.out.size
  have mx5 := ((Mine.below HMX.out g3.out).out o4 (.inr (by omega))).out hout (.inr (by omega))
  have my5 := ((Mine.below HMY.out g3.out).out o4 (.inr (by omega))).out hout (.inr (by omega))
  have oz5 := owns_keep2 (owns_keep2 O3.out o4 (by omega)) hout (by omega)
  refine bodyPost_ret (v := stv x' L.length cx' y' P.length cy' x3 G.length c3' q) (by simp [results, Tryd.results54, go_sem, u0, u1, u2, u3]) rfl ⟨?_, x', cx', y', cy', x3, c3', W2.heap.size, rfl, by rw [HD.out]; omega, by omega, mx5.mono (by rw [HD.out]; omega) (by omega), my5.mono (by rw [HD.out]; omega) (by omega), oz5⟩
  exact ((HG2.out.trans (g3.out.mono (by rw [HD.out]; omega))).trans ((Out.below o4 (by omega)).mono (by rw [HD.out]; omega))).trans ((Out.below hout (by omega)).mono (by rw [HD.out]; omega))

end Go.Proofs.YtmijalmihfgolaaDoor
