import Derived.Test.YtoodioaflaklmaaXH
import Derived.Deep.RegionLaw
import Derived.Laws.EntriesVeiled
/- A list kept in order: one out, one in. -/
namespace Go.Proofs.Ytoodioaflaklmaa
open Go.ChangeShapes Go.WideShapes Go.ChangeAt Go.RowKit
set_option linter.unusedVariables false
open Room

attribute [local go_sem] Oper.semAt_some

set_option maxHeartbeats 2000000 in
theorem withoutP_any (a : Option Addr) (ca : Nat) (l : List Ex) (x : Ex) (w : World) (hn : l.length ≤ 990) (hs : So ltP l) (hx : x ∈ l) (hca : l.length ≤ ca) (ha : Exs w a l) :
    Calls Try.prog 73 #[ov a l.length ca 65, xv x] w fun e w' => Below w.heap.size w w' ∧ ∃ y cy, e = .returned (ov y (wout ltP l x).length cy 65) ∧ OwnR w' w.heap.size (.slice y (wout ltP l x).length cy) (wout ltP l x) := by
  obtain ⟨p, q⟩ := x
  obtain ⟨D, hD⟩ : ∃ D, w.heap.size = D := ⟨_, rfl⟩
  obtain ⟨W0, hW0⟩ : ∃ W0, ((w.alloc (.cells #[.slice a l.length ca, .func (.func 65) #[] #[]] 81)).alloc (.cells #[.int .i64 p, .int .i64 q] 41)).alloc (.cells #[.slice none 0 0, .nilFunc] 81) = W0 := ⟨_, rfl⟩
  have g0 : Below w.heap.size w W0 := by subst hW0; exact ba3 _ _ _ _
  obtain ⟨B1, B2, B3⟩ : W0.heap[D]? = some (.cells #[.slice a l.length ca, .func (.func 65) #[] #[]] 81 (0, 0)) ∧ W0.heap[D + 1]? = some (.cells #[.int .i64 p, .int .i64 q] 41 (0, 0)) ∧ W0.heap[D + 1 + 1]? = some (.cells #[.slice none 0 0, .nilFunc] 81 (0, 0)) := by subst hW0 hD; exact al3 _ _ _ _
  have H1 : Hid (W0.heap[D]? = _) := B1
  have H2 : Hid (W0.heap[D + 1]? = _) := B2
  have H3 : Hid (W0.heap[D + 1 + 1]? = _) := B3
  obtain ⟨i0, i1, -, -⟩ := box2_cells B1
  obtain ⟨j0, j1, -, -⟩ := box2_cells B2
  have z0 := box_lt B3
  clear B1 B2 B3
  have cS := SearchP_any a ca l (p, q) W0 (by omega) hs (ha.below g0)
  have hlb := lb_le (lt := ltP) (x := (p, q)) (l := l)
  obtain ⟨hso, hmo, hlo⟩ := so_wout ordP hs hx
  have hlb2 : lb ltP (p, q) l + 1 ≤ l.length := by have := hlo; unfold wout at this; simp at this; omega
  obtain ⟨K, hK⟩ : ∃ K, lb ltP (p, q) l = K := ⟨_, rfl⟩
  have hT := slice_to a l.length ca K (by omega)
  have hF : ∀ w, (Instr.slice 27 (.slice a l.length ca) (some (.int .i64 ((K : Int) + 1))) none none).run Try.prog w = .ok (.slice (subA a (K + 1) ca) (l.length - (K + 1)) (ca - (K + 1))) w := fun w => slice_from a l.length ca (K + 1) (by omega) w
  have hres : wout ltP l (p, q) = flat (fun i => if i = 0 then l.take K else l.drop (K + 1)) 2 := by
    unfold wout
    rw [hK]
    simp [flat]
  rw [hres]
  rw [hK] at cS hlb hlb2
  clear hres hso hmo hlo hs hx
  go_enter Try.func73, Try.ntmps73
  go_wp2_with fail
  refine cS.mono ?_
  rintro e w1 ⟨b1, r, rfl⟩
  clear cS hW0 i0 i1 j0 j1 hK
  have K1 : Hid (w1.heap[D]? = _) := box_on H1.out b1
  have K2 : Hid (w1.heap[D + 1]? = _) := box_on H2.out b1
  have K3 : Hid (w1.heap[D + 1 + 1]? = _) := box_on H3.out b1
  obtain ⟨i0, i1, i2, i3⟩ := box2_cells K1.out
  obtain ⟨j0, j1, -, -⟩ := box2_cells K2.out
  have g1 := Below.comp g0 b1
  have z1 := b1.size
  go_wp2
  have ewK : IntKind.i64.wrap ((K : Int) + 1) = (K : Int) + 1 := wrapI (by omega) (by omega)
  have ia0 : ∀ o, (w1.alloc o).cell? ⟨D, 0, none⟩ = some (.slice a l.length ca) := fun o => cell_on i0 (below_alloc _ o)
  have jb0 : ∀ o, (w1.alloc o).cell? ⟨D + 1, 0, none⟩ = some (.int .i64 p) := fun o => cell_on j0 (below_alloc _ o)
  have jb1 : ∀ o, (w1.alloc o).cell? ⟨D + 1, 1, none⟩ = some (.int .i64 q) := fun o => cell_on j1 (below_alloc _ o)
  obtain ⟨W2, hW2⟩ : ∃ W2, (w1.alloc (.cells #[.slice (subA a 0 ca) K ca, .slice (subA a (K + 1) ca) (l.length - (K + 1)) (ca - (K + 1))] 27)).drew = W2 := ⟨_, rfl⟩
  have b2 : Below w1.heap.size w1 W2 := by subst hW2; exact (below_alloc _ _).drew
  have hl0 : (l.take K).length = K := by simp; omega
  have hl1 : (l.drop (K + 1)).length = l.length - (K + 1) := by simp
  have BZ : W2.heap[w1.heap.size]? = some (.cells #[.slice (subA a 0 ca) K ca, .slice (subA a (K + 1) ca) (l.length - (K + 1)) (ca - (K + 1))] 27 (0, 0)) := by subst hW2; exact al1 w1 _
  skip
  have rT := ((ha.below g1).below b2).take ca K (by omega)
  have rF := ((ha.below g1).below b2).drop ca (K + 1) hca
  have cC := Concat_any (w1.heap.size) 2 2 (fun i => if i = 0 then subA a 0 ca else subA a (K + 1) ca) (fun i => if i = 0 then ca else ca - (K + 1)) (fun i => if i = 0 then l.take K else l.drop (K + 1)) W2 (by omega)
    (fun i hi => match i, hi with | 0, _ => by show (l.take K).length ≤ 1000; omega | 1, _ => by show (l.drop (K + 1)).length ≤ 1000; omega)
    (fun i hi => match i, hi with | 0, _ => by show W2.cell? _ = some (.slice (subA a 0 ca) (l.take K).length ca); rw [hl0]; exact cell_of_block BZ rfl | 1, _ => by show W2.cell? _ = some (.slice (subA a (K + 1) ca) (l.drop (K + 1)).length (ca - (K + 1))); rw [hl1]; exact cell_of_block BZ rfl)
    (fun i hi => match i, hi with | 0, _ => rT | 1, _ => rF)
  have z2 := b2.size
  clear BZ rT rF hl0 hl1
  generalize hR : flat (fun i => if i = 0 then l.take K else l.drop (K + 1)) 2 = R at *
  have HR : Hid _ := hR
  clear hR
  go_region_law (go_simp; go_at_call 87; refine cC.mono ?_; rintro e w3 ⟨b3, y, cy, rfl, ow⟩; have M1 : Hid (w3.heap[D]? = _) := box_on K1.out (Below.comp b2 b3); obtain ⟨i0', i1', i2', i3'⟩ := box2_cells M1.out)
  all_goals
    obtain ⟨W4, hW4⟩ : ∃ W4, w3.setCell ⟨D, 0, none⟩ (.slice y R.length cy) = W4 := ⟨_, rfl⟩
    have N1 : W4.heap[D]? = some (.cells #[.slice y R.length cy, .func (.func 65) #[] #[]] 81 (0, 0)) := by subst hW4; exact box2_one M1.out
    have o4 : Out D (D + 1) w3 W4 := by subst hW4; exact out_setCell _ _ _ _
    have N3 : W4.heap[D + 1 + 1]? = some (.cells #[.slice none 0 0, .nilFunc] 81 (0, 0)) := box_out (box_on K3.out (Below.comp b2 b3)) o4 (by omega)
    rw [hW4]
    clear hW4 i0 i1 i2 i3 j0 j1 ia0 jb0 jb1 i0' i1' i2' i3' cC
    obtain ⟨t0, t1, -, -⟩ := box2_cells N1
    obtain ⟨u0, u1, v0, v1⟩ := box2_cells N3
    have HN3 : Hid _ := N3
    have HOw : Hid (OwnR w3 W2.heap.size (.slice y R.length cy) R) := ow
    clear N1 N3 ow
    go_wp2
    obtain ⟨W5, hW5⟩ : ∃ W5, (W4.setCell ⟨D + 1 + 1, 0, none⟩ (.slice y R.length cy)).setCell ⟨D + 1 + 1, 1, none⟩ (.func (.func 65) #[] #[]) = W5 := ⟨_, rfl⟩
    have o5 : Out (D + 1 + 1) (D + 1 + 1 + 1) W4 W5 := by subst hW5; exact ((Out.refl _ _ _).setCell (by omega) (by omega) _ _).setCell (by omega) (by omega) _ _
    have R5 : W5.heap[D + 1 + 1]? = some (.cells #[.slice y R.length cy, .func (.func 65) #[] #[]] 81 (0, 0)) := by subst hW5; exact box2_set HN3.out
    rw [hW5]
    clear hW5 t0 t1 u0 u1 v0 v1
    obtain ⟨t0, t1, -, -⟩ := box2_cells R5
    have z3 := b3.size
    have z4 := o4.size
    have hR := HR.out
    clear HR
    subst hR
    refine bodyPost_ret (v := ov y (flat (fun i => if i = 0 then l.take K else l.drop (K + 1)) 2).length cy 65) (by simp [results, Try.results73, go_sem, t0, t1]) rfl ⟨?_, y, cy, rfl, ?_⟩
    · exact ((Below.comp (Below.comp g1 b2) b3).trans ((o4.below (by omega)).mono (by omega))).trans ((o5.below (by omega)).mono (by omega))
    · exact owns_mono (owns_out (owns_out HOw.out o4 (by omega)) o5 (by omega)) (by omega)
set_option maxHeartbeats 2000000 in
theorem withP_any (a : Option Addr) (ca : Nat) (l : List Ex) (x : Ex) (w : World) (hn : l.length ≤ 990) (hs : So ltP l) (hx : True) (hca : l.length ≤ ca) (ha : Exs w a l) :
    Calls Try.prog 74 #[ov a l.length ca 65, xv x] w fun e w' => Below w.heap.size w w' ∧ ∃ y cy, e = .returned (ov y (wth ltP l x).length cy 65) ∧ OwnR w' w.heap.size (.slice y (wth ltP l x).length cy) (wth ltP l x) := by
  obtain ⟨p, q⟩ := x
  obtain ⟨D, hD⟩ : ∃ D, w.heap.size = D := ⟨_, rfl⟩
  obtain ⟨W0, hW0⟩ : ∃ W0, ((w.alloc (.cells #[.slice a l.length ca, .func (.func 65) #[] #[]] 81)).alloc (.cells #[.int .i64 p, .int .i64 q] 41)).alloc (.cells #[.slice none 0 0, .nilFunc] 81) = W0 := ⟨_, rfl⟩
  have g0 : Below w.heap.size w W0 := by subst hW0; exact ba3 _ _ _ _
  obtain ⟨B1, B2, B3⟩ : W0.heap[D]? = some (.cells #[.slice a l.length ca, .func (.func 65) #[] #[]] 81 (0, 0)) ∧ W0.heap[D + 1]? = some (.cells #[.int .i64 p, .int .i64 q] 41 (0, 0)) ∧ W0.heap[D + 1 + 1]? = some (.cells #[.slice none 0 0, .nilFunc] 81 (0, 0)) := by subst hW0 hD; exact al3 _ _ _ _
  have H1 : Hid (W0.heap[D]? = _) := B1
  have H2 : Hid (W0.heap[D + 1]? = _) := B2
  have H3 : Hid (W0.heap[D + 1 + 1]? = _) := B3
  obtain ⟨i0, i1, -, -⟩ := box2_cells B1
  obtain ⟨j0, j1, -, -⟩ := box2_cells B2
  have z0 := box_lt B3
  clear B1 B2 B3
  have cS := SearchP_any a ca l (p, q) W0 (by omega) hs (ha.below g0)
  have hlb := lb_le (lt := ltP) (x := (p, q)) (l := l)
  skip
  skip
  obtain ⟨K, hK⟩ : ∃ K, lb ltP (p, q) l = K := ⟨_, rfl⟩
  have hT := slice_to a l.length ca K (by omega)
  have hF := slice_from a l.length ca K (by omega)
  have hres : wth ltP l (p, q) = flat (fun i => if i = 0 then l.take K else if i = 1 then [(p, q)] else l.drop K) 3 := by
    unfold wth
    rw [hK]
    simp [flat]
  rw [hres]
  rw [hK] at cS hlb 
  clear hres  hs hx
  go_enter Try.func74, Try.ntmps74
  go_wp2_with fail
  refine cS.mono ?_
  rintro e w1 ⟨b1, r, rfl⟩
  clear cS hW0 i0 i1 j0 j1 hK
  have K1 : Hid (w1.heap[D]? = _) := box_on H1.out b1
  have K2 : Hid (w1.heap[D + 1]? = _) := box_on H2.out b1
  have K3 : Hid (w1.heap[D + 1 + 1]? = _) := box_on H3.out b1
  obtain ⟨i0, i1, i2, i3⟩ := box2_cells K1.out
  obtain ⟨j0, j1, -, -⟩ := box2_cells K2.out
  have g1 := Below.comp g0 b1
  have z1 := b1.size
  go_wp2
  have ewK : IntKind.i64.wrap ((K : Int) + 1) = (K : Int) + 1 := wrapI (by omega) (by omega)
  have ia0 : ∀ o, (w1.alloc o).cell? ⟨D, 0, none⟩ = some (.slice a l.length ca) := fun o => cell_on i0 (below_alloc _ o)
  have jb0 : ∀ o, (w1.alloc o).cell? ⟨D + 1, 0, none⟩ = some (.int .i64 p) := fun o => cell_on j0 (below_alloc _ o)
  have jb1 : ∀ o, (w1.alloc o).cell? ⟨D + 1, 1, none⟩ = some (.int .i64 q) := fun o => cell_on j1 (below_alloc _ o)
  obtain ⟨W2, hW2⟩ : ∃ W2, ((w1.alloc (.cells #[.int .i64 p, .int .i64 q] 41)).alloc (.cells #[.slice (subA a 0 ca) K ca, .slice (some ⟨w1.heap.size, 0, none⟩) 1 1, .slice (subA a K ca) (l.length - K) (ca - K)] 27)).drew = W2 := ⟨_, rfl⟩
  have b2 : Below w1.heap.size w1 W2 := by subst hW2; exact (ba2 _ _ _).drew
  have hl0 : (l.take K).length = K := by simp; omega
  have hl1 : (l.drop K).length = l.length - K := by simp
  have BZ : W2.heap[w1.heap.size + 1]? = some (.cells #[.slice (subA a 0 ca) K ca, .slice (some ⟨w1.heap.size, 0, none⟩) 1 1, .slice (subA a K ca) (l.length - K) (ca - K)] 27 (0, 0)) := by subst hW2; exact (al2 w1 _ _).2
  have BO : W2.heap[w1.heap.size]? = some (.cells #[.int .i64 p, .int .i64 q] 41 (0, 0)) := by subst hW2; exact (al2 w1 _ _).1
  have rT := ((ha.below g1).below b2).take ca K (by omega)
  have rF := ((ha.below g1).below b2).drop ca K hca
  have cC := Concat_any (w1.heap.size + 1) 3 3 (fun i => if i = 0 then subA a 0 ca else if i = 1 then some ⟨w1.heap.size, 0, none⟩ else subA a K ca) (fun i => if i = 0 then ca else if i = 1 then 1 else ca - K) (fun i => if i = 0 then l.take K else if i = 1 then [(p, q)] else l.drop K) W2 (by omega)
    (fun i hi => match i, hi with | 0, _ => by show (l.take K).length ≤ 1000; omega | 1, _ => by show ([(p, q)] : List Ex).length ≤ 1000; simp | 2, _ => by show (l.drop K).length ≤ 1000; omega)
    (fun i hi => match i, hi with | 0, _ => by show W2.cell? _ = some (.slice (subA a 0 ca) (l.take K).length ca); rw [hl0]; exact cell_of_block BZ rfl | 1, _ => cell_of_block BZ rfl | 2, _ => by show W2.cell? _ = some (.slice (subA a K ca) (l.drop K).length (ca - K)); rw [hl1]; exact cell_of_block BZ rfl)
    (fun i hi => match i, hi with | 0, _ => rT | 1, _ => exs_one BO | 2, _ => rF)
  have z2 := b2.size
  clear BZ rT rF hl0 hl1
  generalize hR : flat (fun i => if i = 0 then l.take K else if i = 1 then [(p, q)] else l.drop K) 3 = R at *
  have HR : Hid _ := hR
  clear hR
  go_region_law (go_simp; go_at_call 87; refine cC.mono ?_; rintro e w3 ⟨b3, y, cy, rfl, ow⟩; have M1 : Hid (w3.heap[D]? = _) := box_on K1.out (Below.comp b2 b3); obtain ⟨i0', i1', i2', i3'⟩ := box2_cells M1.out)
  all_goals
    obtain ⟨W4, hW4⟩ : ∃ W4, w3.setCell ⟨D, 0, none⟩ (.slice y R.length cy) = W4 := ⟨_, rfl⟩
    have N1 : W4.heap[D]? = some (.cells #[.slice y R.length cy, .func (.func 65) #[] #[]] 81 (0, 0)) := by subst hW4; exact box2_one M1.out
    have o4 : Out D (D + 1) w3 W4 := by subst hW4; exact out_setCell _ _ _ _
    have N3 : W4.heap[D + 1 + 1]? = some (.cells #[.slice none 0 0, .nilFunc] 81 (0, 0)) := box_out (box_on K3.out (Below.comp b2 b3)) o4 (by omega)
    rw [hW4]
    clear hW4 i0 i1 i2 i3 j0 j1 ia0 jb0 jb1 i0' i1' i2' i3' cC
    obtain ⟨t0, t1, -, -⟩ := box2_cells N1
    obtain ⟨u0, u1, v0, v1⟩ := box2_cells N3
    have HN3 : Hid _ := N3
    have HOw : Hid (OwnR w3 W2.heap.size (.slice y R.length cy) R) := ow
    clear N1 N3 ow
    go_wp2
    obtain ⟨W5, hW5⟩ : ∃ W5, (W4.setCell ⟨D + 1 + 1, 0, none⟩ (.slice y R.length cy)).setCell ⟨D + 1 + 1, 1, none⟩ (.func (.func 65) #[] #[]) = W5 := ⟨_, rfl⟩
    have o5 : Out (D + 1 + 1) (D + 1 + 1 + 1) W4 W5 := by subst hW5; exact ((Out.refl _ _ _).setCell (by omega) (by omega) _ _).setCell (by omega) (by omega) _ _
    have R5 : W5.heap[D + 1 + 1]? = some (.cells #[.slice y R.length cy, .func (.func 65) #[] #[]] 81 (0, 0)) := by subst hW5; exact box2_set HN3.out
    rw [hW5]
    clear hW5 t0 t1 u0 u1 v0 v1
    obtain ⟨t0, t1, -, -⟩ := box2_cells R5
    have z3 := b3.size
    have z4 := o4.size
    have hR := HR.out
    clear HR
    subst hR
    refine bodyPost_ret (v := ov y (flat (fun i => if i = 0 then l.take K else if i = 1 then [(p, q)] else l.drop K) 3).length cy 65) (by simp [results, Try.results74, go_sem, t0, t1]) rfl ⟨?_, y, cy, rfl, ?_⟩
    · exact ((Below.comp (Below.comp g1 b2) b3).trans ((o4.below (by omega)).mono (by omega))).trans ((o5.below (by omega)).mono (by omega))
    · exact owns_mono (owns_out (owns_out HOw.out o4 (by omega)) o5 (by omega)) (by omega)
end Go.Proofs.Ytoodioaflaklmaa
