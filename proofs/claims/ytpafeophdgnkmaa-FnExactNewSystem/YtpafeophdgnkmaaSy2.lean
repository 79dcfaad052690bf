import Derived.Test.YtpafeophdgnkmaaSy1
import Derived.Test.YtpafeophdgnkmaaA3s
import Derived.Test.YtpafeophdgnkmaaOL
/- impl.roomWith on room without extents, with one extent given at most. -/
namespace Go.Proofs.Ytpafeophdgnkmaa
open Go.ChangeShapes Go.WideShapes Go.ChangeAt Go.RowKit
set_option linter.unusedVariables false
open Room

attribute [local go_sem] Oper.semAt_some

theorem concatNew_any (b : Nat) (a : Option Addr) (ca : Nat) (L : List Ex) (W : World) (hB : W.heap[b]? = some (.cells #[.slice none 0 0, .slice a L.length ca] 22 (0, 0))) (hl : L.length ≤ 1000) (hn : Exs W a L) :
    Calls Try.prog 21 #[.slice (some ⟨b, 0, none⟩) 2 2] W fun e w' => Below W.heap.size W w' ∧ ∃ x c, e = .returned (.slice x L.length c) ∧ OwnR w' W.heap.size (.slice x L.length c) L := by
  obtain ⟨x0, x1, -, -⟩ := box2_cells hB
  have := Concat_any b 2 2 (fun i => if i = 0 then none else a) (fun i => if i = 0 then 0 else ca) (fun i => if i = 0 then [] else L) W (by omega)
    (fun i hi => by rcases (by omega : i = 0 ∨ i = 1) with rfl | rfl <;> simp; omega)
    (fun i hi => by
      rcases (by omega : i = 0 ∨ i = 1) with rfl | rfl
      · simp [x0]
      · simp [x1])
    (fun i hi => by
      rcases (by omega : i = 0 ∨ i = 1) with rfl | rfl
      · exact fun h => absurd rfl h
      · exact hn)
  have e : flat (fun i => if i = 0 then [] else L) 2 = L := by simp [flat]
  rw [e] at this
  exact this
theorem sortFewP_any (x : Option Addr) (c : Nat) (L : List Ex) (w : World) (B : Nat) (hL : L.length ≤ 1) (h : OwnR w B (.slice x L.length c) L) (hB : B ≤ w.heap.size) :
    Calls Try.prog 22 #[.slice x L.length c, .func (.func 23) #[] #[]] w fun e w' => e = .returned (.tuple #[]) ∧ Below B w w' ∧ w.heap.size ≤ w'.heap.size ∧ Exs w' x L := by
  match L, hL with
  | [], _ => exact (sortNone _ _ _ w).mono fun e w' ⟨he, hw⟩ => by subst hw; exact ⟨he, Below.refl _ _, Nat.le_refl _, fun h => absurd rfl h⟩
  | [y], _ =>
    rcases (OwnR.own h).1 with h0 | ⟨b, cs, hb, hb', rfl, hc, hx⟩
    · exact absurd h0 (by simp)
    · refine (sortOneP y b c w cs hc hx).mono ?_
      rintro e w' ⟨he, ho, c', h1, h2⟩
      refine ⟨he, (ho.below (by omega)).mono hb, ho.size, fun _ => ⟨b, 0, rfl, fun i hi => ?_⟩⟩
      have := h2 i (by simpa using hi)
      rw [Nat.zero_add]
      exact ⟨cell_of_block h1 this.1, cell_of_block h1 this.2⟩
set_option maxRecDepth 20000 in
set_option maxHeartbeats 2000000 in
theorem roomNew_any (n : Int) (a : Option Addr) (ca : Nat) (L : List Ex) (w : World) (hL : L.length ≤ 1) (ha : Exs w a L) :
    Calls Try.prog 11 #[fv n none 0 0 none 0 0, .slice a L.length ca] w fun e w' => Below w.heap.size w w' ∧ ∃ v, e = .returned v ∧ FreeAt w.heap.size w' v n L L := by
  obtain ⟨D, hD⟩ : ∃ D, w.heap.size = D := ⟨_, rfl⟩
  obtain ⟨W0, hW0⟩ : ∃ W0, (w.alloc (.cells #[.int .i64 n, .slice none 0 0, .slice none 0 0] 24)).alloc (.cells #[.int .i64 0, .slice none 0 0, .slice none 0 0] 24) = W0 := ⟨_, rfl⟩
  have g0 : Below w.heap.size w W0 := by subst hW0; exact ba2 _ _ _
  obtain ⟨B1, B2⟩ : W0.heap[D]? = some (.cells #[.int .i64 n, .slice none 0 0, .slice none 0 0] 24 (0, 0)) ∧ W0.heap[D + 1]? = some (.cells #[.int .i64 0, .slice none 0 0, .slice none 0 0] 24 (0, 0)) := by subst hW0 hD; exact al2 _ _ _
  have H1 : Hid (W0.heap[D]? = some (.cells #[.int .i64 n, .slice none 0 0, .slice none 0 0] 24 (0, 0))) := B1
  have H2 : Hid (W0.heap[D + 1]? = some (.cells #[.int .i64 0, .slice none 0 0, .slice none 0 0] 24 (0, 0))) := B2
  have z0 := box_lt B2
  obtain ⟨i0, i1, i2, -, -, -⟩ := box3_cells B1
  clear B1 B2
  have cC : Hid (∀ W, Below W0.heap.size W0 W → ∀ b, W.heap[b]? = some (.cells #[.slice none 0 0, .slice a L.length ca] 22 (0, 0)) → Calls Try.prog 21 #[.slice (some ⟨b, 0, none⟩) 2 2] W fun e w' => Below W.heap.size W w' ∧ ∃ x c, e = .returned (.slice x L.length c) ∧ OwnR w' W.heap.size (.slice x L.length c) L) := fun W hW b hb => concatNew_any b a ca L W hb (by omega) (ha.below (Below.comp g0 hW))
  have cS : Hid (∀ (W : World) x c B, OwnR W B (.slice x L.length c) L → B ≤ W.heap.size → Calls Try.prog 22 #[.slice x L.length c, .func (.func 23) #[] #[]] W fun e w' => e = .returned (.tuple #[]) ∧ Below B W w' ∧ W.heap.size ≤ w'.heap.size ∧ Exs w' x L) := fun W x c B h hB => sortFewP_any x c L W B hL h hB
  have cJ : Hid (∀ (W : World) x c, Exs W x L → Calls Try.prog 24 #[.slice x L.length c, .func (.func 25) #[] #[]] W fun e w' => Below W.heap.size W w' ∧ ∃ v, e = .returned v ∧ OwnR w' W.heap.size v L) := fun W x c h => joinFew_any x c L W hL h
  have cZ : Hid (∀ (W : World) x c, Exs W x L → Calls Try.prog 26 #[.slice x L.length c] W fun e w' => Below W.heap.size W w' ∧ ∃ y cy, e = .returned (.slice y L.length cy) ∧ Own w' W.heap.size w'.heap.size y L) := fun W x c h => sizesFew_any x c L W hL h
  clear ha
  obtain ⟨N, hN⟩ : ∃ N, L.length = N := ⟨_, rfl⟩
  rw [hN] at cC cS cJ cZ hL ⊢
  have HN : Hid _ := hN
  clear hN
  go_enter Try.func11, Try.ntmps11
  go_wp2_with fail
  refine (cC.out _ (below_alloc W0 _) _ (al1 W0 _)).mono ?_
  rintro e w1 ⟨b1', x1, c1, rfl, m1⟩
  have b1 : Below W0.heap.size W0 w1 := Below.comp (below_alloc W0 _) b1'
  have M1 : Hid (OwnR w1 (W0.alloc (.cells #[.slice none 0 0, .slice a N ca] 22)).heap.size (.slice x1 N c1) L) := m1
  clear m1 hW0 i0 i1 i2
  have zb : W0.heap.size ≤ (W0.alloc (.cells #[.slice none 0 0, .slice a N ca] 22)).heap.size := (below_alloc W0 _).size
  have zc := b1'.size
  go_wp2_with fail
  refine (cS.out _ x1 c1 _ M1.out zc).mono ?_
  rintro e w2 ⟨rfl, b2', z2, m2⟩
  have M2 : Hid (Exs w2 x1 L) := m2
  clear m2
  have b2 : Below W0.heap.size W0 w2 := b1.trans (b2'.mono zb)
  go_wp2_with fail
  refine (cJ.out _ x1 c1 M2.out).mono ?_
  rintro e w3 ⟨b3', v3, rfl, m3⟩
  obtain ⟨x3, c3, e3⟩ := owns_form m3
  rw [HN.out] at e3
  subst e3
  have M3 : Hid (Own w3 w2.heap.size w3.heap.size x3 L) := (OwnR.own m3).1
  clear m3
  have b3 : Below W0.heap.size W0 w3 := Below.comp b2 b3'
  have z3 := b3.size
  have X3 : Hid (Exs w3 x3 L) := MineX.row M3.out
  have SB : Hid (∀ W, Below w3.heap.size w3 W → W.cell? ⟨D, 0, none⟩ = some (.int .i64 n)) := fun W z => (box3_cells (box_on (box_on H1.out b3) z)).1
  go_wp2_with fail
  refine wp_region_L (fun W => Below w3.heap.size w3 W) 6 7 (by kernel_rfl) rfl (Below.drew (Below.refl _ _)) (fun hS0 => ?_)
  refine tkL (i := 0) (d := 16) (v := ?_) rfl rfl (by kernel_rfl) (by kernel_rfl) (by kernel_rfl) (by kernel_rfl) (fun _ _ _ h => h) (Or.inl ⟨by rfl, by intro wq hSq; have q0 := SB.out wq hSq; go_simp; try with_reducible rfl⟩) (by assumption) ?_
  simp only [List.setIfInBounds_toArray, List.set_cons_zero, List.set_cons_succ]
  refine tkL (i := 1) (d := 17) (v := ?_) rfl rfl (by kernel_rfl) (by kernel_rfl) (by kernel_rfl) (by kernel_rfl) (fun _ _ _ h => h) (Or.inl ⟨by rfl, by intro wq hSq; have q0 := SB.out wq hSq; go_simp; try with_reducible rfl⟩) (by assumption) ?_
  simp only [List.setIfInBounds_toArray, List.set_cons_zero, List.set_cons_succ]
  refine tkL (i := 2) (d := 18) (v := ?_) rfl rfl (by kernel_rfl) (by kernel_rfl) (by kernel_rfl) (by kernel_rfl) (fun _ _ _ h => h) (Or.inl ⟨by rfl, by intro wq hSq; have q0 := SB.out wq hSq; go_simp; try with_reducible rfl⟩) (by assumption) ?_
  simp only [List.setIfInBounds_toArray, List.set_cons_zero, List.set_cons_succ]
  refine tkL (i := 3) (d := 19) (v := ?_) rfl rfl (by kernel_rfl) (by kernel_rfl) (by kernel_rfl) (by kernel_rfl) (fun _ _ _ h => h) (Or.inl ⟨by rfl, by intro wq hSq; have q0 := SB.out wq hSq; go_simp; try with_reducible rfl⟩) (by assumption) ?_
  simp only [List.setIfInBounds_toArray, List.set_cons_zero, List.set_cons_succ]
  refine oneL (i := 4) rfl (by kernel_rfl) (fun K hK => ?_)
  go_simp
  refine (cZ.out _ x3 c3 (X3.out.below hS0)).mono ?_
  rintro e w4 ⟨b4, y4, c4, rfl, m4⟩
  have s4 : Below w3.heap.size w3 w4 := Below.comp hS0 b4
  refine hK.out _ _ s4 (fun hS4 => ?_)
  clear hK K
  refine tkL (i := 5) (d := 21) (v := ?_) rfl rfl (by kernel_rfl) (by kernel_rfl) (by kernel_rfl) (by kernel_rfl) (fun _ _ _ h => h) (Or.inl ⟨by rfl, by intro wq hSq; go_simp; try with_reducible rfl⟩) (by assumption) ?_
  simp only [List.setIfInBounds_toArray, List.set_cons_zero, List.set_cons_succ]
  obtain ⟨k0, k1, k2, k3, k4, k5⟩ := box3_cells (box_on (box_on H2.out b3) s4)
  have R2 : w4.heap[D + 1]? = some (.cells #[.int .i64 0, .slice none 0 0, .slice none 0 0] 24 (0, 0)) := box_on (box_on H2.out b3) s4
  refine lastL rfl (by kernel_rfl) (by kernel_rfl) (fun K hK => ?_)
  go_simp
  refine hK.out _ _ ?_
  clear hK K
  obtain ⟨W5, hW5⟩ : ∃ W5, ((w4.setCell ⟨D + 1, 0, none⟩ (.int .i64 n)).setCell ⟨D + 1, 1, none⟩ (.slice x3 N c3)).setCell ⟨D + 1, 2, none⟩ (.slice y4 N c4) = W5 := ⟨_, rfl⟩
  have o5 : Out (D + 1) (D + 1 + 1) w4 W5 := by subst hW5; exact box3_out _ _ _ _ _
  have R : W5.heap[D + 1]? = some (.cells #[.int .i64 n, .slice x3 N c3, .slice y4 N c4] 24 (0, 0)) := by subst hW5; exact box3_set R2
  first | rw [hW5] | skip
  obtain ⟨t0, t1, t2, -, -, -⟩ := box3_cells R
  have zd : w3.drew.heap.size = w3.heap.size := rfl
  have z4 := b4.size
  have z5 := o5.size
  go_wp2
  refine bodyPost_ret (v := fv n x3 N c3 y4 N c4) (by simp [results, Try.results11, go_sem, t0, t1, t2]) rfl ?_
  refine ⟨(Below.comp g0 (Below.comp b3 s4)).trans ((o5.below (by omega)).mono (by omega)), _, rfl, x3, c3, y4, c4, w3.heap.size, by rw [HN.out], by omega, by omega, ?_, ?_⟩
  · exact (((M3.out.below s4).out o5 (.inr (by omega))).mono (by omega) (Nat.le_refl _))
  · exact (m4.out o5 (.inr (by omega))).mono (by omega) (by omega)
end Go.Proofs.Ytpafeophdgnkmaa
