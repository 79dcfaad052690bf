import Derived.Test.YtfmgaenedkjmkaaD1
import Derived.Deep.DeepCutAuto
/- The program: both halves of a place. -/
namespace Go.Proofs.Ytfmgaenedkjmkaa
open Go.ChangeShapes Go.WideShapes Go.ChangeAt Go.RowKit
set_option linter.unusedVariables false
open Hd

attribute [local go_sem] Oper.semAt_some

abbrev Z92 : Obj := .cells #[.int .i64 0, .int .i64 0] 92
theorem box2_out (w : World) (b : Nat) (x0 x1 : Value) : Out b (b + 1) w ((w.setCell ⟨b, 0, none⟩ x0).setCell ⟨b, 1, none⟩ x1) :=
  ((Out.refl _ _ _).setCell (Nat.le_refl _) (Nat.lt_succ_self _) _ _).setCell (Nat.le_refl _) (Nat.lt_succ_self _) _ _
theorem or_eq {d f : Nat} (hd : d ≤ 8) (hf : f < 2 ^ d) : bits .or .i64 (f : Int) (wrap64 ((2 : Int) ^ d)) = ((f + 2 ^ d : Nat) : Int) := by
  have h := pow_le (d := d) (by omega)
  have h2 := Nat.two_pow_add_eq_or_of_lt hf 1
  rw [Nat.mul_one] at h2
  rw [pow_wrap (by omega), bits_i64_or (by omega) (by omega), Nat.or_comm, ← h2, Nat.add_comm]
theorem al4 (w : World) (o p q r : Obj) : Below w.heap.size w ((((w.alloc o).alloc p).alloc q).alloc r) ∧ ((((w.alloc o).alloc p).alloc q).alloc r).heap[w.heap.size]? = some o ∧ ((((w.alloc o).alloc p).alloc q).alloc r).heap[w.heap.size + 1]? = some p ∧ ((((w.alloc o).alloc p).alloc q).alloc r).heap[w.heap.size + 1 + 1]? = some q ∧ ((((w.alloc o).alloc p).alloc q).alloc r).heap[w.heap.size + 1 + 1 + 1]? = some r ∧ ((((w.alloc o).alloc p).alloc q).alloc r).heap.size = w.heap.size + 1 + 1 + 1 + 1 :=
  ⟨Below.comp (Below.comp (Below.comp (below_alloc _ _) (below_alloc _ _)) (below_alloc _ _)) (below_alloc _ _), box_on (al3 w o p q).1 (below_alloc _ _), box_on (al3 w o p q).2.1 (below_alloc _ _), box_on (al3 w o p q).2.2 (below_alloc _ _), by have := al1 (((w.alloc o).alloc p).alloc q) r; rwa [sz1, sz1, sz1] at this, by rw [sz1, sz1, sz1, sz1]⟩
set_option maxHeartbeats 2000000 in
theorem halves_any (d f : Nat) (w : World) (hd : d ≤ 8) (hf : f < 2 ^ d) :
    Calls Try.prog 85 #[pv d f] w fun e w' => e = .returned (.tuple #[pv (d + 1) f, pv (d + 1) (f + 2 ^ d)]) ∧ Below w.heap.size w w' := by
  obtain ⟨W0, hW0⟩ : ∃ W0, (((w.alloc (.cells #[.int .i64 (d : Int), .int .i64 (f : Int)] 92)).alloc Z92).alloc Z92).alloc (.cells #[.int .i64 ((d : Int) + 1), .int .i64 (f : Int)] 92) = W0 := ⟨_, rfl⟩
  obtain ⟨x0, x1, -, -⟩ := box2_cells (al1 w (.cells #[.int .i64 (d : Int), .int .i64 (f : Int)] 92))
  unfold pv
  go_enter Try.func85, Try.ntmps85
  go_upto_region 2 with fail
  obtain ⟨q0, r0, r1, r2, r3, r4⟩ := al4 w (.cells #[.int .i64 (d : Int), .int .i64 (f : Int)] 92) Z92 Z92 (.cells #[.int .i64 ((d : Int) + 1), .int .i64 (f : Int)] 92)
  rw [hW0] at q0 r0 r1 r2 r3 r4
  clear hW0 x0 x1
  have R0 : Hid _ := r0
  have R1 : Hid _ := r1
  have R2 : Hid _ := r2
  have R3 : Hid _ := r3
  clear r0 r1 r2 r3
  have SB : Hid (∀ W, Below W0.heap.size W0 W → W.cell? ⟨w.heap.size, 0, none⟩ = some (.int .i64 (d : Int)) ∧ W.cell? ⟨w.heap.size, 1, none⟩ = some (.int .i64 (f : Int)) ∧ Below W0.heap.size W0 W) := fun W z => ⟨(box2_cells (box_on R0.out z)).1, (box2_cells (box_on R0.out z)).2.1, z⟩
  go_cut [5] (fun sx wx => ∃ F, sx = .pointer (some ⟨F, 0, none⟩) ∧ wx.heap[F]? = some (.cells #[.int .i64 ((d : Int) + 1), .int .i64 (bits .or .i64 (f : Int) (wrap64 ((2 : Int) ^ d)))] 92 (0, 0)) ∧ W0.heap.size ≤ F ∧ Below W0.heap.size W0 wx)
  case first =>
    go_region_held3 (fun W => W.cell? ⟨w.heap.size, 0, none⟩ = some (.int .i64 (d : Int)) ∧ W.cell? ⟨w.heap.size, 1, none⟩ = some (.int .i64 (f : Int)) ∧ Below W0.heap.size W0 W)
      ((refine SB.out _ ?_; first | assumption | exact Below.drew (Below.refl _ _) | exact Below.refl _ _ | exact below_alloc _ _ | exact Below.drew (below_alloc _ _) | exact (((below_alloc _ _).setCell (Nat.le_refl _) _).setCell (Nat.le_refl _) _) | exact (((Below.drew (below_alloc _ _)).setCell (Nat.le_refl _) _).setCell (Nat.le_refl _) _)))
      (fail)
    all_goals go_wp2_with fail
    all_goals go_meet
    have hw : IntKind.i64.wrap ((d : Int) + 1) = (d : Int) + 1 := by rw [IntKind.wrap_i64]; omega
    have hw2 : ∀ z : Int, IntKind.i64.wrap z = wrap64 z := fun z => by rw [IntKind.wrap_i64]; unfold wrap64; rfl
    have ha := al1 W0 (.cells #[.int .i64 (IntKind.i64.wrap ((d : Int) + 1)), .int .i64 (bits .or .i64 (f : Int) (IntKind.i64.wrap ((2 : Int) ^ d)))] 92)
    rw [r4, hw, hw2 ((2 : Int) ^ d)] at ha
    rw [hw, hw2 ((2 : Int) ^ d)]
    exact ⟨_, rfl, ha, by omega, Below.drew (below_alloc _ _)⟩
  case rest =>
    obtain ⟨F, rfl, hF, hF1, b1⟩ := hcut
    generalize wc = w1 at *
    have B1 := box_on R1.out b1
    have B2 := box_on R2.out b1
    have B3 := box_on R3.out b1
    obtain ⟨y0, y1, -, -⟩ := box2_cells B3
    obtain ⟨z0, z1, -, -⟩ := box2_cells hF
    obtain ⟨f0, f1, f2, f3⟩ := box2_cells B1
    obtain ⟨g0, g1, g2, g3⟩ := box2_cells B2
    have n1 : ¬ F = w.heap.size + 1 := by omega
    have n2 : ¬ F = w.heap.size + 1 + 1 := by omega
    have HF : Hid _ := hF
    have HB1 : Hid _ := B1
    have HB2 : Hid _ := B2
    clear hF B1 B2 B3 SB
    go_wp2_with fail
    go_region
    all_goals go_wp2_with fail
    have hB1 := box2_set HB1.out (x0 := .int .i64 ((d : Int) + 1)) (x1 := .int .i64 (f : Int))
    have o1 := box2_out w1 (w.heap.size + 1) (.int .i64 ((d : Int) + 1)) (.int .i64 (f : Int))
    obtain ⟨wa, hwa⟩ : ∃ wa, (w1.setCell ⟨w.heap.size + 1, 0, none⟩ (.int .i64 ((d : Int) + 1))).setCell ⟨w.heap.size + 1, 1, none⟩ (.int .i64 (f : Int)) = wa := ⟨_, rfl⟩
    rw [hwa] at hB1 o1
    rw [hwa]
    rw [or_eq hd hf]
    have hB2 := box2_set (box_out HB2.out o1 (by omega)) (x0 := .int .i64 ((d : Int) + 1)) (x1 := .int .i64 ((f + 2 ^ d : Nat) : Int))
    have o2 := box2_out wa (w.heap.size + 1 + 1) (.int .i64 ((d : Int) + 1)) (.int .i64 ((f + 2 ^ d : Nat) : Int))
    have hB1' := box_out hB1 o2 (by omega)
    obtain ⟨wb, hwb⟩ : ∃ wb, (wa.setCell ⟨w.heap.size + 1 + 1, 0, none⟩ (.int .i64 ((d : Int) + 1))).setCell ⟨w.heap.size + 1 + 1, 1, none⟩ (.int .i64 ((f + 2 ^ d : Nat) : Int)) = wb := ⟨_, rfl⟩
    rw [hwb] at hB1' hB2 o2
    rw [hwb]
    clear hwb hwa
    obtain ⟨t0, t1, -, -⟩ := box2_cells hB1'
    obtain ⟨v0, v1, -, -⟩ := box2_cells hB2
    refine bodyPost_ret (v := .tuple #[pv (d + 1) f, pv (d + 1) (f + 2 ^ d)]) (by simp [results, Try.results85, go_sem, t0, t1, v0, v1]) rfl ⟨rfl, ?_⟩
    have z1 := b1.size
    have z2 := o1.size
    exact (Below.comp q0 b1).trans (((o1.below (by omega)).mono (by omega)).trans (((Below.drew (o2.below (by omega)))).mono (by omega)))
end Go.Proofs.Ytfmgaenedkjmkaa
