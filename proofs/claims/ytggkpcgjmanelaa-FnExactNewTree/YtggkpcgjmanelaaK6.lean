import Derived.Test.YtggkpcgjmanelaaN1
import Derived.Test.YtggkpcgjmanelaaL4
/- The law of NewTree. -/
namespace Go.Proofs.Ytggkpcgjmanelaa
open Go.ChangeShapes Go.WideShapes Go.ChangeAt Go.RowKit
set_option linter.unusedVariables false
open Bt

attribute [local go_sem] Oper.semAt_some

set_option maxHeartbeats 4000000 in
theorem lawNew (w : World) : Calls Try.prog 4 #[] w fun e w' => e = .returned (.bool true) ∧ Below w.heap.size w w' := by
  obtain ⟨R, hR⟩ : ∃ R : Int, R = 0 := ⟨_, rfl⟩
  have cS := fun W => specNew_any W
  have cI := fun W => implNew_any W
  rw [← hR] at cS cI
  clear hR
  have cE := fun W x c x' c' h h' => eqTree_same x x' oneN c c' R W (by simp) (by
    intro i hi
    have h0 : i = 0 := by simpa using hi
    rw [h0]
    exact ⟨by decide, by decide⟩) h h'
  have cM := fun B C W x c h hC => markTree_any B C x c oneN R 1 W (by simp [bk, gn]) h hC
  have cH := fun W x c h => heldTree_any x c oneN R 1 W (by simp [bk, gn]) h
  have hJ0 : decide ((((1 + oneN.length + bk oneN oneN.length : Nat)) : Int) < 0) = false := by simp; omega
  have hJJ : ((((1 + oneN.length + bk oneN oneN.length : Nat)) : Int) != ((1 + oneN.length + bk oneN oneN.length : Nat) : Int)) = false := by simp
  generalize (((1 + oneN.length + bk oneN oneN.length : Nat)) : Int) = J at *
  rw [show (((1 : Nat)) : Int) = 1 from rfl] at *
  go_enter Try.func4, Try.ntmps4
  go_wp2_with fail
  refine (cS _).mono ?_
  rintro e w1 ⟨b1, ya, yc, rfl, ty⟩
  obtain ⟨W1, hW1⟩ : ∃ W1, w1.alloc (.cells #[.slice ya 1 yc, .int .i64 R] 27) = W1 := ⟨_, rfl⟩
  have q1 : Below w1.heap.size w1 W1 := by subst hW1; exact below_alloc _ _
  have Y1 : Hid (W1.heap[w1.heap.size]? = some (.cells #[.slice ya 1 yc, .int .i64 R] 27 (0, 0))) := by subst hW1; exact al1 _ _
  have TY : Hid (TOwn W1 w.heap.size w1.heap.size ya oneN) := ty.below q1
  clear ty
  go_wp2_with fail
  refine (cI _).mono ?_
  rintro e w2 ⟨b2, za, zc, rfl, tz⟩
  obtain ⟨W2, hW2⟩ : ∃ W2, w2.alloc (.cells #[.slice za 1 zc, .int .i64 R] 27) = W2 := ⟨_, rfl⟩
  have q2 : Below w2.heap.size w2 W2 := by subst hW2; exact below_alloc _ _
  have Z2 : Hid (W2.heap[w2.heap.size]? = some (.cells #[.slice za 1 zc, .int .i64 R] 27 (0, 0))) := by subst hW2; exact al1 _ _
  have TZ : Hid (TOwn W2 W1.heap.size w2.heap.size za oneN) := tz.below q2
  have b12 := Below.comp b2 q2
  have TY2 : Hid (TOwn W2 w.heap.size w1.heap.size ya oneN) := TY.out.below b12
  have Y2 : Hid (W2.heap[w1.heap.size]? = some (.cells #[.slice ya 1 yc, .int .i64 R] 27 (0, 0))) := box_on Y1.out b12
  obtain ⟨y0, y1, -, -⟩ := box2_cells Y2.out
  obtain ⟨z0, z1, -, -⟩ := box2_cells Z2.out
  have hs1 : w1.heap.size + 1 ≤ W1.heap.size := box_lt Y1.out
  have hs2 : w2.heap.size + 1 ≤ W2.heap.size := box_lt Z2.out
  have HS1 : Hid _ := hs1
  have HS2 : Hid _ := hs2
  have HS3 : Hid (W1.heap.size ≤ w2.heap.size) := b2.size
  clear tz hW1 hs1 hs2
  go_wp2_with fail
  refine (cE _ za zc ya yc TZ.out.nodes TY2.out.nodes).mono ?_
  rintro e w3 ⟨rfl, b3⟩
  clear y0 y1 z0 z1 hW2
  obtain ⟨z0, z1, -, -⟩ := box2_cells (box_on Z2.out b3)
  have TZ3 : Hid (TOwn w3 W1.heap.size w2.heap.size za oneN) := TZ.out.below b3
  have hz3 : w2.heap.size ≤ w3.heap.size := Nat.le_trans q2.size b3.size
  go_wp2_with fail
  refine (cM W1.heap.size w2.heap.size _ za zc TZ3.out hz3).mono ?_
  rintro e w4 ⟨rfl, ⟨V, hV, hVo⟩, tz4⟩
  have TZ4 : Hid (TOwn w4 W1.heap.size w2.heap.size za (mkT 1 oneN)) := tz4
  have Z4 : Hid (w4.heap[w2.heap.size]? = some (.cells #[.slice za 1 zc, .int .i64 R] 27 (0, 0))) := box_out (box_on (box_on Z2.out b3) hV) hVo (.inr (Nat.le_refl _))
  have Y4 : Hid (w4.heap[w1.heap.size]? = some (.cells #[.slice ya 1 yc, .int .i64 R] 27 (0, 0))) := box_out (box_on (box_on Y2.out b3) hV) hVo (.inl HS1.out)
  have TY4 : Hid (TOwn w4 w.heap.size w1.heap.size ya oneN) := ((TY2.out.below b3).below hV).out hVo (.inl (by have := HS1.out; omega))
  have hB4 : Below w.heap.size w w4 := by
    have g3 : Below w.heap.size w V := Below.comp (Below.comp (Below.comp (Below.comp b1 q1) b12) b3) hV
    have hz : W1.heap.size ≤ V.heap.size := Nat.le_trans HS3.out (Nat.le_trans hz3 hV.size)
    exact g3.trans ((hVo.below hz).mono (Nat.le_trans b1.size q1.size))
  clear z0 z1 tz4
  obtain ⟨z0, z1, -, -⟩ := box2_cells Z4.out
  go_wp2_with fail
  refine (cH _ za zc TZ4.out.nodes).mono ?_
  rintro e w5 ⟨rfl, b5⟩
  clear z0 z1
  go_wp2_with fail
  refine (cI _).mono ?_
  rintro e w6 ⟨b6, xa, xc, rfl, tx⟩
  obtain ⟨W6, hW6⟩ : ∃ W6, w6.alloc (.cells #[.slice xa 1 xc, .int .i64 R] 27) = W6 := ⟨_, rfl⟩
  have q6 : Below w6.heap.size w6 W6 := by subst hW6; exact below_alloc _ _
  have X6 : Hid (W6.heap[w6.heap.size]? = some (.cells #[.slice xa 1 xc, .int .i64 R] 27 (0, 0))) := by subst hW6; exact al1 _ _
  have b46 := Below.comp (Below.comp b5 b6) q6
  have TX6 : Hid (TOwn W6 w5.heap.size w6.heap.size xa oneN) := tx.below q6
  have TY6 : Hid (TOwn W6 w.heap.size w1.heap.size ya oneN) := TY4.out.below b46
  obtain ⟨x0, x1, -, -⟩ := box2_cells X6.out
  obtain ⟨y0, y1, -, -⟩ := box2_cells (box_on Y4.out b46)
  clear tx
  go_wp2_with fail
  refine (cE _ xa xc ya yc TX6.out.nodes TY6.out.nodes).mono ?_
  rintro e w7 ⟨rfl, b7⟩
  have b47 := Below.comp b46 b7
  clear x0 x1 y0 y1 hW6
  obtain ⟨z0, z1, -, -⟩ := box2_cells (box_on Z4.out b47)
  go_wp2_with fail
  refine (cH _ za zc (TZ4.out.nodes.below b47)).mono ?_
  rintro e w8 ⟨rfl, b8⟩
  clear z0 z1
  go_wp2_with fail
  go_ret
  exact ⟨rfl, Below.comp hB4 (Below.comp b47 b8)⟩
end Go.Proofs.Ytggkpcgjmanelaa
