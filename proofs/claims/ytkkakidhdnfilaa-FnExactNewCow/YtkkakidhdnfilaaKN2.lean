import Derived.Test.YtkkakidhdnfilaaKN
/- The law of NewCow. -/
namespace Go.Proofs.Ytkkakidhdnfilaa
open Go.ChangeShapes Go.WideShapes Go.ChangeAt Go.RowKit
set_option linter.unusedVariables false
open Hd

attribute [local go_sem] Oper.semAt_some

set_option maxHeartbeats 4000000 in
theorem lawNewCow (lv : Int) (w : World) (d : Co) (B : Bool) (hz : d.cs = []) (hfew : FewW d) (hk : 1 + d.rs.length ≤ 100000000)
    (cS : ∀ W, Calls Try.prog 11 #[.int .i64 lv] W fun e w' => Below W.heap.size W w' ∧ ∃ v, e = .returned (.tuple #[v, .bool B]) ∧ WOwn w' W.heap.size w'.heap.size v d)
    (cI : ∀ W, Calls Try.prog 12 #[.int .i64 lv] W fun e w' => Below W.heap.size W w' ∧ ∃ v, e = .returned (.tuple #[v, .bool B]) ∧ WOwn w' W.heap.size w'.heap.size v d) :
    Calls Try.prog 3 #[.int .i64 lv] w fun e w' => e = .returned (.bool true) ∧ Below w.heap.size w w' := by
  have cE := fun W x x' h h' => eqCow_same x x' d W hfew h h'
  have cM := fun B C W x h => markCowN B C x d 1 W hz hk h
  have cH := fun W x h => heldCowN x d 1 W hz hk h
  have hJ0 : decide (((1 + d.rs.length : Nat) : Int) < 0) = false := by simp; omega
  have hJJ : (((1 + d.rs.length : Nat) : Int) != ((1 + d.rs.length : Nat) : Int)) = false := by simp
  have hBB : (B != B) = false := by cases B <;> rfl
  generalize ((1 + d.rs.length : Nat) : Int) = J at *
  rw [show (((1 : Nat)) : Int) = 1 from rfl] at *
  clear hfew hk
  go_enter Try.func3, Try.ntmps3
  go_wp2_with fail
  refine (cS _).mono ?_
  rintro e w1 ⟨b1, v, rfl, ty⟩
  obtain ⟨ya, yc, yp, yq, hv⟩ := ty.form
  subst hv
  obtain ⟨n, hn⟩ : ∃ x, d.cs.length = x := ⟨_, rfl⟩
  obtain ⟨m, hm⟩ : ∃ x, d.rs.length = x := ⟨_, rfl⟩
  obtain ⟨LV, hLV⟩ : ∃ x, d.lv = x := ⟨_, rfl⟩
  have Hn : Hid (d.cs.length = n ∧ d.rs.length = m ∧ d.lv = LV) := ⟨hn, hm, hLV⟩
  rw [hn, hm, hLV] at ty ⊢
  clear hn hm hLV
  obtain ⟨W1, hW1⟩ : ∃ W1, w1.alloc (.cells #[.slice ya n yc, .slice yp m yq, .int .i64 LV] 25) = W1 := ⟨_, rfl⟩
  have q1 : Below w1.heap.size w1 W1 := by subst hW1; exact below_alloc _ _
  have Y1 : Hid (W1.heap[w1.heap.size]? = some (.cells #[.slice ya n yc, .slice yp m yq, .int .i64 LV] 25 (0, 0))) := by subst hW1; exact al1 _ _
  have TY : Hid (WOwn W1 w.heap.size w1.heap.size (.agg #[.slice ya n yc, .slice yp m yq, .int .i64 LV]) d) := ty.below q1
  clear ty
  go_wp2_with fail
  refine (cI _).mono ?_
  rintro e w2 ⟨b2, v, rfl, tz⟩
  obtain ⟨za, zc, zp, zq, hv⟩ := tz.form
  rw [Hn.out.1, Hn.out.2.1, Hn.out.2.2] at hv
  subst hv
  obtain ⟨W2, hW2⟩ : ∃ W2, w2.alloc (.cells #[.slice za n zc, .slice zp m zq, .int .i64 LV] 25) = W2 := ⟨_, rfl⟩
  have q2 : Below w2.heap.size w2 W2 := by subst hW2; exact below_alloc _ _
  have Z2 : Hid (W2.heap[w2.heap.size]? = some (.cells #[.slice za n zc, .slice zp m zq, .int .i64 LV] 25 (0, 0))) := by subst hW2; exact al1 _ _
  have TZ : Hid (WOwn W2 W1.heap.size w2.heap.size (.agg #[.slice za n zc, .slice zp m zq, .int .i64 LV]) d) := tz.below q2
  have b12 := Below.comp b2 q2
  have TY2 : Hid (WOwn W2 w.heap.size w1.heap.size (.agg #[.slice ya n yc, .slice yp m yq, .int .i64 LV]) d) := TY.out.below b12
  have Y2 : Hid (W2.heap[w1.heap.size]? = some (.cells #[.slice ya n yc, .slice yp m yq, .int .i64 LV] 25 (0, 0))) := box_on Y1.out b12
  obtain ⟨y0, y1, y2⟩ := box3_one Y2.out
  obtain ⟨z0, z1, z2⟩ := box3_one Z2.out
  have hs1 : w1.heap.size + 1 ≤ W1.heap.size := box_lt Y1.out
  have hs2 : w2.heap.size + 1 ≤ W2.heap.size := box_lt Z2.out
  have HS1 : Hid _ := hs1
  have HS2 : Hid _ := hs2
  have HS3 : Hid (W1.heap.size ≤ w2.heap.size) := b2.size
  clear tz hW1 hs1 hs2
  go_wp2_with fail
  refine (cE _ _ _ TZ.out.at_ TY2.out.at_).mono ?_
  rintro e w3 ⟨rfl, b3⟩
  clear y0 y1 y2 z0 z1 z2 hW2
  obtain ⟨z0, z1, z2⟩ := box3_one (box_on Z2.out b3)
  have TZ3 : Hid (WOwn w3 W1.heap.size w2.heap.size (.agg #[.slice za n zc, .slice zp m zq, .int .i64 LV]) d) := TZ.out.below b3
  have hz3 : w2.heap.size ≤ w3.heap.size := Nat.le_trans q2.size b3.size
  go_wp2_with fail
  refine (cM W1.heap.size w2.heap.size _ _ TZ3.out).mono ?_
  rintro e w4 ⟨rfl, ⟨V, hV, hVo⟩, tz4⟩
  have TZ4 : Hid (WOwn w4 W1.heap.size w2.heap.size (.agg #[.slice za n zc, .slice zp m zq, .int .i64 LV]) (mkc 1 d.rs.length d.lv)) := tz4
  have Z4 : Hid (w4.heap[w2.heap.size]? = some (.cells #[.slice za n zc, .slice zp m zq, .int .i64 LV] 25 (0, 0))) := box_out (box_on (box_on Z2.out b3) hV) hVo (.inr (Nat.le_refl _))
  have Y4 : Hid (w4.heap[w1.heap.size]? = some (.cells #[.slice ya n yc, .slice yp m yq, .int .i64 LV] 25 (0, 0))) := box_out (box_on (box_on Y2.out b3) hV) hVo (.inl HS1.out)
  have TY4 : Hid (WOwn w4 w.heap.size w1.heap.size (.agg #[.slice ya n yc, .slice yp m yq, .int .i64 LV]) d) := ((TY2.out.below b3).below hV).out hVo (.inl (by have := HS1.out; omega))
  have hB4 : Below w.heap.size w w4 := by
    have g3 : Below w.heap.size w V := Below.comp (Below.comp (Below.comp (Below.comp b1 q1) b12) b3) hV
    have hz : W1.heap.size ≤ V.heap.size := Nat.le_trans HS3.out (Nat.le_trans hz3 hV.size)
    exact g3.trans ((hVo.below hz).mono (Nat.le_trans b1.size q1.size))
  clear z0 z1 z2 tz4
  obtain ⟨z0, z1, z2⟩ := box3_one Z4.out
  go_wp2_with fail
  refine (cH _ _ TZ4.out.at_).mono ?_
  rintro e w5 ⟨rfl, b5⟩
  clear z0 z1 z2
  go_wp2_with fail
  refine (cI _).mono ?_
  rintro e w6 ⟨b6, v, rfl, tx⟩
  obtain ⟨xa, xc, xp, xq, hv⟩ := tx.form
  rw [Hn.out.1, Hn.out.2.1, Hn.out.2.2] at hv
  subst hv
  obtain ⟨W6, hW6⟩ : ∃ W6, w6.alloc (.cells #[.slice xa n xc, .slice xp m xq, .int .i64 LV] 25) = W6 := ⟨_, rfl⟩
  have q6 : Below w6.heap.size w6 W6 := by subst hW6; exact below_alloc _ _
  have X6 : Hid (W6.heap[w6.heap.size]? = some (.cells #[.slice xa n xc, .slice xp m xq, .int .i64 LV] 25 (0, 0))) := by subst hW6; exact al1 _ _
  have b46 := Below.comp (Below.comp b5 b6) q6
  have TX6 : Hid (WOwn W6 w5.heap.size w6.heap.size (.agg #[.slice xa n xc, .slice xp m xq, .int .i64 LV]) d) := tx.below q6
  have TY6 : Hid (WOwn W6 w.heap.size w1.heap.size (.agg #[.slice ya n yc, .slice yp m yq, .int .i64 LV]) d) := TY4.out.below b46
  obtain ⟨x0, x1, x2⟩ := box3_one X6.out
  obtain ⟨y0, y1, y2⟩ := box3_one (box_on Y4.out b46)
  clear tx
  go_wp2_with fail
  refine (cE _ _ _ TX6.out.at_ TY6.out.at_).mono ?_
  rintro e w7 ⟨rfl, b7⟩
  have b47 := Below.comp b46 b7
  clear x0 x1 x2 y0 y1 y2 hW6
  obtain ⟨z0, z1, z2⟩ := box3_one (box_on Z4.out b47)
  go_wp2_with fail
  refine (cH _ _ (TZ4.out.at_.below b47)).mono ?_
  rintro e w8 ⟨rfl, b8⟩
  clear z0 z1 z2
  go_wp2_with fail
  go_ret
  exact ⟨rfl, Below.comp hB4 (Below.comp b47 b8)⟩
end Go.Proofs.Ytkkakidhdnfilaa
