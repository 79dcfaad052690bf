import Derived.Test.YtnanemkmmokdfaaF4
import Derived.Test.YtnanemkmmokdfaaL7
import Derived.Test.YtnanemkmmokdfaaK2
/- The law of NewVault, over what both sides tell. -/
namespace Go.Proofs.Ytnanemkmmokdfaa
open Go.ChangeShapes Go.WideShapes Go.ChangeAt Go.RowKit
set_option linter.unusedVariables false
open Hd

attribute [local go_sem] Oper.semAt_some

set_option maxRecDepth 20000 in
set_option maxHeartbeats 8000000 in
theorem lawNewVault (a : Option Addr) (n cap : Nat) (S : Nat → ByteArray) (D : Va) (O : Bool) (w : World) (hn : n ≤ 9223372036854775807) (hS : ∀ i, i < n → (S i).size ≤ 9223372036854775807) (hc : At w a n fun i => .string (S i))
    (hSS : n ≤ 1048576 → (∀ W x c, (At W x n fun i => .string (S i)) → Calls Try.prog 29 #[.slice x n c] W fun e w' => Below W.heap.size W w' ∧ ∃ v', e = .returned (.tuple #[v', .bool O]) ∧ VAt w' v' D) ∧ (∀ W x c, (At W x n fun i => .string (S i)) → Calls Try.prog 31 #[.slice x n c] W fun e w' => Below W.heap.size W w' ∧ ∃ v', e = .returned (.tuple #[v', .bool O]) ∧ VOwn w' W.heap.size w'.heap.size v' D) ∧ FewV D ∧ FewFs D ∧ kV 1 D ≤ 100000000) :
    Calls Try.prog 7 #[.slice a n cap] w fun e w' => e = .returned (.bool true) ∧ Below w.heap.size w w' := by
  have HC : Hid (∀ W, Below w.heap.size w W → At W a n fun i => .string (S i)) := fun W h => At.below hc h
  have cS := szStringS_any a n cap S 1048576 w (by omega) (by omega) hn hc hS
  have HFD : Hid (∀ W B C x, VOwn W B C x D → ∃ p q p' q', x = vv p D.pc.length q p' D.fs.length q') := fun W B C x h => by
    obtain ⟨p, q, p', q', e, -⟩ := h.at_
    exact ⟨p, q, p', q', e⟩
  have HFA : Hid (∀ W x, VAt W x D → ∃ p q p' q', x = vv p D.pc.length q p' D.fs.length q') := fun W x h => by
    obtain ⟨p, q, p', q', e, -⟩ := h
    exact ⟨p, q, p', q', e⟩
  have HS : Hid _ := hSS
  clear hS hSS hc
  unfold vv at *
  generalize D.pc.length = nq at *
  generalize D.fs.length = mq at *
  have hOO : (O != O) = false := by cases O <;> rfl
  go_enter Try.func7, Try.ntmps7
  go_wp2_with fail
  refine cS.mono ?_
  rintro e w1 ⟨e1, r, rfl, hr1, hr2, hr3⟩
  subst e1
  by_cases hr0 : r < 0
  · go_wp2_with fail
    go_ret
    exact ⟨rfl, Below.refl _ _⟩
  have hn1 : n ≤ 1048576 := by have := hr3 (by omega); omega
  obtain ⟨cP, cI, hFD, hnD, hkD⟩ := HS.out hn1
  have cT := fun W h => toStringS_any a n cap S W hn1 h
  have cEE := fun W x x' h h' => eqVault_same x x' D W hFD h h'
  have cQ := fun W x c x' c' h h' => eqStringS_any x x' n c c' S W hn h h'
  have cMs := fun B C W x c h => markStringS_any B C x n c S 1 W (by omega) (by omega) h
  have cMD := fun B C W x h => markVault_any B C x D 1 W (by omega) hnD hkD h
  have cHD := fun W x h => heldVault_any x D 1 W (by omega) hnD hkD h
  have hJ0 : decide (((kV 1 D : Nat) : Int) < 0) = false := by simp
  have hJJ : (((kV 1 D : Nat) : Int) != ((kV 1 D : Nat) : Int)) = false := by simp
  have hK0 : decide ((((1 + n : Nat)) : Int) < 0) = false := by simp; omega
  generalize ((kV 1 D : Nat) : Int) = J at *
  generalize (((1 + n : Nat)) : Int) = JK at *
  rw [show (((1 : Nat)) : Int) = 1 from rfl] at *
  clear hr1 hr2 hr3 HS hFD hkD hnD cS
  go_wp2_with fail
  refine (cT _ (HC.out _ (Below.refl _ _))).mono ?_
  rintro e w2 ⟨b2, ta, tc, rfl, m2⟩
  go_wp2_with fail
  refine (cP _ _ _ (mine_at m2)).mono ?_
  rintro e w3 ⟨b3, y, rfl, m3⟩
  obtain ⟨ya, yc, ya', yc', ey⟩ := HFA.out _ _ m3
  subst ey
  clear m2
  obtain ⟨E3, hE3⟩ : ∃ E, w3.heap.size = E := ⟨_, rfl⟩
  obtain ⟨W3, hW3⟩ : ∃ W3, w3.alloc (.cells #[.slice ya nq yc, .slice ya' mq yc'] 40) = W3 := ⟨_, rfl⟩
  have q3 : Below w3.heap.size w3 W3 := by subst hW3; exact below_alloc _ _
  have Y3 : Hid (W3.heap[E3]? = some (.cells #[.slice ya nq yc, .slice ya' mq yc'] 40 (0, 0))) := by subst hW3 hE3; exact al1 _ _
  have TY : Hid (VAt W3 (.agg #[.slice ya nq yc, .slice ya' mq yc']) D) := VAt.below m3 q3
  have g3 : Below w1.heap.size w1 W3 := Below.comp (Below.comp b2 b3) q3
  have HZ3 : Hid (w3.heap.size = E3 ∧ E3 + 1 ≤ W3.heap.size) := ⟨hE3, box_lt Y3.out⟩
  clear m3
  go_wp2_with fail
  refine (cT _ (HC.out _ g3)).mono ?_
  rintro e w4 ⟨b4, za, zc, rfl, m4⟩
  have HM4 : Hid (Mine w4 W3.heap.size w4.heap.size 9 n za (strs n S)) := m4
  clear m4 hW3
  go_wp2_with fail
  refine (cI _ _ _ (mine_at HM4.out)).mono ?_
  rintro e w5 ⟨b5, y, rfl, m5⟩
  obtain ⟨ga, gc, ga', gc', ey⟩ := HFD.out _ _ _ _ m5
  subst ey
  obtain ⟨E5, hE5⟩ : ∃ E, w5.heap.size = E := ⟨_, rfl⟩
  obtain ⟨W5, hW5⟩ : ∃ W5, w5.alloc (.cells #[.slice ga nq gc, .slice ga' mq gc'] 40) = W5 := ⟨_, rfl⟩
  have q5 : Below w5.heap.size w5 W5 := by subst hW5; exact below_alloc _ _
  have G5 : Hid (W5.heap[E5]? = some (.cells #[.slice ga nq gc, .slice ga' mq gc'] 40 (0, 0))) := by subst hW5 hE5; exact al1 _ _
  have TG : Hid (VOwn W5 w4.heap.size w5.heap.size (.agg #[.slice ga nq gc, .slice ga' mq gc']) D) := VOwn.below m5 q5
  have b45 := Below.comp b5 q5
  have b35 : Below W3.heap.size W3 W5 := Below.comp b4 b45
  have HZ5 : Hid (w5.heap.size = E5 ∧ E5 + 1 ≤ W5.heap.size ∧ w4.heap.size ≤ w5.heap.size ∧ W3.heap.size ≤ w4.heap.size) := ⟨hE5, box_lt G5.out, b5.size, b4.size⟩
  have HM5 : Hid (Mine W5 W3.heap.size w4.heap.size 9 n za (strs n S)) := Mine.on HM4.out b45
  clear m5
  obtain ⟨y0, y1, -, -⟩ := box2_cells (box_on Y3.out b35)
  obtain ⟨z0, z1, -, -⟩ := box2_cells G5.out
  go_wp2_with fail
  refine (cEE _ _ _ (VOwn.at_ TG.out) (VAt.below TY.out b35)).mono ?_
  rintro e w6 ⟨rfl, b6⟩
  clear y0 y1 z0 z1 hW5
  have g6 := Below.comp g3 (Below.comp b35 b6)
  go_wp2_with fail
  refine (cT _ (HC.out _ g6)).mono ?_
  rintro e w7 ⟨b7, xa, xc, rfl, m7⟩
  go_wp2_with fail
  refine (cQ _ _ _ _ _ (mine_at (Mine.on HM5.out (Below.comp b6 b7))) (mine_at m7)).mono ?_
  rintro e w8 ⟨rfl, b8⟩
  have b58 : Below W5.heap.size W5 w8 := Below.comp (Below.comp b6 b7) b8
  clear m7
  go_wp2_with fail
  refine (cMs W3.heap.size w4.heap.size _ _ _ (Mine.on HM5.out b58)).mono ?_
  rintro e w9 ⟨rfl, o9, -⟩
  have HZ8 : Hid (W5.heap.size ≤ w8.heap.size ∧ w8.heap.size ≤ w9.heap.size) := ⟨b58.size, o9.size⟩
  have B39 : Hid (Below W3.heap.size W3 w9) := (Below.comp b35 b58).trans (o9.below (by have := HZ5.out; have := HZ8.out; omega))
  have G9 : Hid (w9.heap[E5]? = some (.cells #[.slice ga nq gc, .slice ga' mq gc'] 40 (0, 0))) := box_out (box_on G5.out b58) o9 (by have := HZ5.out; omega)
  have TG9 : Hid (VOwn w9 w4.heap.size w5.heap.size (.agg #[.slice ga nq gc, .slice ga' mq gc']) D) := VOwn.out (VOwn.below TG.out b58) o9 (.inr (Nat.le_refl _))
  have Y9 : Hid (w9.heap[E3]? = some (.cells #[.slice ya nq yc, .slice ya' mq yc'] 40 (0, 0))) := box_on Y3.out B39.out
  clear o9
  obtain ⟨y0, y1, -, -⟩ := box2_cells Y9.out
  obtain ⟨z0, z1, -, -⟩ := box2_cells G9.out
  go_wp2_with fail
  refine (cEE _ _ _ (VOwn.at_ TG9.out) (VAt.below TY.out B39.out)).mono ?_
  rintro e w10 ⟨rfl, b10⟩
  clear y0 y1 z0 z1
  obtain ⟨z0, z1, -, -⟩ := box2_cells (box_on G9.out b10)
  go_wp2_with fail
  refine (cMD w4.heap.size w5.heap.size _ _ (VOwn.below TG9.out b10)).mono ?_
  rintro e w11 ⟨rfl, ⟨U, hU, hUo⟩, tg⟩
  clear z0 z1
  have b9U := Below.comp b10 hU
  have B11 : Hid (Below W3.heap.size W3 w11) := (B39.out.trans (b9U.mono B39.out.size)).trans ((hUo.below (by have := HZ5.out; have := HZ8.out; have := b9U.size; omega)).mono (by have := HZ5.out; omega))
  have G11 : Hid (w11.heap[E5]? = some (.cells #[.slice ga nq gc, .slice ga' mq gc'] 40 (0, 0))) := box_out (box_on G9.out b9U) hUo (by have := HZ5.out; omega)
  have TG11 : Hid (VOwn w11 w4.heap.size w5.heap.size (.agg #[.slice ga nq gc, .slice ga' mq gc']) (mkV 1 D)) := tg
  have Y11 : Hid (w11.heap[E3]? = some (.cells #[.slice ya nq yc, .slice ya' mq yc'] 40 (0, 0))) := box_on Y3.out B11.out
  have g11 : Below w1.heap.size w1 w11 := g3.trans (B11.out.mono g3.size)
  clear hUo hU tg
  obtain ⟨z0, z1, -, -⟩ := box2_cells G11.out
  go_wp2_with fail
  refine (cHD _ _ (VOwn.at_ TG11.out)).mono ?_
  rintro e w12 ⟨rfl, b12⟩
  clear z0 z1
  have g12 := Below.comp g11 b12
  go_wp2_with fail
  refine (cT _ (HC.out _ g12)).mono ?_
  rintro e w13 ⟨b13, xa', xc', rfl, m13⟩
  go_wp2_with fail
  refine (cI _ _ _ (mine_at m13)).mono ?_
  rintro e w14 ⟨b14, y, rfl, m14⟩
  obtain ⟨ha, hc, ha', hc', ey⟩ := HFD.out _ _ _ _ m14
  subst ey
  obtain ⟨E14, hE14⟩ : ∃ E, w14.heap.size = E := ⟨_, rfl⟩
  obtain ⟨W14, hW14⟩ : ∃ W14, w14.alloc (.cells #[.slice ha nq hc, .slice ha' mq hc'] 40) = W14 := ⟨_, rfl⟩
  have q14 : Below w14.heap.size w14 W14 := by subst hW14; exact below_alloc _ _
  have X14 : Hid (W14.heap[E14]? = some (.cells #[.slice ha nq hc, .slice ha' mq hc'] 40 (0, 0))) := by subst hW14 hE14; exact al1 _ _
  have TX : Hid (VAt W14 (.agg #[.slice ha nq hc, .slice ha' mq hc']) D) := VAt.below (VOwn.at_ m14) q14
  have b1114 := Below.comp b12 (Below.comp (Below.comp b13 b14) q14)
  obtain ⟨x0, x1, -, -⟩ := box2_cells X14.out
  obtain ⟨y0, y1, -, -⟩ := box2_cells (box_on Y11.out b1114)
  clear m13 m14
  go_wp2_with fail
  refine (cEE _ _ _ TX.out (VAt.below TY.out (B11.out.trans (b1114.mono B11.out.size)))).mono ?_
  rintro e w15 ⟨rfl, b15⟩
  clear x0 x1 y0 y1 hW14
  have b1115 := Below.comp b1114 b15
  obtain ⟨z0, z1, -, -⟩ := box2_cells (box_on G11.out b1115)
  go_wp2_with fail
  refine (cHD _ _ (VAt.below (VOwn.at_ TG11.out) b1115)).mono ?_
  rintro e w16 ⟨rfl, b16⟩
  clear z0 z1
  have gE := Below.comp g11 (Below.comp b1115 b16)
  go_wp2_with fail
  go_ret
  exact ⟨rfl, gE⟩
end Go.Proofs.Ytnanemkmmokdfaa
