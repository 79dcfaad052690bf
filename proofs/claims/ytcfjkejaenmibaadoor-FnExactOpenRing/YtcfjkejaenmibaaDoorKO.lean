import Derived.Test.YtcfjkejaenmibaaDoorL3
import Derived.Test.YtcfjkejaenmibaaDoorH1
/- The law of OpenRing, over any two sides that tell the same ring. -/
namespace Go.Proofs.YtcfjkejaenmibaaDoor
open Go.ChangeShapes Go.WideShapes Go.ChangeAt Go.RowKit
set_option linter.unusedVariables false
open Lg

attribute [local go_sem] Oper.semAt_some

set_option maxRecDepth 20000 in
set_option maxHeartbeats 8000000 in
theorem lawOpen_of (a : Option Addr) (c : Nat) (l : List Sl) (w : World) (hn : l.length ≤ 9223372036854775807) (hf : ∀ i, i < l.length → Few (gs l i)) (ha : Sls w a l) (LA : List Sl) (HQ CQ TQ : Int) (O : Bool) (hLA : l.length ≤ 1048576 → LA.length ≤ 1048576)
    (hP : l.length ≤ 1048576 → (∀ W x, Below w.heap.size w W → RowS W x l.length (gs l) → Calls Tryd.prog 36 #[.slice x l.length l.length] W fun e w' => Below W.heap.size W w' ∧ ∃ v, e = .returned (.tuple #[v, .bool O]) ∧ ROwn w' W.heap.size w'.heap.size v LA HQ CQ TQ)) (hI : l.length ≤ 1048576 → (∀ W x, Below w.heap.size w W → RowS W x l.length (gs l) → Calls Tryd.prog 38 #[.slice x l.length l.length] W fun e w' => Below W.heap.size W w' ∧ ∃ v, e = .returned (.tuple #[v, .bool O]) ∧ ROwn w' W.heap.size w'.heap.size v LA HQ CQ TQ)) :
    Calls Tryd.prog 10 #[.slice a l.length c] w fun e w' => e = .returned (.bool true) ∧ Below w.heap.size w w' := by
  have HS : Hid (l.length ≤ 1048576 → (∀ W x, Below w.heap.size w W → RowS W x l.length (gs l) → Calls Tryd.prog 36 #[.slice x l.length l.length] W fun e w' => Below W.heap.size W w' ∧ ∃ v, e = .returned (.tuple #[v, .bool O]) ∧ ROwn w' W.heap.size w'.heap.size v LA HQ CQ TQ) ∧ (∀ W x, Below w.heap.size w W → RowS W x l.length (gs l) → Calls Tryd.prog 38 #[.slice x l.length l.length] W fun e w' => Below W.heap.size W w' ∧ ∃ v, e = .returned (.tuple #[v, .bool O]) ∧ ROwn w' W.heap.size w'.heap.size v LA HQ CQ TQ) ∧ LA.length ≤ 1048576) := fun q => ⟨hP q, hI q, hLA q⟩
  have HR : Hid (RowS w a l.length (gs l)) := ha
  have HF : Hid _ := hf
  clear ha hf hP hI hLA
  unfold ROwn at HS
  generalize gs LA = gq at *
  generalize LA.length = nq at *
  generalize gs l = g at *
  generalize l.length = n at *
  have hOO : (O != O) = false := by cases O <;> rfl
  have cS := szSlotS_any a n c g 1048576 w hn HF.out (by omega) (by omega) HR.out
  go_enter Tryd.func10, Tryd.ntmps10
  go_wp2_with fail
  refine cS.mono ?_
  rintro e w1 ⟨b1, r, rfl, hr⟩
  clear cS
  by_cases hr0 : r < 0
  · go_wp2_with fail
    go_ret
    exact ⟨rfl, b1⟩
  have hs : n ≤ 1048576 := hr.resolve_left hr0
  obtain ⟨cP, cI, hnq⟩ := HS.out hs
  have cT := fun W q => toSlotS_any a n c g W hs q
  have cE := fun W x x' k k' q q' => eqSlotS_same x x' n k k' g W (by omega) q q'
  have cEE := fun W x x' k k' q q' => eqRing_same x x' nq k k' HQ CQ TQ gq W (by omega) q q'
  have cMd := fun B C W x k q => markSlotS_any B C x n k g 1 W (by omega) (by omega) q
  have cMD := fun B C W x k q => markRing_any B C x nq k HQ CQ TQ gq 1 W (by omega) (by omega) q
  have cHD := fun W x k q => heldRing_any x nq k HQ CQ TQ 1 W (by omega) (by omega) q
  have hJ0 : decide (((1 + nq * 4 : Nat) : Int) < 0) = false := by simp; omega
  have hJJ : (((1 + nq * 4 : Nat) : Int) != ((1 + nq * 4 : Nat) : Int)) = false := by simp
  have hK0 : decide (((1 + n * 4 : Nat) : Int) < 0) = false := by simp; omega
  generalize ((1 + nq * 4 : Nat) : Int) = J at *
  generalize ((1 + n * 4 : Nat) : Int) = JK at *
  rw [show (((1 : Nat)) : Int) = 1 from rfl] at *
  clear hr HS HF
  go_wp2_with fail
  refine (cT _ (RowS.below HR.out b1)).mono ?_
  rintro e w2 ⟨b2, ta, rfl, m2⟩
  have g2 := Below.comp b1 b2
  go_wp2_with fail
  refine (cP _ _ g2 (MineS.row m2)).mono ?_
  rintro e w3 ⟨b3, v, rfl, ya, yc, rfl, -, m3⟩
  obtain ⟨E3, hE3⟩ : ∃ E, w3.heap.size = E := ⟨_, rfl⟩
  obtain ⟨W3, hW3⟩ : ∃ W3, w3.alloc (.cells #[.slice ya nq yc, .int .i64 HQ, .int .i64 CQ, .int .i64 TQ] 24) = W3 := ⟨_, rfl⟩
  have q3 : Below w3.heap.size w3 W3 := by subst hW3; exact below_alloc _ _
  have Y3 : Hid (W3.heap[E3]? = some (.cells #[.slice ya nq yc, .int .i64 HQ, .int .i64 CQ, .int .i64 TQ] 24 (0, 0))) := by subst hW3 hE3; exact al1 _ _
  have TY : Hid (MineS W3 w2.heap.size w3.heap.size ya nq gq) := Mine.below m3 q3
  have g3 := Below.comp g2 (Below.comp b3 q3)
  have HZ3 : Hid (w3.heap.size = E3 ∧ E3 + 1 ≤ W3.heap.size ∧ w.heap.size ≤ w2.heap.size ∧ w2.heap.size ≤ w3.heap.size) := ⟨hE3, box_lt Y3.out, g2.size, b3.size⟩
  clear m2 m3
  go_wp2_with fail
  refine (cT _ (RowS.below HR.out g3)).mono ?_
  rintro e w4 ⟨b4, za, rfl, m4⟩
  have TZ : Hid (MineS w4 W3.heap.size w4.heap.size za n g) := m4
  have g4 := Below.comp g3 b4
  have Y4 : Hid (w4.heap[E3]? = some (.cells #[.slice ya nq yc, .int .i64 HQ, .int .i64 CQ, .int .i64 TQ] 24 (0, 0))) := box_on Y3.out b4
  have TY4 : Hid (MineS w4 w2.heap.size w3.heap.size ya nq gq) := Mine.below TY.out b4
  have HZ4 : Hid (W3.heap.size ≤ w4.heap.size) := b4.size
  clear m4 hW3
  go_wp2_with fail
  refine (cI _ _ g4 (MineS.row TZ.out)).mono ?_
  rintro e w5 ⟨b5, v, rfl, ga, gc, rfl, -, m5⟩
  obtain ⟨E5, hE5⟩ : ∃ E, w5.heap.size = E := ⟨_, rfl⟩
  obtain ⟨W5, hW5⟩ : ∃ W5, w5.alloc (.cells #[.slice ga nq gc, .int .i64 HQ, .int .i64 CQ, .int .i64 TQ] 24) = W5 := ⟨_, rfl⟩
  have q5 : Below w5.heap.size w5 W5 := by subst hW5; exact below_alloc _ _
  have G5 : Hid (W5.heap[E5]? = some (.cells #[.slice ga nq gc, .int .i64 HQ, .int .i64 CQ, .int .i64 TQ] 24 (0, 0))) := by subst hW5 hE5; exact al1 _ _
  have TG : Hid (MineS W5 w4.heap.size w5.heap.size ga nq gq) := Mine.below m5 q5
  have b45 := Below.comp b5 q5
  have g5 := Below.comp g4 b45
  have HZ5 : Hid (w5.heap.size = E5 ∧ E5 + 1 ≤ W5.heap.size ∧ w4.heap.size ≤ w5.heap.size) := ⟨hE5, box_lt G5.out, b5.size⟩
  have Q5 : Hid ((W5.heap[E3]? = some (.cells #[.slice ya nq yc, .int .i64 HQ, .int .i64 CQ, .int .i64 TQ] 24 (0, 0)) ∧ W5.heap[E5]? = some (.cells #[.slice ga nq gc, .int .i64 HQ, .int .i64 CQ, .int .i64 TQ] 24 (0, 0))) ∧ MineS W5 w2.heap.size w3.heap.size ya nq gq ∧ MineS W5 W3.heap.size w4.heap.size za n g ∧ MineS W5 w4.heap.size w5.heap.size ga nq gq) := ⟨⟨box_on Y4.out b45, G5.out⟩, Mine.below TY4.out b45, Mine.below TZ.out b45, TG.out⟩
  clear m5 b45 Y3 Y4 G5 TY TY4 TZ TG
  obtain ⟨y0, y1, y2, y3⟩ := box4_cells Q5.out.1.1
  obtain ⟨z0, z1, z2, z3⟩ := box4_cells Q5.out.1.2
  go_wp2_with fail
  refine (cEE _ _ _ _ _ (MineS.row Q5.out.2.2.2) (MineS.row Q5.out.2.1)).mono ?_
  rintro e w6 ⟨rfl, b6⟩
  clear y0 y1 y2 y3 z0 z1 z2 z3 hW5
  have g6 := Below.comp g5 b6
  go_wp2_with fail
  refine (cT _ (RowS.below HR.out g6)).mono ?_
  rintro e w7 ⟨b7, tt, rfl, m7⟩
  have M7 : Hid (RowS w7 tt n g) := MineS.row m7
  clear m7
  have b57 := Below.comp b6 b7
  go_wp2_with fail
  refine (cE _ _ _ _ _ (RowS.below (MineS.row Q5.out.2.2.1) b57) M7.out).mono ?_
  rintro e w8 ⟨rfl, b8⟩
  have b58 := Below.comp b57 b8
  have g8 := Below.comp g5 b58
  go_wp2_with fail
  refine (cMd W3.heap.size w4.heap.size _ _ _ (Mine.below Q5.out.2.2.1 b58)).mono ?_
  rintro e w9 ⟨rfl, hVo, -⟩
  have HV : Hid (W5.heap.size ≤ w8.heap.size ∧ w8.heap.size ≤ w9.heap.size) := ⟨b58.size, hVo.size⟩
  have Q9 : Hid ((w9.heap[E3]? = some (.cells #[.slice ya nq yc, .int .i64 HQ, .int .i64 CQ, .int .i64 TQ] 24 (0, 0)) ∧ w9.heap[E5]? = some (.cells #[.slice ga nq gc, .int .i64 HQ, .int .i64 CQ, .int .i64 TQ] 24 (0, 0))) ∧ MineS w9 w2.heap.size w3.heap.size ya nq gq ∧ MineS w9 w4.heap.size w5.heap.size ga nq gq) := by
    have h3 := HZ3.out; have h4 := HZ4.out; have h5 := HZ5.out; have q := Q5.out
    exact ⟨⟨box_out (box_on q.1.1 b58) hVo (by omega), box_out (box_on q.1.2 b58) hVo (by omega)⟩, Mine.out (Mine.below q.2.1 b58) hVo (by omega), Mine.out (Mine.below q.2.2.2 b58) hVo (by omega)⟩
  have g9 : Below w.heap.size w w9 := by
    have h3 := HZ3.out; have h4 := HZ4.out; have h5 := HZ5.out; have h6 := HV.out
    exact g8.trans ((hVo.below (by omega)).mono (by omega))
  clear Q5 hVo
  obtain ⟨y0, y1, y2, y3⟩ := box4_cells Q9.out.1.1
  obtain ⟨z0, z1, z2, z3⟩ := box4_cells Q9.out.1.2
  go_wp2_with fail
  refine (cEE _ _ _ _ _ (MineS.row Q9.out.2.2) (MineS.row Q9.out.2.1)).mono ?_
  rintro e w10 ⟨rfl, b10⟩
  clear y0 y1 y2 y3 z0 z1 z2 z3
  obtain ⟨z0, z1, z2, z3⟩ := box4_cells (box_on Q9.out.1.2 b10)
  go_wp2_with fail
  refine (cMD w4.heap.size w5.heap.size _ _ _ (Mine.below Q9.out.2.2 b10)).mono ?_
  rintro e w11 ⟨rfl, hUo, tg⟩
  clear z0 z1 z2 z3
  have Q11 : Hid ((w11.heap[E3]? = some (.cells #[.slice ya nq yc, .int .i64 HQ, .int .i64 CQ, .int .i64 TQ] 24 (0, 0)) ∧ w11.heap[E5]? = some (.cells #[.slice ga nq gc, .int .i64 HQ, .int .i64 CQ, .int .i64 TQ] 24 (0, 0))) ∧ MineS w11 w2.heap.size w3.heap.size ya nq gq ∧ MineS w11 w4.heap.size w5.heap.size ga nq (mks 1)) := by
    have h3 := HZ3.out; have h4 := HZ4.out; have h5 := HZ5.out; have q := Q9.out
    exact ⟨⟨box_out (box_on q.1.1 b10) hUo (by omega), box_out (box_on q.1.2 b10) hUo (by omega)⟩, Mine.out (Mine.below q.2.1 b10) hUo (by omega), tg⟩
  have g11 : Below w.heap.size w w11 := by
    have h3 := HZ3.out; have h4 := HZ4.out; have h5 := HZ5.out; have h6 := HV.out; have h8 := b10.size
    exact (Below.comp g9 b10).trans ((hUo.below (by omega)).mono (by omega))
  clear Q9 hUo tg
  obtain ⟨z0, z1, z2, z3⟩ := box4_cells Q11.out.1.2
  go_wp2_with fail
  refine (cHD _ _ _ (MineS.row Q11.out.2.2)).mono ?_
  rintro e w12 ⟨rfl, b12⟩
  clear z0 z1 z2 z3
  have g12 := Below.comp g11 b12
  go_wp2_with fail
  refine (cT _ (RowS.below HR.out g12)).mono ?_
  rintro e w13 ⟨b13, ta', rfl, m13⟩
  go_wp2_with fail
  refine (cI _ _ (Below.comp g12 b13) (MineS.row m13)).mono ?_
  rintro e w14 ⟨b14, v, rfl, ha, hc, rfl, -, m14⟩
  obtain ⟨E14, hE14⟩ : ∃ E, w14.heap.size = E := ⟨_, rfl⟩
  obtain ⟨W14, hW14⟩ : ∃ W14, w14.alloc (.cells #[.slice ha nq hc, .int .i64 HQ, .int .i64 CQ, .int .i64 TQ] 24) = W14 := ⟨_, rfl⟩
  have q14 : Below w14.heap.size w14 W14 := by subst hW14; exact below_alloc _ _
  have X14 : Hid (W14.heap[E14]? = some (.cells #[.slice ha nq hc, .int .i64 HQ, .int .i64 CQ, .int .i64 TQ] 24 (0, 0))) := by subst hW14 hE14; exact al1 _ _
  have TX : Hid (RowS W14 ha nq gq) := RowS.below (MineS.row m14) q14
  have b1114 := Below.comp b12 (Below.comp (Below.comp b13 b14) q14)
  obtain ⟨x0, x1, x2, x3⟩ := box4_cells X14.out
  obtain ⟨y0, y1, y2, y3⟩ := box4_cells (box_on Q11.out.1.1 b1114)
  clear m13 m14
  go_wp2_with fail
  refine (cEE _ _ _ _ _ TX.out (RowS.below (MineS.row Q11.out.2.1) b1114)).mono ?_
  rintro e w15 ⟨rfl, b15⟩
  clear x0 x1 x2 x3 y0 y1 y2 y3 hW14
  have b1115 := Below.comp b1114 b15
  obtain ⟨z0, z1, z2, z3⟩ := box4_cells (box_on Q11.out.1.2 b1115)
  go_wp2_with fail
  refine (cHD _ _ _ (RowS.below (MineS.row Q11.out.2.2) b1115)).mono ?_
  rintro e w16 ⟨rfl, b16⟩
  clear z0 z1 z2 z3
  have gE := Below.comp g11 (Below.comp b1115 b16)
  go_wp2_with fail
  go_ret
  exact ⟨rfl, gE⟩
end Go.Proofs.YtcfjkejaenmibaaDoor
