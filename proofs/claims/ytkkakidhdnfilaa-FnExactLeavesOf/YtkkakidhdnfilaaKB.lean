import Derived.Test.YtkkakidhdnfilaaMC2
import Derived.Test.YtkkakidhdnfilaaV9
/- The law of LeavesOf. -/
namespace Go.Proofs.Ytkkakidhdnfilaa
open Go.ChangeShapes Go.WideShapes Go.ChangeAt Go.RowKit
set_option linter.unusedVariables false
open Hd

attribute [local go_sem] Oper.semAt_some

theorem Strs.on {w w' : World} {a : Option Addr} {l : List ByteArray} (h : Strs w a l) (hb : Below w.heap.size w w') : Strs w' a l := At.below h hb
theorem Mine.on {w w' : World} {B C : Nat} {e : TypeId} {n : Nat} {a : Option Addr} {p : Array Value → Prop} (h : Mine w B C e n a p) (hb : Below w.heap.size w w') : Mine w' B C e n a p :=
  h.out (Out.of_below (B := 0) (C := 0) hb) (.inr (Nat.zero_le _))
theorem mine_at {w : World} {B C n : Nat} {a : Option Addr} {S : Nat → ByteArray} (h : Mine w B C 9 n a (strs n S)) : At w a n fun i => .string (S i) := by
  intro hn
  rcases h with h0 | ⟨b, c, -, -, rfl, h4, h5⟩
  · exact absurd h0 hn
  · exact ⟨b, 0, rfl, fun i hi => by rw [Nat.zero_add]; exact cell_of_block h4 (h5 i hi)⟩
theorem own_mine {w : World} {B : Nat} {v : Value} {l : List ByteArray} (h : OwnS w B v l) : ∃ a c, v = .slice a l.length c ∧ Mine w B w.heap.size 9 l.length a (strs l.length (gs l)) ∧ Strs w a l := by
  obtain ⟨a, c, e, -, hs⟩ := OwnS.strs h
  refine ⟨a, c, e, ?_, hs⟩
  rcases h.2 with ⟨rfl, h2⟩ | ⟨g, cap, cur, rfl, hb, hg, hc, hm, hcs, ht⟩
  · exact .inl h2
  · simp only [Value.slice.injEq] at e
    refine .inr ⟨g, cur, hb, box_lt hg, e.1.symm, hg, fun i hi => ?_⟩
    have k := css_at hi
    rw [← ht, List.getElem?_take, if_pos (by omega)] at k
    simpa using k
theorem lvL_few (c : Co) (x : Int) : (lvL c x).length ≤ 4194304 := by
  cases h : lvB c x with
  | true =>
    obtain ⟨-, -, -, h3, h4⟩ := gI_few' (lvB_parts h).1
    rw [(lvL_len h).1]
    have := pow_lt (lv1 c) (by unfold lv1; omega)
    omega
  | false => unfold lvL; rw [h]; simp
set_option maxHeartbeats 8000000 in
theorem lawLeavesOf (v : Value) (c : Co) (x1 : Int) (L : List ByteArray) (X : Bool) (w : World) (hf : FewW c) (hD : CowAt w v c) (hL : L.length ≤ 4194304)
    (hS : Sml c → ∀ W x, CowAt W x c → Calls Try.prog 26 #[x, .int .i64 x1] W (fun e w' => Below W.heap.size W w' ∧ ∃ u, e = .returned (.tuple #[u, .bool X]) ∧ OwnS w' W.heap.size u L))
    (hP : Sml c → ∀ W x, CowAt W x c → Calls Try.prog 27 #[x, .int .i64 x1] W (fun e w' => Below W.heap.size W w' ∧ ∃ u, e = .returned (.tuple #[u, .bool X]) ∧ OwnS w' W.heap.size u L)) :
    Calls Try.prog 8 #[v, .int .i64 x1] w fun e w' => e = .returned (.bool true) ∧ Below w.heap.size w w' := by
  have HK : Hid (Sml c → kW 1 c ≤ 100000000) := fun h => by
    obtain ⟨u1, u2, u3⟩ := h
    unfold kW kC
    omega
  have HLl : Hid (L.length ≤ 4194304) := hL
  obtain ⟨a, k, a', k', rfl, h1, h2, ha, ha'⟩ := hD
  have HD : Hid (∀ W, Below w.heap.size w W → CowAt W (kv a c.cs.length k a' c.rs.length k' c.lv) c) := fun W h => ⟨a, k, a', k', rfl, h1, h2, ha.below h, ha'.below h⟩
  clear ha ha' h1 h2
  have cS := fun W h => szCow_left (kv a c.cs.length k a' c.rs.length k' c.lv) c W hf h
  have cE := fun W x x' h h' => eqCow_same x x' c W hf h h'
  have HForm : Hid (∀ W B C x, WOwn W B C x c → ∃ p n q p' n' q', x = kv p n q p' n' q' c.lv) := fun W B C x h => by
    obtain ⟨p, q, p', q', e, -⟩ := h.at_
    exact ⟨_, _, _, _, _, _, e⟩
  have HT : Hid (Sml c → ∀ W, CowAt W (kv a c.cs.length k a' c.rs.length k' c.lv) c → Calls Try.prog 18 #[kv a c.cs.length k a' c.rs.length k' c.lv] W fun e w' => Below W.heap.size W w' ∧ ∃ v', e = .returned v' ∧ WOwn w' W.heap.size w'.heap.size v' c) := fun hs W h => toCow_any _ c W hs h
  have HS : Hid _ := hS
  have HP : Hid _ := hP
  clear hf hS hP hL
  unfold kv at *
  generalize c.cs.length = n at *
  generalize c.rs.length = m at *
  generalize c.lv = lv at *
  obtain ⟨W0, hW0⟩ : ∃ W0, w.alloc (.cells #[.slice a n k, .slice a' m k', .int .i64 lv] 33) = W0 := ⟨_, rfl⟩
  have q0 : Below w.heap.size w W0 := by subst hW0; exact below_alloc _ _
  have HA : Hid (W0.heap[w.heap.size]? = some (.cells #[.slice a n k, .slice a' m k', .int .i64 lv] 33 (0, 0))) := by subst hW0; exact al1 _ _
  obtain ⟨x0, x1', x2'⟩ := box3_one HA.out
  go_enter Try.func8, Try.ntmps8
  go_wp2_with fail
  refine (cS _ (HD.out _ q0)).mono ?_
  rintro e w1 ⟨b1, r, rfl, -, hr⟩
  have g1 := Below.comp q0 b1
  clear cS x0 x1' x2' hW0
  obtain ⟨x0, x1', x2'⟩ := box3_one (box_on HA.out b1)
  by_cases hr0 : r < 0
  · go_wp2_with fail
    go_ret
    exact ⟨rfl, g1⟩
  · have hsml : Sml c := by rcases hr with h | h; exact absurd h hr0; exact h
    have cT := HT.out hsml
    have cP := HS.out hsml
    have cI := HP.out hsml
    have hkD : kW 1 c ≤ 100000000 := HK.out hsml
    have hLl : L.length ≤ 4194304 := HLl.out
    have cM := fun B C W x h => markCow_any B C x c 1 W (by omega) hkD h
    clear hr HT HS HP HK hsml
    have hX : (X != X) = false := by cases X <;> rfl
    have cQ := fun W x c x' c' h h' => eqStringS_any x x' L.length c c' (gs L) W (by omega) h h'
    have cK := fun B C W x c h => markStringS_any B C x L.length c (gs L) 1 W (by omega) (by omega) h
    have cH := fun W x c h => heldStringS_any x L.length c 1 W (by omega) (by omega) h
    have hK0 : decide (((kW 1 c : Nat) : Int) < 0) = false := by simp
    have hJ0 : decide ((((1 + L.length : Nat)) : Int) < 0) = false := by simp; omega
    have hJJ : ((((1 + L.length : Nat)) : Int) != ((1 + L.length : Nat) : Int)) = false := by simp
    generalize ((kW 1 c : Nat) : Int) = K at *
    generalize (((1 + L.length : Nat)) : Int) = J at *
    rw [show (((1 : Nat)) : Int) = 1 from rfl] at *
    go_wp2_with fail
    refine (cT _ (HD.out _ g1)).mono ?_
    rintro e w2 ⟨b2, y, rfl, m2⟩
    obtain ⟨p1, n1, c1, p1', n1', c1', ey⟩ := HForm.out _ _ _ _ m2
    subst ey
    go_wp2_with fail
    refine (cP _ _ m2.at_).mono ?_
    rintro e w3 ⟨b3, ev, rfl, he0⟩
    obtain ⟨ea, ec, rfl, -, hes⟩ := OwnS.strs he0
    have HE : Hid (Strs w3 ea L) := hes
    have b13 := Below.comp b2 b3
    have g3 := Below.comp g1 b13
    clear x0 x1' x2' m2 he0 hes
    obtain ⟨x0, x1', x2'⟩ := box3_one (box_on HA.out (Below.comp b1 b13))
    go_wp2_with fail
    refine (cT _ (HD.out _ g3)).mono ?_
    rintro e w4 ⟨b4, z, rfl, m4⟩
    obtain ⟨p2, n2, c2, p2', n2', c2', ez⟩ := HForm.out _ _ _ _ m4
    subst ez
    have g4 := Below.comp g3 b4
    obtain ⟨W4, hW4⟩ : ∃ W4, w4.alloc (.cells #[.slice p2 n2 c2, .slice p2' n2' c2', .int .i64 lv] 25) = W4 := ⟨_, rfl⟩
    have q4 : Below w4.heap.size w4 W4 := by subst hW4; exact below_alloc _ _
    have HZ : Hid (W4.heap[w4.heap.size]? = some (.cells #[.slice p2 n2 c2, .slice p2' n2' c2', .int .i64 lv] 25 (0, 0))) := by subst hW4; exact al1 _ _
    obtain ⟨u0, u1, u2⟩ := box3_one HZ.out
    have M4 : Hid (WOwn W4 w3.heap.size w4.heap.size (.agg #[.slice p2 n2 c2, .slice p2' n2' c2', .int .i64 lv]) c) := m4.below q4
    have b04 : Below W0.heap.size W0 W4 := Below.comp (Below.comp b1 b13) (Below.comp b4 q4)
    clear x0 x1' x2' m4
    go_wp2_with fail
    refine (cI _ _ M4.out.at_).mono ?_
    rintro e w5 ⟨b5, gv, rfl, hg⟩
    obtain ⟨ga, gc, rfl, hgm, hgs⟩ := own_mine hg
    have HG5 : Hid (Mine w5 W4.heap.size w5.heap.size 9 L.length ga (strs L.length (gs L))) := hgm
    have E5 : Hid (Strs w5 ea L) := Strs.on HE.out (Below.comp b4 (Below.comp q4 b5))
    have I5 : Hid (Strs w5 ga L) := hgs
    clear u0 u1 u2 hW4 hg hgm hgs
    have g5 := Below.comp g4 (Below.comp q4 b5)
    go_wp2_with fail
    refine (cQ _ ga gc ea ec I5.out E5.out).mono ?_
    rintro e w6 ⟨rfl, b6⟩
    have g6 := Below.comp g5 b6
    obtain ⟨u0, u1, u2⟩ := box3_one (box_on HZ.out (Below.comp b5 b6))
    obtain ⟨x0, x1', x2'⟩ := box3_one (box_on HA.out (Below.comp b04 (Below.comp b5 b6)))
    have M6 : Hid (WOwn w6 w3.heap.size w4.heap.size (.agg #[.slice p2 n2 c2, .slice p2' n2' c2', .int .i64 lv]) c) := M4.out.below (Below.comp b5 b6)
    have SB : Hid (∀ W, Below w6.heap.size w6 W → W.cell? ⟨w.heap.size, 0, none⟩ = some (.slice a n k) ∧ W.cell? ⟨w.heap.size, 1, none⟩ = some (.slice a' m k') ∧ W.cell? ⟨w.heap.size, 2, none⟩ = some (.int .i64 lv) ∧ W.cell? ⟨w4.heap.size, 0, none⟩ = some (.slice p2 n2 c2) ∧ W.cell? ⟨w4.heap.size, 1, none⟩ = some (.slice p2' n2' c2') ∧ W.cell? ⟨w4.heap.size, 2, none⟩ = some (.int .i64 lv) ∧ Below w6.heap.size w6 W) := fun W g => ⟨cell_on x0 g, cell_on x1' g, cell_on x2' g, cell_on u0 g, cell_on u1 g, cell_on u2 g, g⟩
    go_wp2_with fail
    clear x0 x1' x2' u0 u1 u2
    go_region_held3 (fun W => W.cell? ⟨w.heap.size, 0, none⟩ = some (.slice a n k) ∧ W.cell? ⟨w.heap.size, 1, none⟩ = some (.slice a' m k') ∧ W.cell? ⟨w.heap.size, 2, none⟩ = some (.int .i64 lv) ∧ W.cell? ⟨w4.heap.size, 0, none⟩ = some (.slice p2 n2 c2) ∧ W.cell? ⟨w4.heap.size, 1, none⟩ = some (.slice p2' n2' c2') ∧ W.cell? ⟨w4.heap.size, 2, none⟩ = some (.int .i64 lv) ∧ Below w6.heap.size w6 W)
      ((refine SB.out _ ?_; first | assumption | exact Below.drew (Below.refl _ _)))
      (first
      | (go_at_call 18; obtain ⟨-, -, -, -, -, -, hw0⟩ := ‹_ ∧ _ ∧ _ ∧ _ ∧ _ ∧ _ ∧ Below w6.heap.size w6 _›; refine (cT _ (HD.out _ (Below.comp g6 hw0))).mono ?_; rintro e w7 ⟨b7, t, rfl, m7⟩; obtain ⟨p3, n3, c3, p3', n3', c3', et⟩ := HForm.out _ _ _ _ m7; subst et; have hb7 := Below.comp hw0 b7; have M7 : Hid (CowAt w7 (.agg #[.slice p3 n3 c3, .slice p3' n3' c3', .int .i64 lv]) c) := m7.at_; clear m7)
      | (go_at_call 13; refine (cE _ _ _ (CowAt.below M6.out.at_ hb7) M7.out).mono ?_; rintro e w8 ⟨rfl, b8⟩; have hb8 := Below.comp hb7 b8))
    all_goals (
      have b58 := Below.comp b6 hb8
      obtain ⟨u0, u1, u2⟩ := box3_one (box_on HZ.out (Below.comp b5 b58))
      have M8 : Hid (WOwn w8 w3.heap.size w4.heap.size (.agg #[.slice p2 n2 c2, .slice p2' n2' c2', .int .i64 lv]) c) := M4.out.below (Below.comp b5 b58)
      have hz4 : w4.heap.size ≤ w8.heap.size := Nat.le_trans q4.size (Below.comp b5 b58).size
      have hz34 : w3.heap.size ≤ w4.heap.size := b4.size
      have hz45 : w4.heap.size + 1 ≤ W4.heap.size := box_lt HZ.out
      have hz03 : w.heap.size + 1 ≤ w3.heap.size := Nat.le_trans (box_lt HA.out) (Below.comp b1 b13).size
      have HZ34 : Hid _ := hz34
      have HZ45 : Hid _ := hz45
      have HZ03 : Hid _ := hz03
      clear hz34 hz45 hz03
      go_wp2_with fail
      refine (cM w3.heap.size w4.heap.size _ _ M8.out).mono ?_
      rintro e w9 ⟨rfl, ⟨V, hV, hVo⟩, -⟩
      have k9 : Below w3.heap.size w8 w9 := (hV.mono (Nat.le_trans HZ34.out hz4)).trans (hVo.below (Nat.le_trans HZ34.out (Nat.le_trans hz4 hV.size)))
      have b38 : Below w3.heap.size w3 w8 := Below.comp b4 (Below.comp q4 (Below.comp b5 b58))
      have b39 : Below w3.heap.size w3 w9 := b38.trans k9
      have E9 : Hid (Strs w9 ea L) := Strs.on HE.out b39
      have G9 : Hid (Mine w9 W4.heap.size w5.heap.size 9 L.length ga (strs L.length (gs L))) := (Mine.on (Mine.on HG5.out b58) hV).out hVo (.inr (by have := HZ45.out; omega))
      have I9 : Hid (Strs w9 ga L) := mine_at G9.out
      have A3 : Hid (w3.heap[w.heap.size]? = some (.cells #[.slice a n k, .slice a' m k', .int .i64 lv] 33 (0, 0))) := box_on HA.out (Below.comp b1 b13)
      have n9 : Below w3.heap.size w3 w9 := b39
      clear u0 u1 u2
      go_wp2_with fail
      refine (cQ _ ga gc ea ec I9.out E9.out).mono ?_
      rintro e w10 ⟨rfl, b10⟩
      have n10 : Below w3.heap.size w3 w10 := n9.trans (b10.mono n9.size)
      have G10 : Hid (Mine w10 W4.heap.size w5.heap.size 9 L.length ga (strs L.length (gs L))) := Mine.on G9.out b10
      go_wp2_with fail
      refine (cK W4.heap.size w5.heap.size _ ga gc G10.out).mono ?_
      rintro e w11 ⟨rfl, o11, G11⟩
      have n11 : Below w3.heap.size w3 w11 := n10.trans ((o11.mono (B' := w3.heap.size) (by have := HZ45.out; have := HZ34.out; omega) (Nat.le_refl _)).below n10.size)
      have g11 : Below w.heap.size w w11 := g3.trans (n11.mono (Nat.le_trans (Nat.le_of_lt (Nat.lt_of_succ_le HZ03.out)) (Nat.le_refl _)))
      have I11 : Hid (At w11 ga L.length fun i => .string (Go.Proofs.Ytkkakidhdnfilaa.mk 1 i)) := mine_at G11
      have E11 : Hid (Strs w11 ea L) := Strs.on HE.out n11
      have A11 := box_on A3.out n11
      obtain ⟨x0, x1', x2'⟩ := box3_one A11
      clear G11 A11
      go_wp2_with fail
      refine (cH _ ga gc I11.out).mono ?_
      rintro e w12 ⟨rfl, b12⟩
      have g12 := Below.comp g11 b12
      have E12 : Hid (Strs w12 ea L) := Strs.on E11.out b12
      clear x0 x1' x2'
      obtain ⟨x0, x1', x2'⟩ := box3_one (box_on (box_on A3.out n11) b12)
      go_wp2_with fail
      refine (cT _ (HD.out _ g12)).mono ?_
      rintro e w13 ⟨b13', y', rfl, m13⟩
      obtain ⟨p4, n4, c4, p4', n4', c4', ey'⟩ := HForm.out _ _ _ _ m13
      subst ey'
      go_wp2_with fail
      refine (cI _ _ m13.at_).mono ?_
      rintro e w14 ⟨b14, gv', rfl, hg'⟩
      obtain ⟨a1, c1, rfl, -, i14⟩ := OwnS.strs hg'
      have b1114 := Below.comp b13' b14
      have E14 : Hid (Strs w14 ea L) := Strs.on E12.out b1114
      have I14 : Hid (Strs w14 a1 L) := i14
      clear x0 x1' x2' hg' i14
      go_wp2_with fail
      refine (cQ _ a1 c1 ea ec I14.out E14.out).mono ?_
      rintro e w15 ⟨rfl, b15⟩
      have b1115 := Below.comp b1114 b15
      go_wp2_with fail
      refine (cH _ ga gc (At.below I11.out (Below.comp b12 b1115))).mono ?_
      rintro e w16 ⟨rfl, b16⟩
      go_wp2_with fail
      go_ret
      exact ⟨rfl, Below.comp g12 (Below.comp b1115 b16)⟩)
end Go.Proofs.Ytkkakidhdnfilaa
