import Derived.Test.YtggkpcgjmanelaaK1
import Derived.Test.YtggkpcgjmanelaaL7
import Derived.Test.YtggkpcgjmanelaaQ3
import Derived.Test.YtggkpcgjmanelaaQ4
/- The law of FromTo. -/
namespace Go.Proofs.Ytggkpcgjmanelaa
open Go.ChangeShapes Go.WideShapes Go.ChangeAt Go.RowKit
set_option linter.unusedVariables false
open Bt

attribute [local go_sem] Oper.semAt_some

set_option maxHeartbeats 8000000 in
theorem lawFrom (a : Option Addr) (N : List Nd) (cap : Nat) (root : Int) (fr to : Int) (w : World) (hf : Few N) (hN : Nodes w a N) (_hx : -9223372036854775808 ≤ fr ∧ fr ≤ 9223372036854775807) (_hy : -9223372036854775808 ≤ to ∧ to ≤ 9223372036854775807) :
    Calls Try.prog 10 #[tv a N.length cap root, .int .i64 fr, .int .i64 to] w fun e w' => e = .returned (.bool true) ∧ Below w.heap.size w w' := by
  obtain ⟨o, ho⟩ := good_or N root
  have hkl : (fOf fr to o).length ≤ 200 := specFrom_few o fr to (fun t ht => (is_small ((ho t).1 ht)).2)
  obtain ⟨W0, hW0⟩ : ∃ W0, w.alloc (.cells #[.slice a N.length cap, .int .i64 root] 47) = W0 := ⟨_, rfl⟩
  have q0 : Below w.heap.size w W0 := by subst hW0; exact below_alloc _ _
  have HA : Hid (W0.heap[w.heap.size]? = some (.cells #[.slice a N.length cap, .int .i64 root] 47 (0, 0))) := by subst hW0; exact al1 _ _
  obtain ⟨x0, x1, -, -⟩ := box2_cells HA.out
  have cS := szTree_any a N cap root W0 hf.1 hf.2 (hN.below q0)
  have HN : Hid (Nodes w a N) := hN
  clear hN
  go_enter Try.func10, Try.ntmps10
  go_wp2_with fail
  refine cS.mono ?_
  rintro e w1 ⟨b1, r, rfl, hr⟩
  have g1 := Below.comp q0 b1
  clear cS x0 x1 hW0
  obtain ⟨x0, x1, -, -⟩ := box2_cells (box_on HA.out b1)
  by_cases hr0 : r < 0
  · go_wp2_with fail
    go_ret
    exact ⟨rfl, g1⟩
  · obtain ⟨hn, hbk⟩ : N.length ≤ 1048576 ∧ bk N N.length ≤ 1048576 := by rcases hr with h | h; exact absurd h hr0; exact h
    have cT := fun W h => toTree_any a N cap root W hn hbk h
    have cP := fun W y c h => specFrom_any N y c root fr to o W h hn hbk ho
    have cI := fun W y c h => implFrom_any N y c root fr to o W h hn hbk ho
    have cE := fun W y c y' c' h h' => eqTree_same y y' N c c' root W hf.1 hf.2 h h'
    have cM := fun B C W y c h hC => markTree_any B C y c N root 1 W (by omega) h hC
    clear hr
    generalize hL : fOf fr to o = L at *
    clear hL
    generalize o.isSome = X at *
    have hX : (X != X) = false := by cases X <;> rfl
    have cQ := fun W x c x' c' h h' => eqIntS_same x x' c c' L W (by omega) h h'
    have cK := fun B C g W x c h => markIntS_any B C g x c L 1 W (by omega) h
    have cH := fun W x c h => heldIntS_any x c L.length 1 W (by omega) h
    have hK0 : decide ((((1 + N.length + bk N N.length : Nat)) : Int) < 0) = false := by simp; omega
    have hJ0 : decide ((((1 + L.length : Nat)) : Int) < 0) = false := by simp; omega
    have hJJ : ((((1 + L.length : Nat)) : Int) != ((1 + L.length : Nat) : Int)) = false := by simp
    have Hmk : Hid (L = [] ∨ mkl 1 L.length ≠ []) := by
      show _ ∨ _
      by_cases h : L = []
      · exact .inl h
      · exact .inr (mkl_ne (fun h0 => h (List.eq_nil_of_length_eq_zero h0)))
    generalize (((1 + N.length + bk N N.length : Nat)) : Int) = K at *
    generalize (((1 + L.length : Nat)) : Int) = J at *
    rw [show (((1 : Nat)) : Int) = 1 from rfl] at *
    go_wp2_with fail
    refine (cT _ (HN.out.below g1)).mono ?_
    rintro e w2 ⟨b2, y, cy, rfl, hcy, m2⟩
    go_wp2_with fail
    refine (cP _ y cy m2.nodes).mono ?_
    rintro e w3 ⟨b3, ev, rfl, ea, ec, rfl, hec, he0⟩
    have HE : Hid (Ints w3 ea L) := he0
    have b13 := Below.comp b2 b3
    have g3 := Below.comp g1 b13
    clear x0 x1 m2 he0
    obtain ⟨x0, x1, -, -⟩ := box2_cells (box_on HA.out (Below.comp b1 b13))
    go_wp2_with fail
    refine (cT _ (HN.out.below g3)).mono ?_
    rintro e w4 ⟨b4, z, cz, rfl, hcz, m4⟩
    have g4 := Below.comp g3 b4
    obtain ⟨W4, hW4⟩ : ∃ W4, w4.alloc (.cells #[.slice z N.length cz, .int .i64 root] 27) = W4 := ⟨_, rfl⟩
    have q4 : Below w4.heap.size w4 W4 := by subst hW4; exact below_alloc _ _
    have HZ : Hid (W4.heap[w4.heap.size]? = some (.cells #[.slice z N.length cz, .int .i64 root] 27 (0, 0))) := by subst hW4; exact al1 _ _
    obtain ⟨u0, u1, -, -⟩ := box2_cells HZ.out
    have M4 : Hid (TOwn W4 w3.heap.size w4.heap.size z N) := m4.below q4
    have b04 : Below W0.heap.size W0 W4 := Below.comp (Below.comp b1 b13) (Below.comp b4 q4)
    clear x0 x1 m4
    go_wp2_with fail
    refine (cI _ z cz M4.out.nodes).mono ?_
    rintro e w5 ⟨b5, gv, rfl, gg, hg⟩
    obtain ⟨ga, gc, rfl, -, -⟩ := id hg
    have HG5 : Hid (IB w5 W4.heap.size w5.heap.size (.slice ga L.length gc) L gg) := hg
    have E5 : Hid (Ints w5 ea L) := HE.out.below (Below.comp b4 (Below.comp q4 b5))
    have I5 : Hid (Ints w5 ga L) := by obtain ⟨a1, c1, e1, -, h1⟩ := hg.ints; simp only [Value.slice.injEq, true_and] at e1; obtain ⟨rfl, rfl⟩ := e1; exact h1
    clear u0 u1 hW4 hg
    have g5 := Below.comp g4 (Below.comp q4 b5)
    go_wp2_with fail
    refine (cQ _ ga gc ea ec I5.out E5.out).mono ?_
    rintro e w6 ⟨rfl, b6⟩
    have g6 := Below.comp g5 b6
    obtain ⟨u0, u1, -, -⟩ := box2_cells (box_on HZ.out (Below.comp b5 b6))
    obtain ⟨x0, x1, -, -⟩ := box2_cells (box_on HA.out (Below.comp b04 (Below.comp b5 b6)))
    have M6 : Hid (TOwn w6 w3.heap.size w4.heap.size z N) := M4.out.below (Below.comp b5 b6)
    have SB : Hid (∀ W, Below w6.heap.size w6 W → W.cell? ⟨w.heap.size, 0, none⟩ = some (.slice a N.length cap) ∧ W.cell? ⟨w.heap.size, 1, none⟩ = some (.int .i64 root) ∧ W.cell? ⟨w4.heap.size, 0, none⟩ = some (.slice z N.length cz) ∧ W.cell? ⟨w4.heap.size, 1, none⟩ = some (.int .i64 root) ∧ Below w6.heap.size w6 W) := fun W g => ⟨cell_on x0 g, cell_on x1 g, cell_on u0 g, cell_on u1 g, g⟩
    go_wp2_with fail
    clear x0 x1 u0 u1
    go_region_held3 (fun W => W.cell? ⟨w.heap.size, 0, none⟩ = some (.slice a N.length cap) ∧ W.cell? ⟨w.heap.size, 1, none⟩ = some (.int .i64 root) ∧ W.cell? ⟨w4.heap.size, 0, none⟩ = some (.slice z N.length cz) ∧ W.cell? ⟨w4.heap.size, 1, none⟩ = some (.int .i64 root) ∧ Below w6.heap.size w6 W)
      ((refine SB.out _ ?_; first | assumption | exact Below.drew (Below.refl _ _)))
      (first
      | (go_at_call 31; obtain ⟨-, -, -, -, hw0⟩ := ‹_ ∧ _ ∧ _ ∧ _ ∧ Below w6.heap.size w6 _›; refine (cT _ (HN.out.below (Below.comp g6 hw0))).mono ?_; rintro e w7 ⟨b7, t, ct, rfl, hct, m7⟩; have hb7 := Below.comp hw0 b7; have M7 : Hid _ := m7.nodes; clear m7)
      | (go_at_call 26; refine (cE _ z cz t ct (M6.out.nodes.below hb7) M7.out).mono ?_; rintro e w8 ⟨rfl, b8⟩; have hb8 := Below.comp hb7 b8))
    all_goals (
      have b58 := Below.comp b6 hb8
      obtain ⟨u0, u1, -, -⟩ := box2_cells (box_on HZ.out (Below.comp b5 b58))
      have M8 : Hid (TOwn w8 w3.heap.size w4.heap.size z N) := M4.out.below (Below.comp b5 b58)
      have hz4 : w4.heap.size ≤ w8.heap.size := Nat.le_trans q4.size (Below.comp b5 b58).size
      have hz34 : w3.heap.size ≤ w4.heap.size := b4.size
      have hz45 : w4.heap.size + 1 ≤ W4.heap.size := box_lt HZ.out
      have hz03 : w.heap.size + 1 ≤ w3.heap.size := Nat.le_trans (box_lt HA.out) (Below.comp b1 b13).size
      have HZ34 : Hid _ := hz34
      have HZ45 : Hid _ := hz45
      have HZ03 : Hid _ := hz03
      clear hz34 hz45 hz03
      go_wp2_with fail
      refine (cM w3.heap.size w4.heap.size _ z cz M8.out hz4).mono ?_
      rintro e w9 ⟨rfl, ⟨V, hV, hVo⟩, -⟩
      have k9 : Below w3.heap.size w8 w9 := (hV.mono (Nat.le_trans HZ34.out hz4)).trans (hVo.below (Nat.le_trans HZ34.out (Nat.le_trans hz4 hV.size)))
      have b38 : Below w3.heap.size w3 w8 := Below.comp b4 (Below.comp q4 (Below.comp b5 b58))
      have b39 : Below w3.heap.size w3 w9 := b38.trans k9
      have E9 : Hid (Ints w9 ea L) := HE.out.below b39
      have G9 : Hid (IB w9 W4.heap.size w5.heap.size (.slice ga L.length gc) L gg) := ((HG5.out.below b58).below hV).out' hVo (.inr (by have := HZ45.out; omega))
      have I9 : Hid (Ints w9 ga L) := by obtain ⟨a1, c1, e1, -, h1⟩ := G9.out.ints; simp only [Value.slice.injEq, true_and] at e1; obtain ⟨rfl, rfl⟩ := e1; exact h1
      have A3 : Hid (w3.heap[w.heap.size]? = some (.cells #[.slice a N.length cap, .int .i64 root] 47 (0, 0))) := box_on HA.out (Below.comp b1 b13)
      have n9 : Below w3.heap.size w3 w9 := b39
      clear u0 u1
      go_wp2_with fail
      refine (cQ _ ga gc ea ec I9.out E9.out).mono ?_
      rintro e w10 ⟨rfl, b10⟩
      have n10 : Below w3.heap.size w3 w10 := n9.trans (b10.mono n9.size)
      have G10 : Hid (IB w10 W4.heap.size w5.heap.size (.slice ga L.length gc) L gg) := G9.out.below b10
      go_wp2_with fail
      refine (cK W4.heap.size w5.heap.size gg _ ga gc G10.out).mono ?_
      rintro e w11 ⟨rfl, hm, G11⟩
      have o11 : Out W4.heap.size w5.heap.size w10 w11 := mark_out hm G10.out.within
      have n11 : Below w3.heap.size w3 w11 := n10.trans ((o11.mono (B' := w3.heap.size) (by have := HZ45.out; have := HZ34.out; omega) (Nat.le_refl _)).below n10.size)
      have g11 : Below w.heap.size w w11 := g3.trans (n11.mono (Nat.le_trans (Nat.le_of_lt (Nat.lt_of_succ_le HZ03.out)) (Nat.le_refl _)))
      have I11 : Hid (Ints w11 ga (mkl 1 L.length)) := by obtain ⟨a1, c1, e1, -, h1⟩ := G11.ints; simp only [Value.slice.injEq] at e1; obtain ⟨rfl, -, rfl⟩ := e1; exact h1
      have E11 : Hid (Ints w11 ea L) := HE.out.below n11
      have A11 := box_on A3.out n11
      obtain ⟨x0, x1, -, -⟩ := box2_cells A11
      clear hm G11 A11
      go_wp2_with fail
      refine (cH _ ga gc I11.out).mono ?_
      rintro e w12 ⟨rfl, e12⟩
      subst w12
      go_wp2_with fail
      refine (cT _ (HN.out.below g11)).mono ?_
      rintro e w13 ⟨b13', y', cy', rfl, hcy', m13⟩
      go_wp2_with fail
      refine (cI _ y' cy' m13.nodes).mono ?_
      rintro e w14 ⟨b14, gv', rfl, gg', hg'⟩
      obtain ⟨a1, c1, rfl, -, i14⟩ := hg'.ints
      have b1114 := Below.comp b13' b14
      have E14 : Hid (Ints w14 ea L) := E11.out.below b1114
      have I14 : Hid (Ints w14 a1 L) := i14
      clear x0 x1 hg' i14
      go_wp2_with fail
      refine (cQ _ a1 c1 ea ec I14.out E14.out).mono ?_
      rintro e w15 ⟨rfl, b15⟩
      have b1115 := Below.comp b1114 b15
      go_wp2_with fail
      refine (cH _ ga gc (I11.out.below b1115)).mono ?_
      rintro e w16 ⟨rfl, e16⟩
      subst w16
      go_wp2_with fail
      go_ret
      exact ⟨rfl, Below.comp g11 b1115⟩)
end Go.Proofs.Ytggkpcgjmanelaa
