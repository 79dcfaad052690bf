import Derived.Test.YtienhdlhlddemaaMC2
/- What the laws do with cells and cows: hold. -/
namespace Go.Proofs.Ytienhdlhlddemaa
open Go.ChangeShapes Go.WideShapes Go.ChangeAt Go.RowKit
set_option linter.unusedVariables false
open Hd

attribute [local go_sem] Oper.semAt_some

set_option maxHeartbeats 4000000 in
theorem heldCellS_any (a : Option Addr) (cap : Nat) (L : List Ce) (k : Nat) (w : World) (hk1 : 1 ≤ k) (hk : k + 2 * L.length + kk L L.length ≤ 100000000) (h : Ces w a (mkT k L)) :
    Calls Try.prog 27 #[.slice a L.length cap, .int .i64 k] w fun e w' => e = .returned (.int .i64 ((k + 2 * L.length + kk L L.length : Nat) : Int)) ∧ Below w.heap.size w w' := by
  unfold Ces at h
  rw [show (mkT k L).length = L.length from mkQ_len _ _ _] at h
  have Hc : Hid _ := h
  clear h
  go_enter Try.func27, Try.ntmps27
  go_wp2
  go_loopw [1, 5] (fun kq i wr => ∃ (q : Nat), q ≤ L.length ∧ kq = .int .i64 ((kAt L k q : Nat) : Int) ∧ i = .int .i64 q ∧ Below w.heap.size w wr) (fun _ i _ => L.length - (intOf i).toNat)
  case atStart => exact ⟨0, Nat.zero_le _, by simp [kAt, kk], rfl, Below.refl _ _⟩
  case round =>
    obtain ⟨q, hq, rfl, rfl, hb⟩ := hrel
    by_cases hlt : q < L.length
    · obtain ⟨b, off, rfl, hcell⟩ := Hc.out (by omega)
      have hnd0 := (hcell q hlt).below hb
      have hbk1 : kk L (q + 1) = kk L q + (gc L q).kd.length := rfl
      have hmono := kk_mono hlt
      have hka : kAt L k q = k + 2 * q + kk L q := rfl
      have hkb : kAt L k (q + 1) = kAt L k q + 2 + (gc L q).kd.length := by unfold kAt; omega
      have hK : kAt L k q + 2 + (gc L q).kd.length ≤ 100000000 := by unfold kAt; omega
      rw [show gc (mkT k L) q = mkB (kAt L k q) (gc L q) by unfold mkT; rw [mkQ_at hlt, if_pos hlt]] at hnd0
      obtain ⟨nd, hnd⟩ : ∃ nd, gc L q = nd := ⟨_, rfl⟩
      rw [hnd] at hnd0 hkb hK
      have Hkb : Hid _ := hkb
      clear hnd hbk1 hmono hkb hka hcell Hc
      obtain ⟨dp, lk, ns⟩ := nd
      obtain ⟨ka, kc, g0, g0a, g1, i1, -⟩ := hnd0
      simp only [mkB, mkl_len] at g0 g0a g1 i1
      simp only at Hkb hK
      obtain ⟨Q, hQ⟩ : ∃ Q, kAt L k q = Q := ⟨_, rfl⟩
      have hQ1 : 1 ≤ Q := by rw [← hQ]; unfold kAt; omega
      rw [hQ] at Hkb hK g0 g0a i1 ⊢
      clear hQ
      have cM1 := fun W h => heldIntS_any ka kc ns.length (Q + 2) W (by omega) h
      have hQb : Q + 2 ≤ 100000000 := by omega
      have cT : ∀ W : World, Calls Try.prog 44 #[.int .i64 ((Q + 1 : Nat) : Int)] W fun e w' => e = .returned (.string (mkText (Q + 1))) ∧ Below W.heap.size W w' := fun W => markText_any (Q + 1) W (by omega) (by omega)
      have Hi1 : Hid (Ints wr ka (mkl (Q + 2) ns.length)) := i1
      have HG1 : Hid (wr.cell? ⟨b, off + q * 3 + 2, none⟩ = some (.slice ka ns.length kc)) := g1
      have hg0a : ∀ d os, (Go.Sort.grow (redrawn wr d) os).cell? ⟨b, off + q * 3 + 1, none⟩ = some (.string (mkText (Q + 1))) := cell_regrown g0a
      clear i1 g0a g1
      have w1 : IntKind.i64.wrap ((Q : Int) + 1) = ((Q + 1 : Nat) : Int) := by rw [wrapI (by omega) (by omega)]; omega
      have w2 : IntKind.i64.wrap (((Q + 1 : Nat) : Int) + 1) = ((Q + 2 : Nat) : Int) := by rw [wrapI (by omega) (by omega)]; omega
      generalize mkText (Q + 1) = tx at hg0a cT
      generalize ((Q + 1 : Nat) : Int) = Q1 at w1 w2 cT
      generalize ((Q + 2 : Nat) : Int) = Q2 at w2 cM1
      have hK20 : 0 ≤ ((Q + 2 + ns.length : Nat) : Int) := by omega
      generalize hK2 : ((Q + 2 + ns.length : Nat) : Int) = K2 at cM1 hK20
      have HK2 : Hid _ := hK2
      have HK : Hid _ := hK
      clear hK2 hK
      have n2 : decide (K2 < 0) = false := by simp; omega
      have eQ : ((Q : Int) != (Q : Int)) = false := by simp
      go_wp2_with fail
      refine wp_region_quiet_below (by kernel_rfl) (by kernel_rfl) ?_
      repeat (quiet_step (exact Calls.regrown_of (cT _)))
      refine wpQuiet_nil ?_
      intro _ hw'
      obtain ⟨⟨dq, osq⟩, hw''⟩ := hw'
      subst hw''
      have b4' := below_regrown wr dq osq
      generalize Go.Sort.grow (redrawn wr dq) osq = w4 at b4' ⊢
      clear hg0a
      have g1 := cell_on HG1.out b4'
      have Hi4 : Hid (Ints w4 ka (mkl (Q + 2) ns.length)) := Hi1.out.below b4'
      go_wp2_with fail
      refine (cM1 _ Hi4.out).mono ?_
      rintro e w2' ⟨rfl, hw⟩
      have hw' := hw.symm
      subst hw'
      clear hw
      go_wp2_with fail
      go_roundw
      case rel => exact ⟨q + 1, by omega, by rw [Hkb.out, HK2.out], by go_num, Below.comp hb b4'⟩
      case measure => simp [intOf]; omega
    · have hqn : q = L.length := by omega
      go_wp2
      go_ret
      exact ⟨by rw [hqn]; simp [kAt], hb⟩
set_option maxHeartbeats 1000000 in
theorem heldCow_any (v : Value) (c : Co) (k : Nat) (w : World) (hk1 : 1 ≤ k) (hk : kW k c ≤ 100000000) (h : CowAt w v (mkCo k c)) :
    Calls Try.prog 11 #[v, .int .i64 k] w fun e w' => e = .returned (.int .i64 ((kW k c : Nat) : Int)) ∧ Below w.heap.size w w' := by
  have hkC : kW k c = kC k c + c.rs.length := rfl
  have hkk : kC k c = k + 2 * c.cs.length + kk c.cs c.cs.length := rfl
  obtain ⟨a, ka, a', k', rfl, h1, h2, h3, h4⟩ := h
  have e1 : (mkCo k c).cs.length = c.cs.length := mkQ_len _ _ _
  have e2 : (mkCo k c).rs.length = c.rs.length := mkl_len _ _
  have e3 : (mkCo k c).lv = c.lv := rfl
  rw [e1, e2, e3]
  have h3' : Ces w a (mkT k c.cs) := h3
  have h4' : Ints w a' (mkl (kC k c) c.rs.length) := h4
  clear h1 h2 h3 h4 e1 e2 e3
  have c0 := fun W h => heldCellS_any a ka c.cs k W hk1 (by omega) h
  have c1 := fun W h => heldIntS_any a' k' c.rs.length (kC k c) W (by omega) h
  rw [← hkk] at c0
  rw [← hkC] at c1
  obtain ⟨W0, hW0⟩ : ∃ W0, w.alloc (.cells #[.slice a c.cs.length ka, .slice a' c.rs.length k', .int .i64 c.lv] 29) = W0 := ⟨_, rfl⟩
  have q0 : Below w.heap.size w W0 := by subst hW0; exact below_alloc _ _
  have HA : Hid (W0.heap[w.heap.size]? = some (.cells #[.slice a c.cs.length ka, .slice a' c.rs.length k', .int .i64 c.lv] 29 (0, 0))) := by subst hW0; exact al1 _ _
  obtain ⟨x0, x1, x2⟩ := box3_one HA.out
  have H3 : Hid (Ces W0 a (mkT k c.cs)) := h3'.below q0
  have H4 : Hid (Ints w a' (mkl (kC k c) c.rs.length)) := h4'
  have hp0 : decide (((kC k c : Nat) : Int) < 0) = false := by simp
  have hp1 : decide (((kW k c : Nat) : Int) < 0) = false := by simp
  have hp2 : 0 ≤ ((kC k c : Nat) : Int) := by omega
  have hp3 : 0 ≤ ((kW k c : Nat) : Int) := by omega
  clear h3' h4' hkC hkk hk
  unfold kv
  generalize ((kW k c : Nat) : Int) = K at *
  generalize ((kC k c : Nat) : Int) = KC at *
  go_enter Try.func11, Try.ntmps11
  go_wp2_with fail
  refine (c0 _ H3.out).mono ?_
  rintro e w1 ⟨rfl, b1⟩
  have g1 := Below.comp q0 b1
  clear x0 x1 x2 hW0
  obtain ⟨x0, x1, x2⟩ := box3_one (box_on HA.out b1)
  have I1 := H4.out.below g1
  go_wp2_with fail
  refine (c1 _ I1).mono ?_
  rintro e w2 ⟨rfl, hw⟩
  have hw' := hw.symm
  subst hw'
  clear hw
  go_wp2_with fail
  go_ret
  exact ⟨rfl, g1⟩
end Go.Proofs.Ytienhdlhlddemaa
