import Derived.Test.YtggkpcgjmanelaaL6
/- What the laws do with nodes and trees: hold. -/
namespace Go.Proofs.Ytggkpcgjmanelaa
open Go.ChangeShapes Go.WideShapes Go.ChangeAt Go.RowKit
set_option linter.unusedVariables false
open Bt

attribute [local go_sem] Oper.semAt_some

theorem bk_mono {N : List Nd} {q : Nat} (h : q < N.length) : bk N (q + 1) ≤ bk N N.length := by
  have key : ∀ j, q + 1 + j ≤ N.length → bk N (q + 1) ≤ bk N (q + 1 + j) := by
    intro j
    induction j with
    | zero => intro _; exact Nat.le_refl _
    | succ j ih => intro hj; have := ih (by omega); show _ ≤ bk N (q + 1 + j) + _; omega
  have := key (N.length - (q + 1)) (by omega)
  rwa [show q + 1 + (N.length - (q + 1)) = N.length by omega] at this
set_option maxHeartbeats 4000000 in
theorem heldNodeS_any (a : Option Addr) (cap : Nat) (N : List Nd) (k : Nat) (w : World) (hk : k + N.length + bk N N.length ≤ 100000000) (h : Nodes w a (mkT k N)) :
    Calls Try.prog 63 #[.slice a N.length cap, .int .i64 k] w fun e w' => e = .returned (.int .i64 ((k + N.length + bk N N.length : Nat) : Int)) ∧ w' = w := by
  unfold Nodes at h
  rw [show (mkT k N).length = N.length from mkQ_len _ _ _] at h
  have Hc : Hid _ := h
  clear h
  go_enter Try.func63, Try.ntmps63
  go_wp2
  go_loop [1, 5] (fun kk i => ∃ (q : Nat), q ≤ N.length ∧ kk = .int .i64 ((kAt N k q : Nat) : Int) ∧ i = .int .i64 q) (fun _ i => N.length - (intOf i).toNat)
  case atStart => exact ⟨0, Nat.zero_le _, by simp [kAt, bk], rfl⟩
  case round =>
    obtain ⟨q, hq, rfl, rfl⟩ := hrel
    by_cases hlt : q < N.length
    · obtain ⟨b, off, rfl, hcell⟩ := Hc.out (by omega)
      have hnd0 := hcell q hlt
      have hbk1 : bk N (q + 1) = bk N q + ((gn N q).ks.length + (gn N q).cs.length) := rfl
      have hmono := bk_mono hlt
      have hka : kAt N k q = k + q + bk N q := rfl
      have hkb : kAt N k (q + 1) = kAt N k q + 1 + (gn N q).ks.length + (gn N q).cs.length := by unfold kAt; omega
      have hK : kAt N k q + 1 + (gn N q).ks.length + (gn N q).cs.length ≤ 100000000 := by unfold kAt; omega
      rw [show gn (mkT k N) q = mkNd (kAt N k q) (gn N q) by unfold mkT; rw [mkQ_at hlt, if_pos hlt]] at hnd0
      obtain ⟨nd, hnd⟩ : ∃ nd, gn N q = nd := ⟨_, rfl⟩
      rw [hnd] at hnd0 hkb hK
      have Hkb : Hid _ := hkb
      clear hnd hbk1 hmono hkb hka hcell Hc
      obtain ⟨lf, ks, cs⟩ := nd
      obtain ⟨ka, kc, ca, cc, g0, g1, g2, i1, i2, -, -⟩ := hnd0
      simp only [mkNd, mkl_len] at g0 g1 g2 i1 i2
      simp only at Hkb hK
      obtain ⟨Q, hQ⟩ : ∃ Q, kAt N k q = Q := ⟨_, rfl⟩
      rw [hQ] at Hkb hK g0 i1 i2 ⊢
      clear hQ
      have cM1 := fun W h => heldIntS_any ka kc ks.length (Q + 1) W (by omega) h
      have cM2 := fun W h => heldIntS_any ca cc cs.length (Q + 1 + ks.length) W (by omega) h
      have er : ((Q : Int) % 3 == 0) = decide (Q % 3 = 0) := by
        rw [Bool.eq_iff_iff]
        simp
        omega
      obtain ⟨X, hX⟩ : ∃ X, decide (Q % 3 = 0) = X := ⟨_, rfl⟩
      rw [hX] at er g0
      have hXX : (X != X) = false := by cases X <;> rfl
      clear hX
      have hQb : Q + 1 ≤ 100000000 := by omega
      have Hi1 : Hid (Ints w ka (mkl (Q + 1) ks.length)) := i1
      have Hi2 : Hid (Ints w ca (mkl (Q + 1 + ks.length) cs.length)) := i2
      clear i1 i2
      rw [show (((Q + 1 : Nat)) : Int) = (Q : Int) + 1 by omega] at cM1
      have hK20 : 0 ≤ ((Q + 1 + ks.length : Nat) : Int) := by omega
      have hK30 : 0 ≤ ((Q + 1 + ks.length + cs.length : Nat) : Int) := by omega
      generalize hK2 : ((Q + 1 + ks.length : Nat) : Int) = K2 at cM1 cM2 hK20
      generalize hK3 : ((Q + 1 + ks.length + cs.length : Nat) : Int) = K3 at cM2 hK30
      have HK3 : Hid _ := hK3
      have HK : Hid _ := hK
      clear hK2 hK3 hK
      have n2 : decide (K2 < 0) = false := by simp; omega
      have n3 : decide (K3 < 0) = false := by simp; omega
      go_wp2_with fail
      refine (cM1 _ Hi1.out).mono ?_
      rintro e w2 ⟨rfl, rfl⟩
      go_wp2_with fail
      refine (cM2 _ Hi2.out).mono ?_
      rintro e w3 ⟨rfl, rfl⟩
      go_wp2_with fail
      go_round
      case rel => exact ⟨q + 1, by omega, by rw [Hkb.out, HK3.out], by go_num⟩
      case measure => simp [intOf]; omega
    · have hqn : q = N.length := by omega
      go_wp2
      go_ret
      exact ⟨by simp [kAt], rfl⟩
set_option maxHeartbeats 1000000 in
theorem markTree_any (B C : Nat) (a : Option Addr) (cap : Nat) (N : List Nd) (root : Int) (k : Nat) (w : World) (hk : k + N.length + bk N N.length ≤ 100000000) (h : TOwn w B C a N) (hC : C ≤ w.heap.size) :
    Calls Try.prog 27 #[tv a N.length cap root, .int .i64 k] w fun e w' => e = .returned (.int .i64 ((k + N.length + bk N N.length : Nat) : Int)) ∧ (∃ W, Below w.heap.size w W ∧ Out B C W w') ∧ TOwn w' B C a (mkT k N) := by
  have cM := fun W h => markNodeS_any B C a cap N k W hk h
  generalize ((k + N.length + bk N N.length : Nat) : Int) = K at *
  go_enter Try.func27, Try.ntmps27
  go_wp2_with fail
  refine (cM _ (h.below (below_alloc _ _))).mono ?_
  rintro e w2 ⟨rfl, ho, ht⟩
  go_wp2_with fail
  go_ret
  exact ⟨rfl, ⟨_, below_alloc _ _, ho⟩, ht⟩
set_option maxHeartbeats 1000000 in
theorem heldTree_any (a : Option Addr) (cap : Nat) (N : List Nd) (root : Int) (k : Nat) (w : World) (hk : k + N.length + bk N N.length ≤ 100000000) (h : Nodes w a (mkT k N)) :
    Calls Try.prog 28 #[tv a N.length cap root, .int .i64 k] w fun e w' => e = .returned (.int .i64 ((k + N.length + bk N N.length : Nat) : Int)) ∧ Below w.heap.size w w' := by
  have cM := fun W h => heldNodeS_any a cap N k W hk h
  have h0 : 0 ≤ ((k + N.length + bk N N.length : Nat) : Int) := by omega
  generalize ((k + N.length + bk N N.length : Nat) : Int) = K at *
  have n2 : decide (K < 0) = false := by simp; omega
  go_enter Try.func28, Try.ntmps28
  go_wp2_with fail
  refine (cM _ (h.below (below_alloc _ _))).mono ?_
  rintro e w2 ⟨rfl, rfl⟩
  go_wp2_with fail
  go_ret
  exact ⟨rfl, below_alloc _ _⟩
end Go.Proofs.Ytggkpcgjmanelaa
