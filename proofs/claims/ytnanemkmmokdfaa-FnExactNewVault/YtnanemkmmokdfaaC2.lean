import Derived.Test.YtnanemkmmokdfaaC1
import Derived.Deep.DeepCutAuto
/- The specification's places of cuts; the law of CutsOf. -/
namespace Go.Proofs.Ytnanemkmmokdfaa
open Go.ChangeShapes Go.WideShapes Go.ChangeAt Go.RowKit
set_option linter.unusedVariables false
open Hd

attribute [local go_sem] Oper.semAt_some

set_option maxHeartbeats 2000000 in
theorem l15Cuts_any (s : ByteArray) (w : World) (hl : s.size ≤ 400) :
    Calls Try.prog 52 #[.string s] w fun e w' => Below w.heap.size w w' ∧ ∃ u, e = .returned u ∧ OwnI w' w.heap.size u (cuts s) := by
  obtain ⟨L0, hL0⟩ : ∃ L0, cuts s = L0 := ⟨_, rfl⟩
  have HL : Hid _ := hL0
  rw [hL0]
  clear hL0
  obtain ⟨Z, hZ⟩ : ∃ Z, w.heap.size = Z := ⟨_, rfl⟩
  have HZ : Hid _ := hZ
  have B0 : Below Z w w := hZ ▸ Below.refl _ _
  have Z0 : Z ≤ w.heap.size := by omega
  rw [hZ]
  clear hZ
  go_enter Try.func52, Try.ntmps52
  go_wp2
  go_loopw [3, 4, 5] (fun cc ff ii wr => ∃ (k : Nat) (x : Option Addr) (c : Nat), k ≤ s.size ∧ ii = .int .i64 ((k : Int) + 1) ∧ ff = .int .i64 ((cu s k).2 : Nat) ∧ cc = .slice x (cu s k).1.length c ∧ Hid (OwnI wr Z (.slice x (cu s k).1.length c) (cu s k).1) ∧ Below Z w wr ∧ Z ≤ wr.heap.size) (fun _ _ ii _ => s.size + 1 - (intOf ii).toNat)
  case atStart => exact ⟨0, none, 0, Nat.zero_le _, rfl, rfl, rfl, OwnI.nil _ _, B0, Z0⟩
  case round =>
    obtain ⟨k, x, c, hk, rfl, rfl, rfl, HO, hb, hz⟩ := hrel
    by_cases hlt : k < s.size
    · have hrl' := rl_lt s (k + 1)
      have hF := cu_from s k
      have hLn := cu_len s k
      have HN : Hid (cu s (k + 1) = if cutB s (cu s k).2 k then ((cu s k).1 ++ [((k + 1 : Nat) : Int)], k + 1) else cu s k) := rfl
      have HC : Hid (cutB s (cu s k).2 k = (decide (k + 1 = s.size) || decide (k + 1 - (cu s k).2 = 24) || mcB (k + 1) (k + 1 - (cu s k).2) (rl s (k + 1)))) := rfl
      obtain ⟨m, hm⟩ : ∃ m, mcB (k + 1) (k + 1 - (cu s k).2) (rl s (k + 1)) = m := ⟨_, rfl⟩
      have HM : Hid _ := hm
      have cH : Hid (3 ≤ k → ∀ W, Calls Try.prog 49 #[.string (s.extract (k - 3) (k + 1))] W fun e w' => e = .returned (.int .i64 ((rl s (k + 1) : Nat) : Int)) ∧ w' = W) := fun h W => by
        obtain ⟨j, rfl⟩ : ∃ j, k = j + 3 := ⟨k - 3, by omega⟩
        have e := rl_win s j (by omega)
        rw [show j + 3 + 1 = j + 4 by omega, e, show j + 3 - 3 = j by omega]
        exact l15Hash_any _ W (by rw [ByteArray.size_extract]; omega)
      have cSl : Hid (3 ≤ k → ∀ W, (Instr.slice 9 (.string s) (some (.int .i64 ((k : Int) + 1 - 4))) (some (.int .i64 ((k : Int) + 1))) none).run Try.prog W = .ok (.string (s.extract (k - 3) (k + 1))) W) := fun h W => by
        have := slice_mid s (k - 3) (k + 1) (by omega) (by omega) W
        rw [show (((k - 3 : Nat)) : Int) = (k : Int) + 1 - 4 by omega, show (((k + 1 : Nat)) : Int) = (k : Int) + 1 by omega] at this
        exact this
      clear hm
      obtain ⟨h', hh'⟩ : ∃ h', rl s (k + 1) = h' := ⟨_, rfl⟩
      rw [hh'] at cH hrl' HM HC
      clear hh'
      obtain ⟨F, hFe⟩ : ∃ F, (cu s k).2 = F := ⟨_, rfl⟩
      obtain ⟨L, hLe⟩ : ∃ L, (cu s k).1 = L := ⟨_, rfl⟩
      have HF : Hid _ := hFe
      have HLe : Hid _ := hLe
      rw [hFe] at hF HM
      rw [hLe] at HO hLn
      rw [hFe, hLe]
      clear hFe hLe
      have ek : ((k + 1 : Nat) : Int) = (k : Int) + 1 := by omega
      have hE2 : Hid (∀ W y cy, W.ownsRow Z 3 1 (.slice y (L.length + 1) cy) (L.length + 1) (cis L ++ [iv ((k : Int) + 1)]) → Hid (OwnI W Z (.slice y (L ++ [((k + 1 : Nat) : Int)]).length cy) (L ++ [((k + 1 : Nat) : Int)]))) := fun W y cy h => by
        show W.ownsRow Z 3 1 _ _ _
        rw [List.length_append, List.length_singleton, cis_app, ek]
        exact h
      have own2 : (wr.alloc (.cells #[iv ((k : Int) + 1)] 3)).ownsRow Z 3 1 (.slice x L.length c) L.length (cis L) := owns_below HO.out (below_alloc _ _)
      have sr := src_new wr (iv ((k : Int) + 1)) 3
      have hb2 : Below Z w (wr.alloc (.cells #[iv ((k : Int) + 1)] 3)) := hb.trans ((below_alloc _ _).mono hz)
      have z2 : Z ≤ (wr.alloc (.cells #[iv ((k : Int) + 1)] 3)).heap.size := Nat.le_trans hz (below_alloc _ _).size
      have hdec : m = true ∨ (m = false ∧ k + 1 - F = 24) ∨ (m = false ∧ ¬ k + 1 - F = 24 ∧ k + 1 = s.size) ∨ (m = false ∧ ¬ k + 1 - F = 24 ∧ ¬ k + 1 = s.size) := by
        cases m <;> simp <;> omega
      have hcut' : Hid ((k + 1 = s.size ∨ k + 1 - F = 24 ∨ m = true) → (cu s (k + 1)).2 = k + 1 ∧ (cu s (k + 1)).1 = L ++ [((k + 1 : Nat) : Int)]) := fun h => by
        have hq : cutB s (cu s k).2 k = true := by
          rw [HC.out, HF.out, HM.out]
          simp
          rcases h with h | h | h
          · exact .inl (.inl h)
          · exact .inl (.inr h)
          · exact .inr h
        rw [HN.out, if_pos hq, HLe.out]
        exact ⟨rfl, rfl⟩
      have hno : Hid ((¬ k + 1 = s.size ∧ ¬ k + 1 - F = 24 ∧ m = false) → (cu s (k + 1)).2 = F ∧ (cu s (k + 1)).1 = L) := fun h => by
        have hq : cutB s (cu s k).2 k = false := by
          rw [HC.out, HF.out, HM.out]
          simp
          exact ⟨⟨h.1, h.2.1⟩, h.2.2⟩
        rw [HN.out, hq, ← HF.out, ← HLe.out]
        exact ⟨rfl, rfl⟩
      clear HN HC
      go_upto_region 7 with fail
      go_cut [7] (fun p wx => p = .bool m ∧ wx = wr)
      case first =>
        have hM := HM.out
        unfold mcB at hM
        by_cases a1 : 3 ≤ k + 1 - F
        · have a1' : (3 : Int) ≤ (k : Int) + 1 - F := by omega
          have a1b : decide ((3 : Int) ≤ (k : Int) + 1 - F) = true := by simp; omega
          by_cases a2 : 3 ≤ k
          · have a2' : (4 : Int) ≤ (k : Int) + 1 := by omega
            have a2b : decide ((4 : Int) ≤ (k : Int) + 1) = true := by simp; omega
            have cH' := cH.out a2
            have cS' := cSl.out a2
            by_cases a3 : h' % 7 = 0
            · have hm : m = true := by rw [← hM]; simp; omega
              subst hm
              have a3' : ((h' : Int) % 7 == 0) = true := by simp; omega
              clear hM hdec hcut' hno a1 a2 a3
              go_wp2_with (go_at_call 49; refine (cH' _).mono ?_; rintro e W9 ⟨rfl, e9⟩; subst W9)
              go_meet
              exact ⟨rfl, rfl⟩
            · have hm : m = false := by rw [← hM]; simp; omega
              subst hm
              have a3' : ((h' : Int) % 7 == 0) = false := by simp; omega
              clear hM hdec hcut' hno a1 a2 a3
              go_wp2_with (go_at_call 49; refine (cH' _).mono ?_; rintro e W9 ⟨rfl, e9⟩; subst W9)
              go_meet
              exact ⟨rfl, rfl⟩
          · have hm : m = false := by rw [← hM]; simp; omega
            subst hm
            have a2b : decide ((4 : Int) ≤ (k : Int) + 1) = false := by simp; omega
            clear hM hdec hcut' hno a1 a2
            go_wp2_with fail
            go_meet
            exact ⟨rfl, rfl⟩
        · have hm : m = false := by rw [← hM]; simp; omega
          subst hm
          have a1b : decide ((3 : Int) ≤ (k : Int) + 1 - F) = false := by simp; omega
          clear hM hdec hcut' hno a1
          go_wp2_with fail
          go_meet
          exact ⟨rfl, rfl⟩
      obtain ⟨rfl, ewc⟩ := hcut
      subst wc
      clear cH cSl HM
      rcases hdec with d1 | ⟨d0, d1⟩ | ⟨d0, d1, d2⟩ | ⟨d0, d1, d2⟩
      · have hE : Hid ((cu s (k + 1)).2 = k + 1) := (hcut'.out (.inr (.inr d1))).1
        have hE1 : Hid ((cu s (k + 1)).1 = L ++ [((k + 1 : Nat) : Int)]) := (hcut'.out (.inr (.inr d1))).2
        subst d1
        clear hcut' hno
        go_wp2_with (at_builtin; refine wpList_append_src rfl _ _ 27 rfl Z 3 _ 1 8 Try.underlying27 info3' rfl (by decide) (.slice x L.length c) L.length (cis L) rfl own2 (some ⟨wr.heap.size, 0, none⟩) 1 1 [iv ((k : Int) + 1)] rfl rfl sr (by simp [Value.oneCell']) (by omega) (by decide) z2 ?_; intro v3 w3 own3 gr3; have b3 : Below Z w w3 := grown_on hb2 z2 own2 gr3; have z3 : Z ≤ w3.heap.size := Nat.le_trans z2 gr3.size; have OW3 : Hid (w3.ownsRow Z 3 1 v3 (L.length + 1) (cis L ++ [iv ((k : Int) + 1)])) := own3; clear own3 gr3; obtain ⟨y3, c3, hy3⟩ := owns_form OW3.out; subst hy3)
        go_roundw
        case rel => exact ⟨k + 1, y3, c3, by omega, by go_num, by rw [hE.out]; go_num, by rw [hE1.out]; simp, by rw [hE1.out]; exact hE2.out _ _ _ OW3.out, b3, z3⟩
        case measure => simp [intOf]; omega
      · have hE : Hid ((cu s (k + 1)).2 = k + 1) := (hcut'.out (.inr (.inl d1))).1
        have hE1 : Hid ((cu s (k + 1)).1 = L ++ [((k + 1 : Nat) : Int)]) := (hcut'.out (.inr (.inl d1))).2
        have d1' : ((k : Int) + 1 - F == 24) = true := by simp; omega
        subst d0
        clear hcut' hno d1
        go_wp2_with (at_builtin; refine wpList_append_src rfl _ _ 27 rfl Z 3 _ 1 8 Try.underlying27 info3' rfl (by decide) (.slice x L.length c) L.length (cis L) rfl own2 (some ⟨wr.heap.size, 0, none⟩) 1 1 [iv ((k : Int) + 1)] rfl rfl sr (by simp [Value.oneCell']) (by omega) (by decide) z2 ?_; intro v3 w3 own3 gr3; have b3 : Below Z w w3 := grown_on hb2 z2 own2 gr3; have z3 : Z ≤ w3.heap.size := Nat.le_trans z2 gr3.size; have OW3 : Hid (w3.ownsRow Z 3 1 v3 (L.length + 1) (cis L ++ [iv ((k : Int) + 1)])) := own3; clear own3 gr3; obtain ⟨y3, c3, hy3⟩ := owns_form OW3.out; subst hy3)
        go_roundw
        case rel => exact ⟨k + 1, y3, c3, by omega, by go_num, by rw [hE.out]; go_num, by rw [hE1.out]; simp, by rw [hE1.out]; exact hE2.out _ _ _ OW3.out, b3, z3⟩
        case measure => simp [intOf]; omega
      · have hE : Hid ((cu s (k + 1)).2 = k + 1) := (hcut'.out (.inl d2)).1
        have hE1 : Hid ((cu s (k + 1)).1 = L ++ [((k + 1 : Nat) : Int)]) := (hcut'.out (.inl d2)).2
        have d1' : ((k : Int) + 1 - F == 24) = false := by simp; omega
        have d2' : ((k : Int) + 1 == (s.size : Int)) = true := by simp; omega
        subst d0
        clear hcut' hno d1 d2
        go_wp2_with (at_builtin; refine wpList_append_src rfl _ _ 27 rfl Z 3 _ 1 8 Try.underlying27 info3' rfl (by decide) (.slice x L.length c) L.length (cis L) rfl own2 (some ⟨wr.heap.size, 0, none⟩) 1 1 [iv ((k : Int) + 1)] rfl rfl sr (by simp [Value.oneCell']) (by omega) (by decide) z2 ?_; intro v3 w3 own3 gr3; have b3 : Below Z w w3 := grown_on hb2 z2 own2 gr3; have z3 : Z ≤ w3.heap.size := Nat.le_trans z2 gr3.size; have OW3 : Hid (w3.ownsRow Z 3 1 v3 (L.length + 1) (cis L ++ [iv ((k : Int) + 1)])) := own3; clear own3 gr3; obtain ⟨y3, c3, hy3⟩ := owns_form OW3.out; subst hy3)
        go_roundw
        case rel => exact ⟨k + 1, y3, c3, by omega, by go_num, by rw [hE.out]; go_num, by rw [hE1.out]; simp, by rw [hE1.out]; exact hE2.out _ _ _ OW3.out, b3, z3⟩
        case measure => simp [intOf]; omega
      · have hE : Hid ((cu s (k + 1)).2 = F) := (hno.out ⟨d2, d1, d0⟩).1
        have hE1 : Hid ((cu s (k + 1)).1 = L) := (hno.out ⟨d2, d1, d0⟩).2
        have d1' : ((k : Int) + 1 - F == 24) = false := by simp; omega
        have d2' : ((k : Int) + 1 == (s.size : Int)) = false := by simp; omega
        subst d0
        clear hcut' hno d1 d2
        go_wp2_with fail
        go_roundw
        case rel => exact ⟨k + 1, x, c, by omega, by go_num, by rw [hE.out], by rw [hE1.out], by rw [hE1.out]; exact HO, hb, hz⟩
        case measure => simp [intOf]; omega
    · have hkn : k = s.size := by omega
      subst hkn
      have HO' : Hid (OwnI wr Z (.slice x (cuts s).length c) (cuts s)) := HO
      have h1 : ¬ ((s.size : Int) + 1 ≤ (s.size : Int)) := by omega
      go_wp2
      go_ret
      refine ⟨by first | exact hb | exact HZ.out ▸ hb, _, rfl, ?_⟩
      rw [← HL.out]
      first | exact HO'.out | exact HZ.out ▸ HO'.out
end Go.Proofs.Ytnanemkmmokdfaa
