import Derived.Test.YtnanemkmmokdfaaH2
import Derived.Test.YtnanemkmmokdfaaT1
/- Both sides: where a text is cut. -/
namespace Go.Proofs.Ytnanemkmmokdfaa
open Go.ChangeShapes Go.WideShapes Go.ChangeAt Go.RowKit
set_option linter.unusedVariables false
open Hd

attribute [local go_sem] Oper.semAt_some

theorem byteAhead_any (s : ByteArray) (k : Nat) (w : World) (hk : k < s.size) :
    Calls Try.prog 53 #[.string s, .int .i64 ((k : Int) - 4)] w fun e w' => e = .returned (.int .u8 (pd s k : Nat)) ∧ w' = w := by
  unfold pd
  by_cases h : k < 4
  · have h1 : (k : Int) - 4 < 0 := by omega
    rw [if_pos h]
    go_enter Try.func53, Try.ntmps53
    go_wp2
    go_ret
    exact ⟨rfl, rfl⟩
  · obtain ⟨j, rfl⟩ : ∃ j, k = j + 4 := ⟨k - 4, by omega⟩
    have hj : j < s.size := by omega
    have e : (((j + 4 : Nat) : Int) - 4) = (j : Int) := by omega
    have eb : ((bt s).getD (j + 4 - 4) 0).toNat = s[j].toNat := by
      rw [show j + 4 - 4 = j by omega, List.getD_eq_getElem?_getD, List.getElem?_eq_getElem (show j < (bt s).length from hj)]
      rfl
    rw [if_neg h, e, eb]
    clear e eb h
    go_enter Try.func53, Try.ntmps53
    go_wp2
    go_ret
    exact ⟨rfl, rfl⟩
/-- Whether a hash may end a piece. -/
def mcB (t p h : Nat) : Bool := decide (4 ≤ t) && (decide (3 ≤ p) && decide (h % 7 = 0))
theorem mayCut_any (t p h : Nat) (w : World) (ht : t < 1000000) (hp : p < 1000000) (hh : h < 4093) :
    Calls Try.prog 54 #[.int .i64 (t : Int), .int .i64 (p : Int), .int .i64 (h : Int)] w fun e w' => e = .returned (.bool (mcB t p h)) ∧ w' = w := by
  unfold mcB
  by_cases h1 : 4 ≤ t
  · by_cases h2 : 3 ≤ p
    · by_cases h3 : h % 7 = 0
      · have h3' : (h : Int) % 7 = 0 := by omega
        rw [decide_eq_true h1, decide_eq_true h2, decide_eq_true h3]
        clear h3
        go_enter Try.func54, Try.ntmps54
        go_wp2
        go_ret
        exact ⟨rfl, rfl⟩
      · have h3' : ¬ (h : Int) % 7 = 0 := by omega
        have h4 : ((h : Int) % 7 == 0) = false := by simp [h3']
        rw [decide_eq_true h1, decide_eq_true h2, decide_eq_false h3]
        clear h3
        go_enter Try.func54, Try.ntmps54
        go_wp2
        go_ret
        exact ⟨rfl, rfl⟩
    · rw [decide_eq_true h1, decide_eq_false h2]
      go_enter Try.func54, Try.ntmps54
      go_wp2
      go_ret
      exact ⟨rfl, rfl⟩
  · rw [decide_eq_false h1]
    go_enter Try.func54, Try.ntmps54
    go_wp2
    go_ret
    exact ⟨rfl, rfl⟩
theorem info3' : (Try.prog.info? 3).map (fun i => (i.zero, i.size, i.bytes)) = some (some (.int .i64 0), 1, 8) := by kernel_rfl
theorem rl_ro (s : ByteArray) (k : Nat) (h : k < s.size) : rl s (k + 1) = ro (rl s k) (pd s k) s[k].toNat := by
  show ((31 * rl s k + pd s (k + 4)) % 4093 + 4093 - pd s k * 923521 % 4093) % 4093 = _
  unfold ro
  have : pd s (k + 4) = s[k].toNat := by
    unfold pd
    rw [if_neg (by omega), show k + 4 - 4 = k by omega, List.getD_eq_getElem?_getD, List.getElem?_eq_getElem (show k < (bt s).length from h)]
    rfl
  rw [this]
set_option maxHeartbeats 2000000 in
theorem implCuts_yes (s : ByteArray) (w : World) (hl : s.size ≤ 400) :
    Calls Try.prog 19 #[.string s] w fun e w' => Below w.heap.size w w' ∧ ∃ u, e = .returned (.tuple #[u, .bool true]) ∧ OwnI w' w.heap.size u (cuts s) := by
  obtain ⟨L0, hL0⟩ : ∃ L0, cuts s = L0 := ⟨_, rfl⟩
  have HL : Hid _ := hL0
  rw [hL0]
  clear hL0
  obtain ⟨Z, hZ⟩ : ∃ Z, w.heap.size = Z := ⟨_, rfl⟩
  have HZ : Hid _ := hZ
  have B0 : Below Z w w := hZ ▸ Below.refl _ _
  have Z0 : Z ≤ w.heap.size := by omega
  rw [hZ]
  clear hZ
  go_enter Try.func19, Try.ntmps19
  go_wp2
  go_loopw [4, 5, 6, 14] (fun cc hh ff ii wr => ∃ (k : Nat) (x : Option Addr) (c : Nat), k ≤ s.size ∧ ii = .int .i64 k ∧ hh = .int .i64 (rl s k : Nat) ∧ ff = .int .i64 ((cu s k).2 : Nat) ∧ cc = .slice x (cu s k).1.length c ∧ Hid (OwnI wr Z (.slice x (cu s k).1.length c) (cu s k).1) ∧ Below Z w wr ∧ Z ≤ wr.heap.size) (fun _ _ _ ii _ => s.size - (intOf ii).toNat)
  case atStart => exact ⟨0, none, 0, Nat.zero_le _, rfl, rfl, rfl, rfl, OwnI.nil _ _, B0, Z0⟩
  case round =>
    obtain ⟨k, x, c, hk, rfl, rfl, rfl, rfl, HO, hb, hz⟩ := hrel
    by_cases hlt : k < s.size
    · have cA := fun W => byteAhead_any s k W hlt
      have hpd := pd_lt s k
      have hrl := rl_lt s k
      have hrl' := rl_lt s (k + 1)
      have hsk : s[k].toNat < 256 := s[k].toNat_lt
      have cR := fun W => implOn_yes (rl s k) (pd s k) s[k].toNat W hrl hpd hsk
      rw [← rl_ro s k hlt] at cR
      have hF := cu_from s k
      have hLn := cu_len s k
      have HN : Hid (cu s (k + 1) = if cutB s (cu s k).2 k then ((cu s k).1 ++ [((k + 1 : Nat) : Int)], k + 1) else cu s k) := rfl
      have HC : Hid (cutB s (cu s k).2 k = (decide (k + 1 = s.size) || decide (k + 1 - (cu s k).2 = 24) || mcB (k + 1) (k + 1 - (cu s k).2) (rl s (k + 1)))) := rfl
      have cM := fun W => mayCut_any (k + 1) (k + 1 - (cu s k).2) (rl s (k + 1)) W (by omega) (by omega) hrl'
      obtain ⟨m, hm⟩ : ∃ m, mcB (k + 1) (k + 1 - (cu s k).2) (rl s (k + 1)) = m := ⟨_, rfl⟩
      rw [hm] at cM
      have HM : Hid _ := hm
      obtain ⟨h', hh'⟩ : ∃ h', rl s (k + 1) = h' := ⟨_, rfl⟩
      have HH : Hid _ := hh'
      rw [hh'] at cR cM hrl'
      clear hm hh'
      generalize rl s k = h at *
      generalize hp : pd s k = pk at cA cR hpd
      clear hp
      obtain ⟨F, hFe⟩ : ∃ F, (cu s k).2 = F := ⟨_, rfl⟩
      obtain ⟨L, hLe⟩ : ∃ L, (cu s k).1 = L := ⟨_, rfl⟩
      have HF : Hid _ := hFe
      have HLe : Hid _ := hLe
      rw [hFe] at cM hF
      rw [hLe] at HO hLn
      rw [hFe, hLe]
      clear hFe hLe
      have ek : ((k + 1 : Nat) : Int) = (k : Int) + 1 := by omega
      have eF : ((k + 1 - F : Nat) : Int) = (k : Int) + 1 - F := by omega
      rw [ek, eF] at cM
      clear eF
      have bD : ∀ q, Below wr.heap.size wr (wr.drewN q) := fun q => below_drewN (Below.refl _ _) q
      have hE2 : Hid (∀ W y cy, W.ownsRow Z 3 1 (.slice y (L.length + 1) cy) (L.length + 1) (cis L ++ [iv ((k : Int) + 1)]) → Hid (OwnI W Z (.slice y (L ++ [((k + 1 : Nat) : Int)]).length cy) (L ++ [((k + 1 : Nat) : Int)]))) := fun W y cy h => by
        show W.ownsRow Z 3 1 _ _ _
        rw [List.length_append, List.length_singleton, cis_app, ek]
        exact h
      go_wp2_with fail
      go_quiet (first | (go_at_call 53; exact Calls.quiet_of_same (cA _)) | (go_at_call 17; exact Calls.quiet_of_same (cR _)))
      obtain ⟨W1, hW1⟩ : ∃ W1, wr.drewN nq = W1 := ⟨_, rfl⟩
      have b1 : Below wr.heap.size wr W1 := by subst hW1; exact bD _
      rw [hW1]
      clear hW1 bD cA cR
      have hb1 : Below Z w W1 := hb.trans (b1.mono hz)
      have z1 : Z ≤ W1.heap.size := Nat.le_trans hz b1.size
      have o1 : Hid (OwnI W1 Z (.slice x L.length c) L) := owns_below HO.out b1
      have own2 : (W1.alloc (.cells #[iv ((k : Int) + 1)] 3)).ownsRow Z 3 1 (.slice x L.length c) L.length (cis L) := owns_below o1.out (below_alloc _ _)
      have sr := src_new W1 (iv ((k : Int) + 1)) 3
      have hb2 : Below Z w (W1.alloc (.cells #[iv ((k : Int) + 1)] 3)) := hb1.trans ((below_alloc _ _).mono z1)
      have z2 : Z ≤ (W1.alloc (.cells #[iv ((k : Int) + 1)] 3)).heap.size := Nat.le_trans z1 (below_alloc _ _).size
      clear HO b1 hb
      have hdec : (k + 1 = s.size) ∨ (¬ k + 1 = s.size ∧ k + 1 - F = 24) ∨ (¬ k + 1 = s.size ∧ ¬ k + 1 - F = 24 ∧ m = true) ∨ (¬ k + 1 = s.size ∧ ¬ k + 1 - F = 24 ∧ m = false) := by
        cases m <;> simp <;> omega
      have hcut : Hid ((k + 1 = s.size ∨ k + 1 - F = 24 ∨ m = true) → (cu s (k + 1)).2 = k + 1 ∧ (cu s (k + 1)).1 = L ++ [((k + 1 : Nat) : Int)]) := fun h => by
        have hq : cutB s (cu s k).2 k = true := by
          rw [HC.out, HM.out, HF.out]
          simp
          rcases h with h | h | h
          · exact .inl (.inl h)
          · exact .inl (.inr h)
          · exact .inr h
        rw [HN.out, if_pos hq, HLe.out]
        exact ⟨rfl, rfl⟩
      have hno : Hid ((¬ k + 1 = s.size ∧ ¬ k + 1 - F = 24 ∧ m = false) → (cu s (k + 1)).2 = F ∧ (cu s (k + 1)).1 = L) := fun h => by
        have hq : cutB s (cu s k).2 k = false := by
          rw [HC.out, HM.out, HF.out]
          simp
          exact ⟨⟨h.1, h.2.1⟩, h.2.2⟩
        rw [HN.out, hq, ← HF.out, ← HLe.out]
        exact ⟨rfl, rfl⟩
      clear HN HC HM
      rcases hdec with d1 | ⟨d0, d1⟩ | ⟨d0, d1, d2⟩ | ⟨d0, d1, d2⟩
      · have hE : Hid ((cu s (k + 1)).2 = k + 1) := (hcut.out (.inl d1)).1
        have hE1 : Hid ((cu s (k + 1)).1 = L ++ [((k + 1 : Nat) : Int)]) := (hcut.out (.inl d1)).2
        have d1' : ((k : Int) + 1 == (s.size : Int)) = true := by simp; omega
        clear hcut hno d1
        go_wp2_with (at_builtin; refine wpList_append_src rfl _ _ 27 rfl Z 3 _ 1 8 Try.underlying27 info3' rfl (by decide) (.slice x L.length c) L.length (cis L) rfl own2 (some ⟨W1.heap.size, 0, none⟩) 1 1 [iv ((k : Int) + 1)] rfl rfl sr (by simp [Value.oneCell']) (by omega) (by decide) z2 ?_; intro v3 w3 own3 gr3; have b3 : Below Z w w3 := grown_on hb2 z2 own2 gr3; have z3 : Z ≤ w3.heap.size := Nat.le_trans z2 gr3.size; have OW3 : Hid (w3.ownsRow Z 3 1 v3 (L.length + 1) (cis L ++ [iv ((k : Int) + 1)])) := own3; clear own3 gr3; obtain ⟨y3, c3, hy3⟩ := owns_form OW3.out; subst hy3)
        go_roundw
        case rel => exact ⟨k + 1, y3, c3, by omega, by go_num, by rw [HH.out], by rw [hE.out]; go_num, by rw [hE1.out]; simp, by rw [hE1.out]; exact hE2.out _ _ _ OW3.out, b3, z3⟩
        case measure => simp [intOf]; omega
      · have hE : Hid ((cu s (k + 1)).2 = k + 1) := (hcut.out (.inr (.inl d1))).1
        have hE1 : Hid ((cu s (k + 1)).1 = L ++ [((k + 1 : Nat) : Int)]) := (hcut.out (.inr (.inl d1))).2
        have d1' : ((k : Int) + 1 - F == 24) = true := by simp; omega
        have d0' : ¬ (k : Int) + 1 = (s.size : Int) := by omega
        have e0 : ((k : Int) + 1 == (s.size : Int)) = false := by simp [d0']
        clear hcut hno d1 d0
        go_wp2_with (at_builtin; refine wpList_append_src rfl _ _ 27 rfl Z 3 _ 1 8 Try.underlying27 info3' rfl (by decide) (.slice x L.length c) L.length (cis L) rfl own2 (some ⟨W1.heap.size, 0, none⟩) 1 1 [iv ((k : Int) + 1)] rfl rfl sr (by simp [Value.oneCell']) (by omega) (by decide) z2 ?_; intro v3 w3 own3 gr3; have b3 : Below Z w w3 := grown_on hb2 z2 own2 gr3; have z3 : Z ≤ w3.heap.size := Nat.le_trans z2 gr3.size; have OW3 : Hid (w3.ownsRow Z 3 1 v3 (L.length + 1) (cis L ++ [iv ((k : Int) + 1)])) := own3; clear own3 gr3; obtain ⟨y3, c3, hy3⟩ := owns_form OW3.out; subst hy3)
        go_roundw
        case rel => exact ⟨k + 1, y3, c3, by omega, by go_num, by rw [HH.out], by rw [hE.out]; go_num, by rw [hE1.out]; simp, by rw [hE1.out]; exact hE2.out _ _ _ OW3.out, b3, z3⟩
        case measure => simp [intOf]; omega
      · have hE : Hid ((cu s (k + 1)).2 = k + 1) := (hcut.out (.inr (.inr d2))).1
        have hE1 : Hid ((cu s (k + 1)).1 = L ++ [((k + 1 : Nat) : Int)]) := (hcut.out (.inr (.inr d2))).2
        have d1' : ¬ (k : Int) + 1 - F = 24 := by omega
        have d0' : ¬ (k : Int) + 1 = (s.size : Int) := by omega
        have e1 : ((k : Int) + 1 - F == 24) = false := by simp [d1']
        have e0 : ((k : Int) + 1 == (s.size : Int)) = false := by simp [d0']
        subst d2
        clear hcut hno
        go_wp2_with fail
        refine (cM _).mono ?_
        rintro e W9 ⟨rfl, e9⟩
        subst W9
        go_wp2_with (at_builtin; refine wpList_append_src rfl _ _ 27 rfl Z 3 _ 1 8 Try.underlying27 info3' rfl (by decide) (.slice x L.length c) L.length (cis L) rfl own2 (some ⟨W1.heap.size, 0, none⟩) 1 1 [iv ((k : Int) + 1)] rfl rfl sr (by simp [Value.oneCell']) (by omega) (by decide) z2 ?_; intro v3 w3 own3 gr3; have b3 : Below Z w w3 := grown_on hb2 z2 own2 gr3; have z3 : Z ≤ w3.heap.size := Nat.le_trans z2 gr3.size; have OW3 : Hid (w3.ownsRow Z 3 1 v3 (L.length + 1) (cis L ++ [iv ((k : Int) + 1)])) := own3; clear own3 gr3; obtain ⟨y3, c3, hy3⟩ := owns_form OW3.out; subst hy3)
        go_roundw
        case rel => exact ⟨k + 1, y3, c3, by omega, by go_num, by rw [HH.out], by rw [hE.out]; go_num, by rw [hE1.out]; simp, by rw [hE1.out]; exact hE2.out _ _ _ OW3.out, b3, z3⟩
        case measure => simp [intOf]; omega
      · have hE : Hid ((cu s (k + 1)).2 = F) := (hno.out ⟨d0, d1, d2⟩).1
        have hE1 : Hid ((cu s (k + 1)).1 = L) := (hno.out ⟨d0, d1, d2⟩).2
        have d1' : ¬ (k : Int) + 1 - F = 24 := by omega
        have d0' : ¬ (k : Int) + 1 = (s.size : Int) := by omega
        have e1 : ((k : Int) + 1 - F == 24) = false := by simp [d1']
        have e0 : ((k : Int) + 1 == (s.size : Int)) = false := by simp [d0']
        subst d2
        clear hcut hno
        go_wp2_with fail
        refine (cM _).mono ?_
        rintro e W9 ⟨rfl, e9⟩
        subst W9
        go_wp2
        go_roundw
        case rel => exact ⟨k + 1, x, c, by omega, by go_num, by rw [HH.out], by rw [hE.out], by rw [hE1.out], by rw [hE1.out]; exact o1, hb1, z1⟩
        case measure => simp [intOf]; omega
    · have hkn : k = s.size := by omega
      subst hkn
      have HO' : Hid (OwnI wr Z (.slice x (cuts s).length c) (cuts s)) := HO
      go_wp2
      go_ret2
      refine ⟨by first | exact hb | exact HZ.out ▸ hb, _, rfl, ?_⟩
      rw [← HL.out]
      first | exact HO'.out | exact HZ.out ▸ HO'.out
end Go.Proofs.Ytnanemkmmokdfaa
