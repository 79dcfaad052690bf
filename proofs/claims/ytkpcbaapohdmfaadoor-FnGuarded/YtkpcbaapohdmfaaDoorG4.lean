import Derived.Test.YtkpcbaapohdmfaaDoorG3
namespace Go.Proofs.YtkpcbaapohdmfaaDoor
open Go.ChangeShapes Go.WideShapes Go.ChangeAt Go.RowKit
set_option linter.unusedVariables false
open Ham

set_option maxHeartbeats 2000000 in
theorem specMend_t (s : ByteArray) (w : World) (h2 : s.size % 2 = 0) (hs : s.size ≤ 120) :
    Calls Tryd.prog 13 #[.string s] w fun e w' => e = .returned (mdV s) ∧ Below w.heap.size w w' := by
  obtain ⟨i0, hi, hz0, hz1, hz2⟩ := info_parts info5
  have hs' : ¬ (120 : Int) < (s.size : Int) := by omega
  have hev : ¬ ((s.size : Int) % 2 = 1) := by omega
  have hdl : ∀ j, decN (wd s j) < 256 := fun j => decN_lt _
  have HIN : Hid _ := @md_in s
  have HOUT : Hid _ := @md_out s
  go_enter Tryd.func13, Tryd.ntmps13
  go_wp2
  go_loopw [5, 6, 7] (fun v m i wr => ∃ (k q : Nat), Hid (q = 2 * k) ∧ q ≤ s.size ∧ i = .int .i64 q ∧ m = .int .i64 (mc s k : Nat) ∧ Own w.heap.size wr v k (fun j => decN (wd s j)) ∧ Hid (∀ j, j < k → wGood s j) ∧ Below w.heap.size w wr) (fun _ _ i _ => s.size - (intOf i).toNat)
  case atStart => exact ⟨0, 0, rfl, Nat.zero_le _, rfl, rfl, Own.nil _ _ _, fun j hj => absurd hj (by omega), Below.refl _ _⟩
  case round =>
    obtain ⟨k, q, hqk, hq, rfl, rfl, hO, hG, hB⟩ := hrel
    by_cases hlt : q < s.size
    · have hlt' : (q : Int) < (s.size : Int) := by omega
      have hidx := run_idx s q hlt
      have hidx1 : ∀ u : World, (Instr.index 9 (.string s) (.int .i64 ((q : Int) + 1))).run Tryd.prog u = .ok (.int .u8 (bb s (q + 1) : Nat)) u := run_idx s (q + 1) (by have := hqk.out; omega)
      have hlt1 : (q : Int) + 1 < (s.size : Int) := by have := hqk.out; omega
      have hlt0 : 0 ≤ (q : Int) + 1 := by omega
      have hwq : IntKind.i64.wrap ((q : Int) + 1) = (q : Int) + 1 := wrap_i64 (n := q + 1) (by omega)
      have hor := wd_or s q k hqk.out
      have hb0 := bb_lt s q
      have hb1 := bb_lt s (q + 1)
      have hwd : wd s k = bb s (q + 1) * 256 + bb s q := by unfold wd; rw [hqk.out]
      have SB : Hid (∀ W, Below wr.heap.size wr W → Below wr.heap.size wr W) := fun _ h => h
      generalize hx0 : bb s q = x0 at *
      generalize hx1 : bb s (q + 1) = x1 at *
      have HWD : Hid _ := hwd
      clear hwd
      by_cases h32 : 32 ≤ x1
      · have h32' : (32 : Int) ≤ (x1 : Int) := by omega
        have hg : ¬ wGood s k := fun h => by have := h.1; have := HWD.out; omega
        have hno : mdV s = mdNo := HOUT.out fun h => hg (h.2.2 k (by have := hqk.out; omega))
        have HNO : Hid _ := hno
        clear hno hg HIN HOUT
        go_wp2
        go_ret3
        exact ⟨by rw [HNO.out]; rfl, hB⟩
      have h32' : ¬ (32 : Int) ≤ (x1 : Int) := by omega
      have hlt8 : wd s k < 8192 := by have := HWD.out; omega
      have hw0 : IntKind.i64.wrap (x0 : Int) = (x0 : Int) := wrap_i64 (by omega)
      have hw1 : IntKind.i64.wrap (x1 : Int) = (x1 : Int) := wrap_i64 (by omega)
      have hw2 : IntKind.i64.wrap ((x1 : Int) * 256) = (x1 : Int) * 256 := wrap_i64 (n := x1 * 256) (by omega)
      go_wp2
      go_cut [8, 9] from 19 to 55 (fun a b wx => a = .int .i64 (decN (wd s k) : Nat) ∧ b = .int .i64 (decC (wd s k) : Nat) ∧ Below wr.heap.size wr wx)
      case first =>
        have n0 : Below wr.heap.size wr wr.drew := (Below.refl _ _).drew
        go_region_held3 (fun W => Below wr.heap.size wr W)
          ((refine SB.out _ ?_; first | assumption | exact Below.drew (Below.refl _ _)))
          (first | (go_at_call 23; refine (l4Decode_any (wd s k) _ hlt8).mono ?_; rintro e w1 ⟨rfl, g1⟩; have g2 := Below.comp (by assumption) g1))
        all_goals go_wp2_with fail
        all_goals go_meet
        all_goals exact ⟨rfl, rfl, by assumption⟩
      obtain ⟨rfl, rfl, g1⟩ := hcut
      generalize wc = w1 at *
      have hO1 := hO.below g1
      have hB1 := hB.trans (g1.mono hB.size)
      have hz1' := hB1.size
      clear hO hB g1 SB hidx hidx1 hor hw0 hw1 hw2 hx0 hx1 hb0 hb1 h32 h32' HWD
      by_cases hg : wGood s k
      · have hc2 : ¬ ((decC (wd s k) : Nat) : Int) = 2 := by have := hg.2; omega
        have HN : Hid _ := byl_one (fun j => decN (wd s j)) k
        have hdk := hdl k
        have HG : Hid (∀ j, j < k + 1 → wGood s j) := fun j hj => by
          by_cases e : j = k
          · rw [e]; exact hg
          · exact hG.out j (by omega)
        have HQ : Hid (q + 2 = 2 * (k + 1)) := show q + 2 = 2 * (k + 1) by have := hqk.out; omega
        have hml := mc_le s k
        have hkl : k ≤ 60 := by have := hqk.out; omega
        have hql : q + 2 ≤ s.size := by have := hqk.out; omega
        have hmc : mc s (k + 1) = if decC (wd s k) = 1 then mc s k + 1 else mc s k := rfl
        clear hG hg hlt1 hlt0 hlt8
        generalize hcc : decC (wd s k) = C at *
        generalize hdd : decN (wd s k) = X at *
        have hmod : (X : Int) % 256 = (X : Int) := by omega
        by_cases h1 : C = 1
        · rw [if_pos h1] at hmc
          have HM : Hid _ := hmc
          subst h1
          clear hmc hdd hcc
          go_wp2_with (at_builtin; refine wpList_append_own _ rfl _ _ 22 rfl w.heap.size 5 i0 (.int .u8 0) 1 1 Tryd.underlying22 hi hz0 hz1 hz2 rfl (by decide) u5 k (byl (fun j => decN (wd s j)) k) rfl (hO1.below (below_alloc _ _)) ⟨w1.heap.size, 0, none⟩ 1 1 [.int .u8 (X : Int)] rfl rfl (news1 _ _ _) (one1 _ _) (by unfold maxLen; omega) (by omega) (by simp; omega) ?_; intro v' w2 hown2 hgrow _)
          rw [HN.out] at hown2
          have b2 : Below w.heap.size w w2 := (hB1.alloc hB1.size _).grown hgrow (by simp; omega) hO1.block
          go_roundw
          case rel => exact ⟨k + 1, q + 2, HQ, hql, by go_num, by rw [HM.out]; go_num, hown2, HG, b2⟩
          case measure => simp [intOf]; omega
        · rw [if_neg h1] at hmc
          have HM : Hid _ := hmc
          have h1' : ¬ (C : Int) = 1 := by omega
          clear hmc hdd hcc
          go_wp2_with (at_builtin; refine wpList_append_own _ rfl _ _ 22 rfl w.heap.size 5 i0 (.int .u8 0) 1 1 Tryd.underlying22 hi hz0 hz1 hz2 rfl (by decide) u5 k (byl (fun j => decN (wd s j)) k) rfl (hO1.below (below_alloc _ _)) ⟨w1.heap.size, 0, none⟩ 1 1 [.int .u8 (X : Int)] rfl rfl (news1 _ _ _) (one1 _ _) (by unfold maxLen; omega) (by omega) (by simp; omega) ?_; intro v' w2 hown2 hgrow _)
          rw [HN.out] at hown2
          have b2 : Below w.heap.size w w2 := (hB1.alloc hB1.size _).grown hgrow (by simp; omega) hO1.block
          go_roundw
          case rel => exact ⟨k + 1, q + 2, HQ, hql, by go_num, by rw [HM.out], hown2, HG, b2⟩
          case measure => simp [intOf]; omega
      · have hno : mdV s = mdNo := HOUT.out fun h => hg (h.2.2 k (by have := hqk.out; omega))
        have HNO : Hid _ := hno
        have hc2 : decC (wd s k) = 2 := by
          rcases Nat.decEq (decC (wd s k)) 2 with q | q
          · exact absurd ⟨hlt8, q⟩ hg
          · exact q
        rw [hc2]
        clear hno hc2 hg HIN HOUT
        go_wp2
        go_ret3
        exact ⟨by rw [HNO.out]; rfl, hB1⟩
    · obtain rfl : q = s.size := by omega
      have hk2 : s.size / 2 = k := by have := hqk.out; omega
      have hlt' : ¬ (s.size : Int) < (s.size : Int) := by omega
      have hyes := HIN.out ⟨h2, hs, fun j hj => hG.out j (by omega)⟩
      rw [hk2] at hyes
      have HY : Hid _ := hyes
      obtain ⟨a, cap, rfl, hat⟩ := hO.slice
      have hcv := conv_any cap hdl hat
      clear hO hat hyes HIN HOUT
      go_wp2
      go_ret3
      exact ⟨by rw [HY.out]; rfl, hB⟩

theorem implMend_any (s : ByteArray) (w : World) (hz : s.size ≤ 9223372036854775807) (ht : Tab w) :
    Calls Tryd.prog 11 #[.string s] w fun e w' => e = .returned (mdV s) ∧ Below w.heap.size w w' := by
  by_cases h : s.size % 2 = 0
  · by_cases h' : s.size ≤ 120
    · exact implMend_t s w h h' ht
    · rw [md_out fun q => h' q.2.1]
      have e1 : ((s.size : Int) % 2 = 0) := by omega
      have e2 : (120 : Int) < (s.size : Int) := by omega
      go_enter Tryd.func11, Tryd.ntmps11
      go_wp2
      go_ret3
      exact ⟨rfl, Below.refl _ _⟩
  · rw [md_out fun q => h q.1]
    have e1 : ¬ ((s.size : Int) % 2 = 0) := by omega
    go_enter Tryd.func11, Tryd.ntmps11
    go_wp2
    go_ret3
    exact ⟨rfl, Below.refl _ _⟩
theorem specMend_any (s : ByteArray) (w : World) (hz : s.size ≤ 9223372036854775807) :
    Calls Tryd.prog 13 #[.string s] w fun e w' => e = .returned (mdV s) ∧ Below w.heap.size w w' := by
  by_cases h : s.size % 2 = 0
  · by_cases h' : s.size ≤ 120
    · exact specMend_t s w h h'
    · rw [md_out fun q => h' q.2.1]
      have e1 : ¬ ((s.size : Int) % 2 = 1) := by omega
      have e2 : (120 : Int) < (s.size : Int) := by omega
      go_enter Tryd.func13, Tryd.ntmps13
      go_wp2
      go_ret3
      exact ⟨rfl, Below.refl _ _⟩
  · rw [md_out fun q => h q.1]
    have e1 : ((s.size : Int) % 2 = 1) := by omega
    go_enter Tryd.func13, Tryd.ntmps13
    go_wp2
    go_ret3
    exact ⟨rfl, Below.refl _ _⟩
theorem lawMend (s : ByteArray) (w : World) (hz : s.size ≤ 9223372036854775807) (ht : Tab w) :
    Calls Tryd.prog 6 #[.string s] w fun e w' => e = .returned (.bool true) ∧ Below w.heap.size w w' := by
  by_cases hbig : s.size ≤ 1048576
  · have hb : ¬ (1048576 : Int) < (s.size : Int) := by omega
    go_enter Tryd.func6, Tryd.ntmps6
    go_wp2_with fail
    refine (specMend_any s _ hz).mono ?_
    rintro e w1 ⟨rfl, g1⟩
    go_wp2_with fail
    refine (implMend_any s _ hz (ht.on g1)).mono ?_
    rintro e w2 ⟨rfl, g2⟩
    unfold mdV
    generalize mdT s = x
    generalize mdN s = y
    generalize mdOk s = z
    go_wp2
    go_ret
    exact ⟨rfl, Below.comp g1 g2⟩
  · have hb : (1048576 : Int) < (s.size : Int) := by omega
    go_enter Tryd.func6, Tryd.ntmps6
    go_wp2
    go_ret
    exact ⟨rfl, Below.refl _ _⟩
end Go.Proofs.YtkpcbaapohdmfaaDoor
