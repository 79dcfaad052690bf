import Derived.Test.YtmijalmihfgolaaDoorT5
/- A transaction read out of its text: the specification's side. -/
namespace Go.Proofs.YtmijalmihfgolaaDoor
open Go.ChangeShapes Go.WideShapes Go.ChangeAt Go.RowKit
set_option linter.unusedVariables false
open Tx

attribute [local go_sem] Oper.semAt_some

theorem index_str (s : ByteArray) (A t : Nat) (h : A < s.size) (ht : (bt s A).toNat = t) (w : World) : (Instr.index 9 (.string s) (.int .i64 (A : Int))).run Tryd.prog w = .ok (.int .u8 (t : Int)) w := by
  have h' : s[A].toNat = t := by rw [← ht, bt_at h]
  simp [go_sem, h, h']

set_option maxRecDepth 20000 in
set_option maxHeartbeats 4000000 in
theorem l11Read_any (s : ByteArray) (w : World) (hs : s.size ≤ 9223372036854775807) :
    Calls Tryd.prog 83 #[.string s] w fun e w' => RdRes w w' e s := by
  have HN : Hid (∀ w', Below w.heap.size w w' → rdB s = false → RdRes w w' (.returned (.tuple #[.slice none 0 0, .bool false])) s) := fun w' h1 h2 => RdRes.no h1 h2
  have HB : Hid (rdB s = (lenB s && (txB 32 (rdL s) && sameT (tx (rdL s)) s))) := rfl
  by_cases h0 : s.size = 0
  · have hE : ((s.size : Int) == 0) = true := by simp [h0]
    have hr : Hid (rdB s = false) := by rw [HB.out, show lenB s = false from decide_eq_false (fun h => h.1 h0)]; rfl
    go_enter Tryd.func83, Tryd.ntmps83
    go_wp2
    go_ret2
    exact HN.out _ (Below.refl _ _) hr.out
  have hE : ((s.size : Int) == 0) = false := by rw [beq_eq_false_iff_ne]; omega
  have h0' : 0 < s.size := by omega
  obtain ⟨m, hm⟩ : ∃ m, (bt s 0).toNat = m := ⟨_, rfl⟩
  have hm' : s[0].toNat = m := by rw [← hm, bt_at h0']
  have hm256 : m < 256 := by rw [← hm]; exact UInt8.toNat_lt _
  have HM : Hid _ := hm
  clear hm
  by_cases h1 : s.size = 2 + m * 9
  · have hl : lenB s = true := lenB_iff.2 ⟨h0, by rw [HM.out]; exact h1⟩
    have h1' : ((s.size : Int) != 2 + (m : Int) * 9) = false := by simp; omega
    have h2 : 2 ≤ s.size := by omega
    have H1 : Hid (s.size = 2 + m * 9) := h1
    have HL : Hid (lenB s = true) := hl
    have Hlen : Hid ((rdL s).length = m) := by rw [rdL_len, HM.out]; exact rfl
    have Htk : Hid (∀ k, k < m → (rdL s).take (k + 1) = (rdL s).take k ++ [rdW s k]) := fun k hk => rdL_take s (by rw [HM.out]; exact hk)
    have Hall : Hid ((rdL s).take m = rdL s) := by rw [← HM.out]; exact rdL_all s
    have Htl : Hid (∀ k, k ≤ m → ((rdL s).take k).length = k) := fun k hk => by rw [List.length_take, Hlen.out]; omega
    have HRs : Hid (∀ k, k ≤ m → (rst s k).size = (m - k) * 9) := fun k hk => by have := rst_size hl (k := k) (by rw [HM.out]; exact hk); rw [HM.out] at this; exact this
    have HRw : Hid (∀ k, k < m → (⟨((bt (rst s k) 0).toNat : Int), (rst s k).extract 1 9⟩ : Wr) = rdW s k) := fun k hk => rst_W hl (by rw [HM.out]; exact hk)
    have HRn : Hid (∀ k, k < m → (rst s k).extract 9 (rst s k).size = rst s (k + 1)) := fun k hk => rst_next hl (by rw [HM.out]; exact hk)
    have HFw : Hid (Few (rdL s)) := rd_few hl
    have HR0 : Hid (s.extract 1 (s.size - 1) = rst s 0) := rfl
    clear h1 hl
    go_enter Tryd.func83, Tryd.ntmps83
    go_wp2
    go_loopw [4, 5] (fun v i wr => ∃ (k : Nat), k ≤ m ∧ i = .int .i64 k ∧ Hid (OwnW wr w.heap.size v ((rdL s).take k)) ∧ Hid (Below w.heap.size w wr)) (fun _ i _ => m - (intOf i).toNat)
    case atStart => exact ⟨0, Nat.zero_le _, rfl, by rw [List.take_zero]; exact OwnW.nil _ _, Below.refl _ _⟩
    case round =>
      obtain ⟨k, hk, rfl, hO, hb⟩ := hrel
      have hOw := hO.out
      unfold OwnW at hOw
      rw [Htl.out k hk] at hOw
      obtain ⟨y, yc, hy⟩ := owns_form hOw
      subst hy
      by_cases hlt : k < m
      · have hT := Htk.out k hlt
        have hlt' : (k : Int) < (m : Int) := by omega
        obtain ⟨A, hA⟩ : ∃ A, 1 + k * 9 = A := ⟨_, rfl⟩
        have hA' : 1 + (k : Int) * 9 = (A : Int) := by omega
        have hAs : A + 9 < s.size := by rw [H1.out]; omega
        have hAm : A ≤ 3000 := by omega
        obtain ⟨t, ht⟩ : ∃ t, (bt s A).toNat = t := ⟨_, rfl⟩
        have ht256 : t < 256 := by rw [← ht]; exact UInt8.toNat_lt _
        have hix : ∀ w, (Instr.index 9 (.string s) (.int .i64 (A : Int))).run Tryd.prog w = .ok (.int .u8 (t : Int)) w := fun w => index_str s A t (by omega) ht w
        have hsl : ∀ w, (Instr.slice 9 (.string s) (some (.int .i64 ((A : Int) + 1))) (some (.int .i64 ((A : Int) + 1 + 8))) none).run Tryd.prog w = .ok (.string (s.extract (A + 1) (A + 9))) w := fun w => by
          have := slice_mid s (A + 1) (A + 9) (by omega) (by omega) w
          rw [show (((A + 1 : Nat) : Int)) = (A : Int) + 1 by omega, show (((A + 9 : Nat) : Int)) = (A : Int) + 1 + 8 by omega] at this
          exact this
        have hW : (⟨(t : Int), s.extract (A + 1) (A + 9)⟩ : Wr) = rdW s k := by
          rw [rdW, ← ht, hA, show 2 + k * 9 = A + 1 by omega, show 10 + k * 9 = A + 9 by omega]
        have HW : Hid _ := hW
        have HT : Hid _ := hT
        have HO : Hid _ := hOw
        have hwr : IntKind.i64.wrap (t : Int) = (t : Int) := wrapI (by omega) (by omega)
        have hw1 : IntKind.i64.wrap ((A : Int) + 1) = (A : Int) + 1 := wrapI (by omega) (by omega)
        have hw2 : IntKind.i64.wrap ((A : Int) + 1 + 8) = (A : Int) + 1 + 8 := wrapI (by omega) (by omega)
        have hzw : w.heap.size ≤ wr.heap.size := hb.out.size
        have O2 : Hid (∀ W, Below wr.heap.size wr W → W.ownsRow w.heap.size 63 2 (.slice y k yc) k (cws ((rdL s).take k))) := fun W hW => owns_below HO.out hW
        clear hW hT ht hOw hO hA
        go_wp2
        go_region_held3 (fun _ => True) (trivial)
          (first
          | (refine step_append_src (by rfl) _ _ 30 (by rfl) w.heap.size 63 _ 2 24 Tryd.underlying30 info42 rfl (by decide) (.slice y k yc) k _ rfl (O2.out _ (by first | exact below_alloc _ _ | exact Below.drew (below_alloc _ _) | exact Below.comp (Below.drew (Below.refl _ wr)) (below_alloc _ _))) (some ⟨wr.heap.size, 0, none⟩) 1 1 (cws [⟨(t : Int), s.extract (A + 1) (A + 9)⟩]) rfl rfl (srcW_one wr ⟨(t : Int), s.extract (A + 1) (A + 9)⟩ 63) (cws_one _) (by omega) (by decide) (Nat.le_trans hzw (below_alloc wr _).size) ?_; intro v3 w3 own3 gr3; have b3 : Below w.heap.size wr w3 := (by first | exact grown_on ((below_alloc wr _).mono hzw) (Nat.le_trans hzw (below_alloc wr _).size) (O2.out _ (below_alloc _ _)) gr3 | exact grown_on (Below.drew ((below_alloc wr _).mono hzw)) (Nat.le_trans hzw (below_alloc wr _).size) (O2.out _ (Below.drew (below_alloc _ _))) gr3); obtain ⟨y3, cy3, rfl⟩ := owns_form own3))
        all_goals go_wp2
        all_goals go_roundw
        case rel =>
          refine ⟨k + 1, by omega, by go_num, ?_, hb.out.trans b3⟩
          show OwnW _ _ _ _
          unfold OwnW
          rw [Htl.out (k + 1) (by omega), HT.out, cws_app, ← HW.out]
          exact own3
        case measure => simp [intOf]; omega
      · obtain rfl : k = m := by omega
        have hf : OwnW wr w.heap.size (.slice y k yc) (rdL s) := by
          have := hO.out
          rw [Hall.out] at this
          exact this
        obtain ⟨y', c', e', hcap, mf⟩ := OwnW.form hf
        have cT := l11Txn_any y' c' (rdL s) 32 wr (by omega) (by rw [Hlen.out]; omega) hcap HFw.out mf.wrts
        have cX : Hid (txB 32 (rdL s) = true → ∀ w1, Below wr.heap.size wr w1 → Calls Tryd.prog 55 #[.slice y' (rdL s).length c'] w1 fun e w' => e = .returned (.string (tx (rdL s))) ∧ Below w1.heap.size w1 w') := fun h w1 hb1 => l11Text_any y' c' (rdL s) w1 h (At2.below mf.wrts hb1)
        rw [← e'] at cT cX
        obtain ⟨T, hT⟩ : ∃ T, txB 32 (rdL s) = T := ⟨_, rfl⟩
        have hlb := HL.out
        have hB := HB.out
        rw [hlb, hT, Bool.true_and] at hB
        rw [hT] at cT cX
        have HF : Hid _ := hf
        cases T with
        | false =>
          have hr : Hid (rdB s = false) := hB
          clear hf mf hO hOw hB HB e' hT hlb
          go_wp2_with (go_at_call 53; refine cT.mono ?_; rintro e w2 ⟨rfl, b2⟩)
          go_ret2
          exact HN.out _ (Below.comp hb.out b2) hr.out
        | true =>
          rw [Bool.true_and] at hB
          by_cases heq : tx (rdL s) = s
          · have hr : Hid (rdB s = true) := by rw [hB, sameT_iff.2 heq]; exact rfl
            rw [heq] at cX
            clear hf mf hO hOw hB HB e' hT hlb heq
            go_wp2_with (first
              | (go_at_call 53; refine cT.mono ?_; rintro e w2 ⟨rfl, b2⟩)
              | (go_at_call 55; refine (cX.out (by simp) _ b2).mono ?_; rintro e w3 ⟨rfl, b3⟩))
            go_ret2
            exact RdRes.yes (Below.comp hb.out (Below.comp b2 b3)) hr.out (owns_below HF.out (Below.comp b2 b3))
          · have hr : Hid (rdB s = false) := by
              rw [hB]
              cases q : sameT (tx (rdL s)) s with
              | false => exact rfl
              | true => exact absurd (sameT_iff.1 q) heq
            have heq' : ((tx (rdL s)).toList == s.toList) = false := same_no heq
            generalize tx (rdL s) = X at *
            clear hf mf hO hOw hB HB e' hT hlb heq
            go_wp2_with (first
              | (go_at_call 53; refine cT.mono ?_; rintro e w2 ⟨rfl, b2⟩)
              | (go_at_call 55; refine (cX.out (by simp) _ b2).mono ?_; rintro e w3 ⟨rfl, b3⟩))
            go_ret2
            exact HN.out _ (Below.comp hb.out (Below.comp b2 b3)) hr.out
  · have hr : Hid (rdB s = false) := by rw [HB.out, show lenB s = false from decide_eq_false (fun h => h1 (by rw [← HM.out]; exact h.2))]; rfl
    have h1' : ((s.size : Int) != 2 + (m : Int) * 9) = true := by simp; omega
    have HN1 : Hid (¬ s.size = 2 + m * 9) := h1
    clear h1
    go_enter Tryd.func83, Tryd.ntmps83
    go_wp2
    go_ret2
    exact HN.out _ (Below.refl _ _) hr.out
end Go.Proofs.YtmijalmihfgolaaDoor
