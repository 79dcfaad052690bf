import Derived.Test.YthioomihpfmlmaaDoorW1
/- The program walks down; a path walked on both sides. -/
namespace Go.Proofs.YthioomihpfmlmaaDoor
open Go.ChangeShapes Go.WideShapes Go.ChangeAt Go.RowKit
set_option linter.unusedVariables false
open Hd

attribute [local go_sem] Oper.semAt_some

set_option maxHeartbeats 4000000 in
set_option maxRecDepth 20000 in
theorem walkDown_any (kp : List Nm → ByteArray → Nat) (hkp : ∀ l s, AtN l s (kp l s)) (T : List Ino) (v : Value) (L : List ByteArray) (a' : Option Addr) (c' : Nat) (w : World) (h1 : 1 ≤ T.length) (h60 : T.length ≤ 60) (hok : ∀ k, k < T.length → okN T.length (gn T k)) (hL : L.length ≤ 8)
    (hc : NamAt w v T) (hs : Strs w a' L) :
    Calls Tryd.prog 26 #[v, .slice a' L.length c'] w fun e w' => e = .returned (.tuple #[.int .i64 (((wk kp T 0 L).1 : Nat) : Int), .int .i64 (((wk kp T 0 L).2 : Nat) : Int)]) ∧ Below w.heap.size w w' := by
  obtain ⟨a, ca, rfl, hca, hI⟩ := hc
  obtain ⟨W0, hW0⟩ : ∃ W0, w.alloc (.cells #[.slice a T.length ca] 30) = W0 := ⟨_, rfl⟩
  have q0 : Below w.heap.size w W0 := by subst hW0; exact below_alloc _ _
  have HX : Hid (W0.heap[w.heap.size]? = some (.cells #[.slice a T.length ca] 30 (0, 0))) := by subst hW0; exact al1 _ _
  obtain ⟨x0, -⟩ := box1_cells HX.out
  unfold tv
  obtain ⟨b, off, rfl, hcell⟩ := hI (by omega)
  have HC : Hid (∀ W, Below W0.heap.size W0 W → ∀ i, i < T.length → InAt W b (off + i * 3) (gn T i)) := fun W h i hi => ((hcell i hi).below q0).below h
  have HSt : Hid (∀ W, Below W0.heap.size W0 W → L.length ≠ 0 → ∃ b off, a' = some ⟨b, off, none⟩ ∧ ∀ i, i < L.length → W.cell? ⟨b, off + i, none⟩ = some (.string (gs L i))) := fun W h => Strs.on (Strs.on hs q0) h
  have HOK : Hid _ := hok
  obtain ⟨R1, hR1⟩ : ∃ R1, (wk kp T 0 L).1 = R1 := ⟨_, rfl⟩
  obtain ⟨R2, hR2⟩ : ∃ R2, (wk kp T 0 L).2 = R2 := ⟨_, rfl⟩
  have HR : Hid (wk kp T 0 L = (R1, R2)) := by show _ = _; rw [← hR1, ← hR2]
  rw [hR1, hR2]
  clear hcell hI hca hok hs hR1 hR2
  generalize hTn : T.length = n at *
  generalize hLn : L.length = m at *
  have HT : Hid _ := hTn
  have HL : Hid _ := hLn
  clear hTn hLn
  go_enter Tryd.func26, Tryd.ntmps26
  go_wp2
  clear x0 hW0
  go_loopw [6, 13] (fun s6 s13 wr => ∃ (i k : Nat), i ≤ m ∧ k < n ∧ s6 = .int .i64 k ∧ s13 = .int .i64 i ∧ Hid (wk kp T k (L.drop i) = (R1, R2)) ∧ Below W0.heap.size W0 wr) (fun _ s13 _ => m - (intOf s13).toNat)
  case atStart => exact ⟨0, 0, Nat.zero_le _, by omega, rfl, rfl, by rw [List.drop_zero]; exact HR.out, Below.refl _ _⟩
  case round =>
    obtain ⟨i, k, hi, hk, rfl, rfl, HW, hb⟩ := hrel
    have hkn : (k : Int) < (n : Int) := by omega
    by_cases hlt : i < m
    · obtain ⟨b', off', rfl, hst⟩ := HSt.out _ hb (by omega)
      have y0 := hst i hlt
      clear hst
      obtain ⟨na, nc, u0, u1, u2, u3, -⟩ := HC.out _ hb k hk
      obtain ⟨x0, -⟩ := box1_cells (box_on HX.out hb)
      have hok := HOK.out k hk
      have hw := HW.out
      rw [drop_gs (by rw [HL.out]; exact hlt), wk] at hw
      have hl20 := hok.2.2
      have cA := fun W h => stepDown_any n (gn T k) (gs L i) (kp (gn T k).ns (gs L i)) na nc W hok (hkp _ _) h
      have HTg : Hid (hasN (gn T k).ns (gs L i) (kp (gn T k).ns (gs L i)) = true → tg (gm (gn T k).ns (kp (gn T k).ns (gs L i))) < n) := fun h => (tg_of hok (has_lt h)).2
      clear hok
      generalize kp (gn T k).ns (gs L i) = K at *
      generalize gs L i = s at *
      generalize gn T k = X at *
      obtain ⟨dr, lk, l⟩ := X
      simp only at u0 u1 u2 u3 hw hl20 HTg cA
      have U3 : Hid (Nms wr na l) := u3
      obtain ⟨S1, hS1⟩ : ∃ S1, (sd ⟨dr, lk, l⟩ s K).1 = S1 := ⟨_, rfl⟩
      obtain ⟨S2, hS2⟩ : ∃ S2, (sd ⟨dr, lk, l⟩ s K).2 = S2 := ⟨_, rfl⟩
      rw [hS1, hS2] at cA
      have HS : Hid ((S2 = 0 ∧ S1 < n ∧ wk kp T S1 (L.drop (i + 1)) = (R1, R2)) ∨ (S2 ≠ 0 ∧ R1 = 0 ∧ R2 = S2)) := by
        show _ ∨ _
        rw [← hS1, ← hS2]
        unfold sd
        simp only
        cases dr with
        | false =>
          simp only [Bool.false_eq_true, if_false, Prod.mk.injEq] at hw ⊢
          exact .inr ⟨by omega, hw.1.symm, hw.2.symm⟩
        | true =>
          cases ho : hasN l s K with
          | false =>
            rw [ho] at hw
            simp only [Bool.false_eq_true, if_false, if_true, Prod.mk.injEq] at hw ⊢
            exact .inr ⟨by omega, hw.1.symm, hw.2.symm⟩
          | true =>
            rw [ho] at hw
            simp only [if_true] at hw ⊢
            exact .inl ⟨trivial, HTg.out ho, hw⟩
      clear hw u3 hS1 hS2 HTg
      generalize l.length = nl at *
      go_wp2_with fail
      refine (cA _ U3.out).mono ?_
      rintro e w1 ⟨rfl, b1⟩
      have hb1 := Below.comp hb b1
      clear x0 u0 u1 u2 y0 cA
      rcases HS.out with ⟨hz, hn, hw2⟩ | ⟨hz, e1, e2⟩
      · have hz' : ((S2 : Int) != 0) = false := by simp [hz]
        have HW2 : Hid _ := hw2
        clear hz hw2 HS
        go_wp2_with fail
        go_roundw
        case rel => exact ⟨i + 1, S1, by omega, hn, rfl, by go_num, HW2, hb1⟩
        case measure => simp [intOf]; omega
      · have hz' : ((S2 : Int) != 0) = true := by simp [hz]
        have E1 : Hid _ := e1
        have E2 : Hid _ := e2
        clear hz e1 e2 HS
        go_wp2_with fail
        go_ret2
        exact ⟨by rw [E1.out, E2.out]; rfl, Below.comp q0 hb1⟩
    · have him : i = m := by omega
      subst him
      have hw := HW.out
      rw [List.drop_of_length_le (by rw [HL.out]; exact Nat.le_refl _), wk] at hw
      simp only [Prod.mk.injEq] at hw
      obtain ⟨rfl, rfl⟩ := hw
      go_wp2
      go_ret2
      exact ⟨rfl, Below.comp q0 hb⟩
/-- What walking a path tells, of names that are good or not. -/
def wpR (kp : List Nm → ByteArray → Nat) (B : Bool) (T : List Ino) (p : ByteArray) : Nat × Nat :=
  match PN p with
  | some L => if B then wk kp T 0 L else (0, 1)
  | none => (0, 1)
theorem PN_len {p : ByteArray} {L : List ByteArray} (h : PN p = some L) : L.length ≤ 8 := by
  unfold PN at h
  split at h
  · cases h; simp
  · split at h
    · cases h
    · split at h
      · rename_i hh
        cases h
        exact hh.2.2.1
      · cases h
set_option maxHeartbeats 1000000 in
theorem specWalk_any (kp : List Nm → ByteArray → Nat) (hkp : ∀ l s, AtN l s (kp l s)) (B : Bool) (T : List Ino) (hB : B = true ↔ TS T) (v : Value) (p : ByteArray) (w : World) (hp : p.size ≤ 1048576) (hf : FewI T) (hc : NamAt w v T) :
    Calls Tryd.prog 7 #[v, .string p] w fun e w' => e = .returned (.tuple #[.int .i64 (((wpR kp B T p).1 : Nat) : Int), .int .i64 (((wpR kp B T p).2 : Nat) : Int)]) ∧ Below w.heap.size w w' := by
  obtain ⟨a, ca, rfl, hca, hI⟩ := hc
  obtain ⟨W0, hW0⟩ : ∃ W0, w.alloc (.cells #[.slice a T.length ca] 30) = W0 := ⟨_, rfl⟩
  have q0 : Below w.heap.size w W0 := by subst hW0; exact below_alloc _ _
  have HX : Hid (W0.heap[w.heap.size]? = some (.cells #[.slice a T.length ca] 30 (0, 0))) := by subst hW0; exact al1 _ _
  have HN : Hid (∀ W, Below W0.heap.size W0 W → NamAt W (.agg #[.slice a T.length ca]) T) := fun W h => ⟨a, ca, rfl, hca, (hI.below q0).below h⟩
  have cP := l13Path_any p W0 hp
  have cG : ∀ W, NamAt W (.agg #[.slice a T.length ca]) T → Calls Tryd.prog 21 #[.agg #[.slice a T.length ca]] W (fun e w' => e = .returned (.bool B) ∧ Below W.heap.size W w') := fun W h => (specGood_any _ T W hf h).mono (fun e w' q => ⟨q.1.is hB, q.2⟩)
  have HWk : Hid (∀ L, PN p = some L → B = true → ∀ W a' c', NamAt W (.agg #[.slice a T.length ca]) T → Strs W a' L → Calls Tryd.prog 22 #[.agg #[.slice a T.length ca], .slice a' L.length c'] W fun e w' => e = .returned (.tuple #[.int .i64 (((wk kp T 0 L).1 : Nat) : Int), .int .i64 (((wk kp T 0 L).2 : Nat) : Int)]) ∧ Below W.heap.size W w') := fun L hL hb W a' c' h1 h2 => by
    have hT := hB.1 hb
    exact l13Walk_any kp hkp T _ L a' c' W hT.1 hT.2.1 hT.2.2.2.2.1 (PN_len hL) h1 h2
  obtain ⟨R1, hR1⟩ : ∃ R1, (wpR kp B T p).1 = R1 := ⟨_, rfl⟩
  obtain ⟨R2, hR2⟩ : ∃ R2, (wpR kp B T p).2 = R2 := ⟨_, rfl⟩
  have HR : Hid (wpR kp B T p = (R1, R2)) := by show _ = _; rw [← hR1, ← hR2]
  rw [hR1, hR2]
  unfold tv
  clear hI hca hB hR1 hR2 hf
  generalize T.length = n at *
  obtain ⟨x0, -⟩ := box1_cells HX.out
  go_enter Tryd.func7, Tryd.ntmps7
  go_wp2_with fail
  refine cP.mono ?_
  rintro e w1 ⟨b1, hres⟩
  clear cP x0 hW0
  obtain ⟨x0, -⟩ := box1_cells (box_on HX.out b1)
  have cG1 := cG w1 (HN.out _ b1)
  rcases hres with ⟨L, a', c', hpn, rfl, hc', hs⟩ | ⟨hpn, a', m, c', rfl⟩
  · have HPN : Hid _ := hpn
    have HS : Hid (Strs w1 a' L) := hs
    clear hpn hs
    go_wp2_with fail
    refine cG1.mono ?_
    rintro e w2 ⟨rfl, b2⟩
    have hb2 := Below.comp b1 b2
    clear x0 cG1
    obtain ⟨x0, -⟩ := box1_cells (box_on HX.out hb2)
    cases B with
    | false =>
      have h9 := HR.out
      unfold wpR at h9
      rw [HPN.out] at h9
      simp only [Bool.false_eq_true, if_false, Prod.mk.injEq] at h9
      obtain ⟨rfl, rfl⟩ := h9
      go_wp2_with fail
      go_ret2
      exact ⟨rfl, Below.comp q0 hb2⟩
    | true =>
      have h9 := HR.out
      unfold wpR at h9
      rw [HPN.out] at h9
      simp only [if_true] at h9
      have cW := HWk.out L HPN.out (by first | rfl | trivial) w2 a' c' (HN.out _ hb2) (Strs.on HS.out b2)
      rw [h9] at cW
      clear h9 HPN HS HR HWk
      generalize L.length = m at *
      go_wp2_with fail
      refine cW.mono ?_
      rintro e w3 ⟨rfl, b3⟩
      clear cW x0
      go_wp2_with fail
      go_ret2
      exact ⟨rfl, Below.comp q0 (Below.comp hb2 b3)⟩
  · have h9 := HR.out
    unfold wpR at h9
    rw [hpn] at h9
    simp only [Prod.mk.injEq] at h9
    obtain ⟨rfl, rfl⟩ := h9
    clear hpn HR HWk
    go_wp2_with fail
    refine cG1.mono ?_
    rintro e w2 ⟨rfl, b2⟩
    clear x0 cG1
    cases B
    all_goals
      go_wp2_with fail
      go_ret2
      exact ⟨rfl, Below.comp q0 (Below.comp b1 b2)⟩
set_option maxHeartbeats 1000000 in
theorem implWalk_any (kp : List Nm → ByteArray → Nat) (hkp : ∀ l s, AtN l s (kp l s)) (B : Bool) (T : List Ino) (hB : B = true ↔ TS T) (v : Value) (p : ByteArray) (w : World) (hp : p.size ≤ 1048576) (hf : FewI T) (hc : NamAt w v T) :
    Calls Tryd.prog 9 #[v, .string p] w fun e w' => e = .returned (.tuple #[.int .i64 (((wpR kp B T p).1 : Nat) : Int), .int .i64 (((wpR kp B T p).2 : Nat) : Int)]) ∧ Below w.heap.size w w' := by
  obtain ⟨a, ca, rfl, hca, hI⟩ := hc
  obtain ⟨W0, hW0⟩ : ∃ W0, w.alloc (.cells #[.slice a T.length ca] 30) = W0 := ⟨_, rfl⟩
  have q0 : Below w.heap.size w W0 := by subst hW0; exact below_alloc _ _
  have HX : Hid (W0.heap[w.heap.size]? = some (.cells #[.slice a T.length ca] 30 (0, 0))) := by subst hW0; exact al1 _ _
  have HN : Hid (∀ W, Below W0.heap.size W0 W → NamAt W (.agg #[.slice a T.length ca]) T) := fun W h => ⟨a, ca, rfl, hca, (hI.below q0).below h⟩
  have cP := namesIn_any p W0 hp
  have cG : ∀ W, NamAt W (.agg #[.slice a T.length ca]) T → Calls Tryd.prog 25 #[.agg #[.slice a T.length ca]] W (fun e w' => e = .returned (.bool B) ∧ Below W.heap.size W w') := fun W h => (implGood_any _ T W hf h).mono (fun e w' q => ⟨q.1.is hB, q.2⟩)
  have HWk : Hid (∀ L, PN p = some L → B = true → ∀ W a' c', NamAt W (.agg #[.slice a T.length ca]) T → Strs W a' L → Calls Tryd.prog 26 #[.agg #[.slice a T.length ca], .slice a' L.length c'] W fun e w' => e = .returned (.tuple #[.int .i64 (((wk kp T 0 L).1 : Nat) : Int), .int .i64 (((wk kp T 0 L).2 : Nat) : Int)]) ∧ Below W.heap.size W w') := fun L hL hb W a' c' h1 h2 => by
    have hT := hB.1 hb
    exact walkDown_any kp hkp T _ L a' c' W hT.1 hT.2.1 hT.2.2.2.2.1 (PN_len hL) h1 h2
  obtain ⟨R1, hR1⟩ : ∃ R1, (wpR kp B T p).1 = R1 := ⟨_, rfl⟩
  obtain ⟨R2, hR2⟩ : ∃ R2, (wpR kp B T p).2 = R2 := ⟨_, rfl⟩
  have HR : Hid (wpR kp B T p = (R1, R2)) := by show _ = _; rw [← hR1, ← hR2]
  rw [hR1, hR2]
  unfold tv
  clear hI hca hB hR1 hR2 hf
  generalize T.length = n at *
  obtain ⟨x0, -⟩ := box1_cells HX.out
  go_enter Tryd.func9, Tryd.ntmps9
  go_wp2_with fail
  refine cP.mono ?_
  rintro e w1 ⟨b1, hres⟩
  clear cP x0 hW0
  obtain ⟨x0, -⟩ := box1_cells (box_on HX.out b1)
  have cG1 := cG w1 (HN.out _ b1)
  rcases hres with ⟨L, a', c', hpn, rfl, hc', hs⟩ | ⟨hpn, a', m, c', rfl⟩
  · have HPN : Hid _ := hpn
    have HS : Hid (Strs w1 a' L) := hs
    clear hpn hs
    go_wp2_with fail
    refine cG1.mono ?_
    rintro e w2 ⟨rfl, b2⟩
    have hb2 := Below.comp b1 b2
    clear x0 cG1
    obtain ⟨x0, -⟩ := box1_cells (box_on HX.out hb2)
    cases B with
    | false =>
      have h9 := HR.out
      unfold wpR at h9
      rw [HPN.out] at h9
      simp only [Bool.false_eq_true, if_false, Prod.mk.injEq] at h9
      obtain ⟨rfl, rfl⟩ := h9
      go_wp2_with fail
      go_ret2
      exact ⟨rfl, Below.comp q0 hb2⟩
    | true =>
      have h9 := HR.out
      unfold wpR at h9
      rw [HPN.out] at h9
      simp only [if_true] at h9
      have cW := HWk.out L HPN.out (by first | rfl | trivial) w2 a' c' (HN.out _ hb2) (Strs.on HS.out b2)
      rw [h9] at cW
      clear h9 HPN HS HR HWk
      generalize L.length = m at *
      go_wp2_with fail
      refine cW.mono ?_
      rintro e w3 ⟨rfl, b3⟩
      clear cW x0
      go_wp2_with fail
      go_ret2
      exact ⟨rfl, Below.comp q0 (Below.comp hb2 b3)⟩
  · have h9 := HR.out
    unfold wpR at h9
    rw [hpn] at h9
    simp only [Prod.mk.injEq] at h9
    obtain ⟨rfl, rfl⟩ := h9
    clear hpn HR HWk cG1
    go_wp2_with fail
    go_ret2
    exact ⟨rfl, Below.comp q0 b1⟩
end Go.Proofs.YthioomihpfmlmaaDoor
