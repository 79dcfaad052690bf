import Derived.Test.YtnanemkmmokdfaaY2
import Derived.Test.YtnanemkmmokdfaaKB
import Derived.Test.YtnanemkmmokdfaaG2
import Derived.Test.YtnanemkmmokdfaaX2
/- The specification: BytesKept; its law. -/
namespace Go.Proofs.Ytnanemkmmokdfaa
open Go.ChangeShapes Go.WideShapes Go.ChangeAt Go.RowKit Go.Maps
set_option linter.unusedVariables false
open Hd

attribute [local go_sem] Oper.semAt_some

set_option maxHeartbeats 2000000 in
theorem specBytes_any (v : Value) (u : Va) (B : Bool) (w : World) (hc : VAt w v u) (hf : FewV u) (hs : Sml u) (hB : B = true ↔ GV u) :
    Calls Try.prog 45 #[v] w fun e w' => e = .returned (.tuple #[.int .i64 (bkN u B : Nat), .int .i64 (bkM u B : Nat), .bool B]) ∧ Below w.heap.size w w' := by
  have cG := fun W h => specGood_any v u B W (hc.below h) hf hs hB
  obtain ⟨a, ca, a', ca', rfl, k1, k2, hP, hF⟩ := hc
  have HV : Hid (∀ W, Below w.heap.size w W → VAt W (vv a u.pc.length ca a' u.fs.length ca') u) := fun W h => ⟨a, ca, a', ca', rfl, k1, k2, hP.below h, hF.below h⟩
  have HFi : Hid (∀ W, Below w.heap.size w W → Fis W a' u.fs) := fun W h => hF.below h
  have HN : Hid (∀ W, Below w.heap.size w W → Nms W a u.pc) := fun W h => hP.below h
  clear hP hF k1 k2
  obtain ⟨W0, hW0⟩ : ∃ W0, w.alloc (.cells #[.slice a u.pc.length ca, .slice a' u.fs.length ca'] 40) = W0 := ⟨_, rfl⟩
  have q0 : Below w.heap.size w W0 := by subst hW0; exact below_alloc _ _
  have H1 : Hid (W0.heap[w.heap.size]? = some (.cells #[.slice a u.pc.length ca, .slice a' u.fs.length ca'] 40 (0, 0))) := by subst hW0; exact al1 _ _
  obtain ⟨i0, i1, -, -⟩ := box2_cells H1.out
  have HB : Hid (B = true ↔ GV u) := hB
  have hs1 := hs.1
  have hs2 := hs.2.1
  clear hf hs hB
  have c := cG W0 q0
  clear cG
  obtain ⟨RN, hRN⟩ : ∃ RN : Nat, bkN u B = RN := ⟨_, rfl⟩
  obtain ⟨RM, hRM⟩ : ∃ RM : Nat, bkM u B = RM := ⟨_, rfl⟩
  have HRN : Hid (bkN u B = RN) := hRN
  have HRM : Hid (bkM u B = RM) := hRM
  rw [hRN, hRM]
  clear hRN hRM
  obtain ⟨n, hn⟩ : ∃ n, u.pc.length = n := ⟨_, rfl⟩
  obtain ⟨m, hm⟩ : ∃ m, u.fs.length = m := ⟨_, rfl⟩
  have Hn : Hid (u.pc.length = n) := hn
  have Hm : Hid (u.fs.length = m) := hm
  unfold vv at *
  rw [hn, hm] at H1 c HV hW0 ⊢
  rw [hn] at i0 hs1
  rw [hm] at i1 hs2
  clear hn hm
  cases B with
  | false =>
    have HR0 : Hid (RN = 0 ∧ RM = 0) := ⟨by have := HRN.out; unfold bkN at this; simpa using this.symm, by have := HRM.out; unfold bkM at this; simpa using this.symm⟩
    go_enter Try.func45, Try.ntmps45
    go_wp2_with fail
    refine c.mono ?_
    rintro e w1 ⟨rfl, b1⟩
    go_wp2_with fail
    go_ret3
    exact ⟨by rw [HR0.out.1, HR0.out.2]; rfl, Below.comp q0 b1⟩
  | true =>
    have HGv : Hid (GV u) := HB.out.1 rfl
    have HRN' : Hid (sm (pz u) n = RN) := by show _ = _; have := HRN.out; unfold bkN kz at this; rw [if_pos rfl, Hn.out] at this; exact this
    have HRM' : Hid (fz u m = RM) := by
      show _ = _
      have := HRM.out
      unfold bkM az at this
      rw [if_pos rfl] at this
      rw [← Hm.out, fz_is HGv.out _ (Nat.le_refl _)]
      exact this
    have HSz : Hid (∀ i, i < n → pz u i ≤ 24) := fun i hi => (HGv.out.2.2 i (by rw [Hn.out]; exact hi)).1.2
    have hn1 : n ≤ 100 := by have := HGv.out.1.1; rw [Hn.out] at this; exact this
    have hm1 : m ≤ 20 := by have := HGv.out.1.2; rw [Hm.out] at this; exact this
    clear HRN HRM HB
    go_enter Try.func45, Try.ntmps45
    go_wp2_with fail
    refine c.mono ?_
    rintro e w1 ⟨rfl, b1⟩
    have g1 := Below.comp q0 b1
    clear i0 i1 hW0 c
    have H2 : Hid (w1.heap[w.heap.size]? = some (.cells #[.slice a n ca, .slice a' m ca'] 40 (0, 0))) := box_on H1.out b1
    obtain ⟨i0, i1, -, -⟩ := box2_cells H2.out
    go_wp2_with fail
    clear i0 i1
    go_loopw [5, 17] (fun ss i ws => ∃ (k : Nat), k ≤ n ∧ i = .int .i64 (k : Int) ∧ ss = .int .i64 (sm (pz u) k : Nat) ∧ Below w1.heap.size w1 ws) (fun _ i _ => n - (intOf i).toNat)
    case atStart => exact ⟨0, Nat.zero_le _, rfl, rfl, Below.refl _ _⟩
    case round =>
      obtain ⟨k, hk, rfl, rfl, hb⟩ := hrel
      have hbw := Below.comp g1 hb
      by_cases hlt : k < n
      · obtain ⟨pb, poff, rfl, hpc⟩ := HN.out wr hbw (by rw [Hn.out]; omega)
        obtain ⟨z0, z1⟩ := hpc k (by rw [Hn.out]; exact hlt)
        clear hpc
        have hkn : (k : Int) < (n : Int) := by omega
        have hb1 := sm_le (f := pz u) (M := 24) k (fun i hi => HSz.out i (by omega))
        have hb2 := HSz.out k hlt
        have HSt : Hid (sm (pz u) (k + 1) = sm (pz u) k + pz u k) := rfl
        have hpz : pz u k = (gm u.pc k).nm.size := rfl
        generalize (gm u.pc k).nm = tx at *
        generalize (gm u.pc k).fl = fl at *
        generalize sm (pz u) k = S at *
        generalize pz u k = P at *
        subst hpz
        obtain ⟨E, hE⟩ : ∃ E, wr.heap.size = E := ⟨_, rfl⟩
        obtain ⟨W2, hW2⟩ : ∃ W2, wr.alloc (.cells #[.string tx, .int .i64 fl] 83) = W2 := ⟨_, rfl⟩
        have b2 : Below wr.heap.size wr W2 := by subst hW2; exact below_alloc _ _
        obtain ⟨u0, u1, -, -⟩ := box2_cells (show W2.heap[E]? = some (.cells #[.string tx, .int .i64 fl] 83 (0, 0)) by subst hW2 hE; exact al1 _ _)
        have hb3 := Below.comp hb b2
        go_wp2
        go_roundw
        case rel => exact ⟨k + 1, by omega, by go_num, by rw [HSt.out]; go_num, hb3⟩
        case measure => simp [intOf]; omega
      · have hkn : k = n := by omega
        subst hkn
        have hS : sm (pz u) k = RN := HRN'.out
        have HSk : Hid _ := hS
        have hSb := sm_le (f := pz u) (M := 24) k (fun i hi => HSz.out i hi)
        rw [hS] at hSb ⊢
        clear hS
        obtain ⟨V, hV⟩ : ∃ V, V = wr := ⟨_, rfl⟩
        subst hV
        have H3 : Hid (V.heap[w.heap.size]? = some (.cells #[.slice a k ca, .slice a' m ca'] 40 (0, 0))) := box_on H2.out hb
        obtain ⟨i0, i1, -, -⟩ := box2_cells H3.out
        go_wp2_with fail
        clear i0 i1
        go_loopw [8, 30] (fun ss i ws => ∃ (j : Nat), j ≤ m ∧ i = .int .i64 (j : Int) ∧ ss = .int .i64 (fz u j : Nat) ∧ Below V.heap.size V ws) (fun _ i _ => m - (intOf i).toNat)
        case atStart => exact ⟨0, Nat.zero_le _, rfl, rfl, Below.refl _ _⟩
        case round =>
          obtain ⟨j, hj, rfl, rfl, hb2⟩ := hrel
          have hbw2 := Below.comp hbw hb2
          by_cases hlt : j < m
          · obtain ⟨b, off, ea, hcell⟩ := HFi.out wr hbw2 (by rw [Hm.out]; omega)
            subst ea
            obtain ⟨fa, fc, k1, k2, -⟩ := hcell j (by rw [Hm.out]; exact hlt)
            clear hcell
            have hjn : (j : Int) < (m : Int) := by omega
            have hFo := HGv.out.2.1 j (by rw [Hm.out]; exact hlt)
            have hPo := HGv.out.2.2
            obtain ⟨hT1, hT2⟩ := good_texts HGv.out (i := j) (by rw [Hm.out]; exact hlt)
            have HSt : Hid (fz u (j + 1) = fz u j + cz (txs u.pc (gf u.fs j)) (txs u.pc (gf u.fs j)).length) := rfl
            have hfz : fz u j ≤ j * 4800 := by
              have key : ∀ i, i ≤ j → fz u i ≤ i * 4800 := by
                intro i
                induction i with
                | zero => intro _; simp [fz]
                | succ i ih =>
                  intro hi
                  have := ih (by omega)
                  have := (good_texts HGv.out (i := i) (by rw [Hm.out]; omega)).2
                  rw [fz, Nat.succ_mul]
                  omega
              exact key j (Nat.le_refl _)
            have hcs : (ct (txs u.pc (gf u.fs j))).size = cz (txs u.pc (gf u.fs j)) (txs u.pc (gf u.fs j)).length := cat_size _ _
            have cX := fun W (hV : VAt W (vv a u.pc.length ca (some ⟨b, off, none⟩) u.fs.length ca') u) (hA : Ints W fa (gf u.fs j)) => l15Text_any _ u fa fc (gf u.fs j) W hV (by rw [Hn.out]; exact hs1) hFo.2 hFo.1 (fun i hi => (hPo i hi).1.2) hA
            have HCX : Hid (∀ W, VAt W (vv a k ca (some ⟨b, off, none⟩) m ca') u → Ints W fa (gf u.fs j) → Calls Try.prog 72 #[.agg #[.slice a k ca, .slice (some ⟨b, off, none⟩) m ca'], .agg #[.slice fa (gf u.fs j).length fc]] W fun e w' => e = .returned (.string (ct (txs u.pc (gf u.fs j)))) ∧ Below W.heap.size W w') := fun W hV hA => by
              have hV' : VAt W (vv a u.pc.length ca (some ⟨b, off, none⟩) u.fs.length ca') u := by rw [Hn.out, Hm.out]; exact hV
              have := cX W hV' hA
              unfold vv at this
              rw [Hn.out, Hm.out] at this
              exact this
            have HIn : Hid (∀ W, Below wr.heap.size wr W → Ints W fa (gf u.fs j)) := fun W h => k2.below h
            clear cX hFo hPo k2
            generalize ct (txs u.pc (gf u.fs j)) = T at *
            generalize cz (txs u.pc (gf u.fs j)) (txs u.pc (gf u.fs j)).length = Z at *
            generalize fz u j = S at *
            obtain ⟨nl, hnl⟩ : ∃ nl, (gf u.fs j).length = nl := ⟨_, rfl⟩
            rw [hnl] at k1 HCX
            obtain ⟨E, hE⟩ : ∃ E, wr.heap.size = E := ⟨_, rfl⟩
            obtain ⟨W2, hW2⟩ : ∃ W2, wr.alloc (.cells #[.slice fa nl fc] 81) = W2 := ⟨_, rfl⟩
            have b2 : Below wr.heap.size wr W2 := by subst hW2; exact below_alloc _ _
            obtain ⟨y0, -⟩ := box1_cells (show W2.heap[E]? = some (.cells #[.slice fa nl fc] 81 (0, 0)) by subst hW2 hE; exact al1 _ _)
            have hb3 := Below.comp hb2 b2
            obtain ⟨i0, i1, -, -⟩ := box2_cells (box_on H3.out hb3)
            have cX := HCX.out W2 (HV.out W2 (Below.comp hbw hb3)) (HIn.out _ b2)
            clear HCX HIn hnl hT1
            go_wp2_with fail
            refine cX.mono ?_
            rintro e w4 ⟨rfl, b4⟩
            have hb5 := Below.comp hb3 b4
            go_wp2_with fail
            go_roundw
            case rel => exact ⟨j + 1, by omega, by go_num, by rw [HSt.out, ← hcs]; go_num, hb5⟩
            case measure => simp [intOf]; omega
          · have hjm : j = m := by omega
            subst hjm
            have hS : fz u j = RM := HRM'.out
            rw [hS]
            clear hS
            go_wp2
            go_ret3
            exact ⟨rfl, hbw2⟩
theorem lawBytes_all (v : Value) (u : Va) (w : World) (hf : FewV u) (hD : VAt w v u) :
    Calls Try.prog 12 #[v] w fun e w' => e = .returned (.bool true) ∧ Below w.heap.size w w' := by
  obtain ⟨B, hB⟩ := tel_ex (GV u)
  exact lawBytesKept v u (bkN u B : Nat) (bkM u B : Nat) B w hf hD (fun hs W x h => specBytes_any x u B W h hf hs hB) (fun hs W x h => implBytes_any x u B W h hf hs hB)
end Go.Proofs.Ytnanemkmmokdfaa
