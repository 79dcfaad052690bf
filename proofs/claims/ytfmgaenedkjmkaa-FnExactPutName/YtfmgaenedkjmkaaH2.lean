import Derived.Test.YtfmgaenedkjmkaaH1
import Derived.Test.YtfmgaenedkjmkaaP3
/- Names looked for in a row, on both sides. -/
namespace Go.Proofs.Ytfmgaenedkjmkaa
open Go.ChangeShapes Go.WideShapes Go.ChangeAt Go.RowKit
set_option linter.unusedVariables false
open Hd

attribute [local go_sem] Oper.semAt_some

theorem eqs_is (a b : ByteArray) : (a.toList == b.toList) = decide (a = b) := by
  rw [Lib.toList_data, Lib.toList_data, Bool.eq_iff_iff, beq_iff_eq, decide_eq_true_eq]
  exact ⟨bt_inj, fun h => by rw [h]⟩
set_option maxHeartbeats 1000000 in
theorem l8At_any (a : Option Addr) (l : List Nm) (cap : Nat) (s : ByteArray) (k : Nat) (w : World) (hn : l.length ≤ 9223372036854775807) (hc : Nms w a l) (hk : AtN l s k) :
    Calls Try.prog 33 #[.slice a l.length cap, .string s] w fun e w' => e = .returned (.tuple #[.int .i64 (k : Int), .bool (hasN l s k)]) ∧ Below w.heap.size w w' := by
  obtain ⟨hk0, hk1, hk2⟩ := hk
  obtain ⟨R, hR⟩ : ∃ R, hasN l s k = R := ⟨_, rfl⟩
  rw [hR]
  unfold hasN at hR
  unfold Nms at hc
  have Hc : Hid _ := hc
  have Hk1 : Hid _ := hk1
  have Hk2 : Hid _ := hk2
  clear hc hk1 hk2
  generalize l.length = n at *
  have HR : Hid ((decide (k < n) && decide ((gm l k).nm = s)) = R) := hR
  clear hR
  go_enter Try.func33, Try.ntmps33
  go_wp2
  go_loopw [6] (fun i wr => ∃ (q : Nat), q ≤ k ∧ i = .int .i64 (q : Int) ∧ Below w.heap.size w wr) (fun i _ => k - (intOf i).toNat)
  case atStart => exact ⟨0, Nat.zero_le _, rfl, Below.refl _ _⟩
  case round =>
    obtain ⟨q, hq, rfl, hb⟩ := hrel
    by_cases hlt : q < k
    · obtain ⟨b, off, rfl, hcell⟩ := Hc.out (by omega)
      obtain ⟨k0, -⟩ := (hcell q (by omega)).below hb
      have hqn : (q : Int) < (n : Int) := by omega
      have eL := les_is (gm l q).nm s
      rw [Hk1.out q hlt] at eL
      clear Hk1 Hk2
      generalize (gm l q).nm = t at k0 eL
      clear hcell Hc
      go_wp2
      go_roundw
      case rel => exact ⟨q + 1, by omega, by go_num, hb⟩
      case measure => simp [intOf]; omega
    · have hqk : q = k := by omega
      subst hqk
      by_cases hqn : q < n
      · obtain ⟨b, off, rfl, hcell⟩ := Hc.out (by omega)
        obtain ⟨k0, -⟩ := (hcell q hqn).below hb
        have hqn' : (q : Int) < (n : Int) := by omega
        have eL := les_is (gm l q).nm s
        rw [Hk2.out hqn] at eL
        have eE := eqs_is (gm l q).nm s
        have hd : decide (q < n) = true := by simpa using hqn
        have HR' := HR.out
        rw [hd, Bool.true_and] at HR'
        rw [HR'] at eE
        clear HR HR' hd
        clear Hk1 Hk2
        generalize (gm l q).nm = t at k0 eL eE
        clear hcell Hc
        go_wp2
        go_quiet (fail)
        go_wp2
        go_ret2
        exact ⟨rfl, below_drewN hb _⟩
      · have hd : decide (q < n) = false := by simpa using hqn
        have hd' : decide ((q : Int) < (n : Int)) = false := by simp; omega
        have HR' := HR.out
        rw [hd, Bool.false_and] at HR'
        subst HR'
        clear HR
        clear Hc Hk1 Hk2
        go_wp2
        go_quiet (fail)
        go_wp2
        go_ret2
        exact ⟨rfl, below_drewN hb _⟩
set_option maxHeartbeats 4000000 in
theorem search_any (a : Option Addr) (l : List Nm) (cap : Nat) (s : ByteArray) (f : Int) (k : Nat) (w : World) (hn : l.length ≤ 1000000000) (hc : Nms w a l) (hk0 : k ≤ l.length) (hk : ∀ j, j < l.length → les (gm l j).nm s = decide (j < k)) :
    Calls Try.prog 82 #[.slice a l.length cap, .agg #[.string s, .int .i64 f], .func (.func 83) #[] #[]] w fun e w' => e = .returned (.tuple #[.int .i64 (k : Int), .bool (hasN l s k)]) ∧ Below w.heap.size w w' := by
  obtain ⟨R, hR⟩ : ∃ R, hasN l s k = R := ⟨_, rfl⟩
  rw [hR]
  unfold hasN at hR
  unfold Nms at hc
  have Hc : Hid _ := hc
  have Hk : Hid _ := hk
  clear hc hk
  generalize l.length = n at *
  have HR : Hid ((decide (k < n) && decide ((gm l k).nm = s)) = R) := hR
  clear hR
  obtain ⟨D, hD⟩ : ∃ D, w.heap.size = D := ⟨_, rfl⟩
  obtain ⟨W0, hW0⟩ : ∃ W0, w.alloc (.cells #[.string s, .int .i64 f] 36) = W0 := ⟨_, rfl⟩
  have g0 : Below w.heap.size w W0 := by subst hW0; exact below_alloc _ _
  have HD : Hid (W0.heap[D]? = some (.cells #[.string s, .int .i64 f] 36 (0, 0))) := by subst hW0 hD; exact al1 _ _
  have HCm : Hid (∀ W x y, Calls Try.prog 83 #[nv x, nv y] W fun e w' => e = .returned (.int .i64 (cm x.nm y.nm)) ∧ Below W.heap.size W w') := fun W x y => cmpNm_any x y W
  go_enter Try.func82, Try.ntmps82
  go_wp2
  go_loopw [9, 10] (fun i j wr => ∃ (lo hi : Nat), lo ≤ k ∧ k ≤ hi ∧ hi ≤ n ∧ i = .int .i64 (lo : Int) ∧ j = .int .i64 (hi : Int) ∧ Below W0.heap.size W0 wr) (fun i j _ => (intOf j).toNat - (intOf i).toNat)
  case atStart => exact ⟨0, n, Nat.zero_le _, hk0, Nat.le_refl _, rfl, rfl, Below.refl _ _⟩
  case round =>
    obtain ⟨lo, hi, hlk, hkh, hin, rfl, rfl, hb⟩ := hrel
    have x0 : ∀ d os, (Go.Sort.grow (redrawn wr d) os).cell? ⟨D, 0, none⟩ = some (.string s) := fun dd os => cell_regrown (box2_cells (box_on HD.out hb)).1 dd os
    have x1 : ∀ d os, (Go.Sort.grow (redrawn wr d) os).cell? ⟨D, 1, none⟩ = some (.int .i64 f) := fun dd os => cell_regrown (box2_cells (box_on HD.out hb)).2.1 dd os
    by_cases hlt : lo < hi
    · obtain ⟨h, hh⟩ : ∃ h, (lo + hi) / 2 = h := ⟨_, rfl⟩
      have hm0 : h < n := by omega
      have hm1 : lo ≤ h := by omega
      have hm2 : h < hi := by omega
      have eh : ((lo : Int) + (hi : Int)) / 2 = (h : Int) := by omega
      have hm0' : (h : Int) < (n : Int) := by omega
      clear hh
      obtain ⟨bb, off, rfl, hcell⟩ := Hc.out (by omega)
      obtain ⟨k0, k1⟩ := (hcell h hm0).below (Below.comp g0 hb)
      clear hcell
      have hle := Hk.out h hm0
      have cC := fun W => HCm.out W (gm l h) ⟨s, f⟩
      have hlt' := cm_lt (gm l h).nm s
      rw [hle] at hlt'
      unfold nv at cC
      simp only at cC
      generalize cm (gm l h).nm s = F at cC hlt'
      generalize (gm l h).nm = t at cC k0
      generalize (gm l h).fl = tf at cC k1
      have x2 : ∀ d os, (Go.Sort.grow (redrawn wr d) os).cell? ⟨bb, off + h * 2, none⟩ = some (.string t) := fun dd os => cell_regrown k0 dd os
      have x3 : ∀ d os, (Go.Sort.grow (redrawn wr d) os).cell? ⟨bb, off + h * 2 + 1, none⟩ = some (.int .i64 tf) := fun dd os => cell_regrown k1 dd os
      have c1 : ∀ d os, Calls Try.prog 83 #[.agg #[.string t, .int .i64 tf], .agg #[.string s, .int .i64 f]] (Go.Sort.grow (redrawn wr d) os) fun e w'' => e = .returned (.int .i64 F) ∧ ∃ p : Regrown, w'' = Go.Sort.grow (redrawn wr p.d) p.os := fun dd os => Calls.regrown_of (cC _)
      clear k0 k1 cC hle
      obtain ⟨o, ho⟩ : ∃ o, decide (h < k) = o := ⟨_, rfl⟩
      rw [ho] at hlt'
      have HO : Hid _ := ho
      clear ho
      cases o
      all_goals
        go_wp2
        refine wp_region_quiet_below (by kernel_rfl) (by kernel_rfl) ?_
        repeat (go_big_quiet_step (with_reducible exact c1 _ _))
        refine wpQuiet_nil ?_
        intro _ hw'
        obtain ⟨⟨dq', osq⟩, hw''⟩ := hw'
        subst hw''
        have b8 := below_regrown wr dq' osq
        clear x0 x1 x2 x3 c1
        generalize Go.Sort.grow (redrawn wr dq') osq = w8 at *
        go_wp2
      · go_roundw
        case rel => exact ⟨lo, h, hlk, by have := of_decide_eq_false HO.out; omega, by omega, rfl, rfl, Below.comp hb b8⟩
        case measure => simp [intOf]; omega
      · go_roundw
        case rel => exact ⟨h + 1, hi, by have := of_decide_eq_true HO.out; omega, hkh, hin, by go_num, rfl, Below.comp hb b8⟩
        case measure => simp [intOf]; omega
    · have e1 : lo = k := by omega
      subst e1
      by_cases hqn : lo < n
      · obtain ⟨bb, off, rfl, hcell⟩ := Hc.out (by omega)
        obtain ⟨k0, k1⟩ := (hcell lo hqn).below (Below.comp g0 hb)
        clear hcell
        have hqn' : (lo : Int) < (n : Int) := by omega
        have hd : decide (lo < n) = true := by simpa using hqn
        have HR' := HR.out
        rw [hd, Bool.true_and] at HR'
        clear hd HR
        have cC := fun W => HCm.out W (gm l lo) ⟨s, f⟩
        have heq : (cm (gm l lo).nm s == 0) = decide ((gm l lo).nm = s) := by rw [Bool.eq_iff_iff, beq_iff_eq, decide_eq_true_eq]; exact cm_eq _ _
        unfold nv at cC
        simp only at cC
        rw [HR'] at heq
        clear HR'
        generalize cm (gm l lo).nm s = F at cC heq
        generalize (gm l lo).nm = t at cC k0
        generalize (gm l lo).fl = tf at cC k1
        have x2 : ∀ d os, (Go.Sort.grow (redrawn wr d) os).cell? ⟨bb, off + lo * 2, none⟩ = some (.string t) := fun dd os => cell_regrown k0 dd os
        have x3 : ∀ d os, (Go.Sort.grow (redrawn wr d) os).cell? ⟨bb, off + lo * 2 + 1, none⟩ = some (.int .i64 tf) := fun dd os => cell_regrown k1 dd os
        have c1 : ∀ d os, Calls Try.prog 83 #[.agg #[.string t, .int .i64 tf], .agg #[.string s, .int .i64 f]] (Go.Sort.grow (redrawn wr d) os) fun e w'' => e = .returned (.int .i64 F) ∧ ∃ p : Regrown, w'' = Go.Sort.grow (redrawn wr p.d) p.os := fun dd os => Calls.regrown_of (cC _)
        clear k0 k1 cC
        go_wp2
        refine wp_region_quiet_below (by kernel_rfl) (by kernel_rfl) ?_
        repeat (go_big_quiet_step (with_reducible exact c1 _ _))
        refine wpQuiet_nil ?_
        intro _ hw'
        obtain ⟨⟨dq', osq⟩, hw''⟩ := hw'
        subst hw''
        have b8 := below_regrown wr dq' osq
        clear x0 x1 x2 x3 c1
        generalize Go.Sort.grow (redrawn wr dq') osq = w8 at *
        go_wp2
        go_ret2
        exact ⟨rfl, Below.comp g0 (Below.comp hb b8)⟩
      · have hd : decide (lo < n) = false := by simpa using hqn
        have hd' : decide ((lo : Int) < (n : Int)) = false := by simp; omega
        have HR' := HR.out
        rw [hd, Bool.false_and] at HR'
        subst HR'
        clear HR
        go_wp2
        refine wp_region_quiet_below (by kernel_rfl) (by kernel_rfl) ?_
        repeat (go_big_quiet_step (fail))
        refine wpQuiet_nil ?_
        intro _ hw'
        obtain ⟨⟨dq', osq⟩, hw''⟩ := hw'
        subst hw''
        have b8 := below_regrown wr dq' osq
        clear x0 x1
        generalize Go.Sort.grow (redrawn wr dq') osq = w8 at *
        go_wp2
        go_ret2
        exact ⟨rfl, Below.comp g0 (Below.comp hb b8)⟩
theorem searchName_any (a : Option Addr) (l : List Nm) (cap : Nat) (s : ByteArray) (k : Nat) (w : World) (hn : l.length ≤ 1000000000) (hc : Nms w a l) (hr : Ris l) (hk : AtN l s k) :
    Calls Try.prog 65 #[.slice a l.length cap, .string s] w fun e w' => e = .returned (.tuple #[.int .i64 (k : Int), .bool (hasN l s k)]) ∧ Below w.heap.size w w' := by
  have cS := search_any a l cap s 0 k w hn hc hk.1 (at_mono hr hk)
  generalize hasN l s k = o at *
  generalize l.length = n at *
  go_enter Try.func65, Try.ntmps65
  go_wp2_with fail
  refine cS.mono ?_
  rintro e w1 ⟨rfl, b1⟩
  go_wp2_with fail
  go_ret2
  exact ⟨rfl, b1⟩
end Go.Proofs.Ytfmgaenedkjmkaa
