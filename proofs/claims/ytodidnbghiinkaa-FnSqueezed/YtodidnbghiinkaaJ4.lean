import Derived.Test.YtodidnbghiinkaaJ2
import Derived.Test.YtodidnbghiinkaaV1
/- What FnSqueezed draws. -/
namespace Go.Proofs.Ytodidnbghiinkaa
open Go.ChangeShapes Go.WideShapes Go.ChangeAt Go.RowKit
set_option linter.unusedVariables false
open Tz

attribute [local go_sem] Oper.semAt_some

set_option maxRecDepth 20000 in
set_option maxHeartbeats 4000000 in
theorem spoilt_any (D : Nat) (a : Option Addr) (n cap T : Nat) (t0 wt : ByteArray) (w : World) (hn : n ≤ 9223372036854775807) (hT : T ≤ 100000) (ht0 : t0.size ≤ 1000) (hw0 : 0 < wt.size) (hw1 : wt.size ≤ 100) (h : Cur w D a n cap T) :
    Calls Try.prog 59 #[.pointer (some ⟨D, 0, none⟩), .string t0, .string wt] w fun e w' => (∃ u : ByteArray, e = .returned (.string u) ∧ u.size ≤ 1010) ∧ Out D (D + 1) w w' ∧ Cur w' D a n cap (T + 100) := by
  go_enter Try.func59, Try.ntmps59
  go_wp2_with fail
  refine (pick_any 3 D a n cap T _ (by omega) (by omega) hn (by omega) h).mono ?_
  rintro e w1 ⟨r0, rfl, hr0, o1, c1⟩
  clear h
  go_wp2_with fail
  go_loopw [1, 7] (fun ss ii wr => ∃ (t : ByteArray) (k : Nat), ss = .string t ∧ ii = .int .i64 (k : Int) ∧ k ≤ 2 ∧ t.size ≤ 1000 + (2 - k) ∧ Out D (D + 1) w wr ∧ Cur wr D a n cap (T + 2 + 10 * (2 - k))) (fun _ ii _ => (intOf ii).toNat)
  case atStart => exact ⟨t0, r0, rfl, rfl, by omega, by omega, o1, c1.mono (by omega)⟩
  case round =>
    obtain ⟨t, k, rfl, rfl, hk, ht, ho, hc⟩ := hrel
    by_cases hk0 : 0 < k
    · have hk0' : (0 : Int) < (k : Int) := by omega
      have hm1 : IntKind.i64.wrap ((k : Int) - 1) = (k : Int) - 1 := wrapI (by omega) (by omega)
      by_cases hts : 0 < t.size
      · have hts' : (0 : Int) < (t.size : Int) := by omega
        go_wp2_with fail
        refine (pick_any t.size D a n cap _ _ (by omega) (by omega) hn (by omega) hc).mono ?_
        rintro e w2 ⟨i, rfl, hi, o2, c2⟩
        clear hc
        go_wp2_with fail
        refine (pick_any wt.size D a n cap _ _ (by omega) (by omega) hn (by omega) c2).mono ?_
        rintro e w3 ⟨r, rfl, hr, o3, c3⟩
        clear c2
        have x0 := run_idx wt r hr
        have hr' : (r : Int) < (wt.size : Int) := by omega
        have cv := conv_one w3 (ch wt r)
        have hus : (txt [ch wt r]).size = 1 := by rw [txt_size]; rfl
        have b3 := below_alloc w3 (.cells #[.int .u8 (ch wt r).toNat] 5)
        have c3' := c3.below b3
        have o13 := ((ho.trans o2).trans o3).trans (Out.of_below b3)
        generalize txt [ch wt r] = ub at *
        generalize (ch wt r).toNat = bb at *
        clear b3 c3
        go_wp2_with fail
        refine (pick_any 3 D a n cap _ _ (by omega) (by omega) hn (by omega) c3').mono ?_
        rintro e w4 ⟨q, rfl, hq, o4, c4⟩
        have o14 := o13.trans o4
        have bD : ∀ q, Below w4.heap.size w4 (w4.drewN q) := fun q => below_drewN (Below.refl _ _) q
        have HO : Hid (∀ q, Out D (D + 1) w (w4.drewN q) ∧ Cur (w4.drewN q) D a n cap (T + 2 + 10 * (2 - k) + 2 + 2 + 2)) := fun q => ⟨o14.trans (Out.of_below (bD q)), c4.below (bD q)⟩
        have sA := fun W => slice_to t i (by omega) W
        have sB := fun W => slice_end t i (by omega) W
        have sC : ∀ W, (Instr.slice 9 (.string t) (some (.int .i64 ((i : Int) + 1))) none none).run Try.prog W = .ok (.string (t.extract (i + 1) t.size)) W := fun W => by
          have := slice_end t (i + 1) (by omega) W
          rw [show (((i + 1 : Nat)) : Int) = (i : Int) + 1 by omega] at this
          exact this
        have zA : (t.extract 0 i).size = i := by rw [ByteArray.size_extract]; omega
        have zB : (t.extract i t.size).size = t.size - i := by rw [ByteArray.size_extract]; omega
        have zC : (t.extract (i + 1) t.size).size = t.size - (i + 1) := by rw [ByteArray.size_extract]; omega
        have hi' : (i : Int) + 1 ≤ (t.size : Int) := by omega
        have hi2 : (i : Int) ≤ (t.size : Int) := by omega
        have ew : IntKind.i64.wrap ((i : Int) + 1) = (i : Int) + 1 := wrapI (by omega) (by omega)
        generalize t.extract 0 i = A at *
        generalize t.extract i t.size = B at *
        generalize t.extract (i + 1) t.size = C at *
        clear bD o14 c4 o13 c3' cv x0
        rcases (show q = 0 ∨ q = 1 ∨ (¬ (q : Int) = 0 ∧ ¬ (q : Int) = 1) by omega) with rfl | rfl | ⟨hne0, hne1⟩
        · have h1 : ¬ (9223372036854775807 < A.size + ub.size) := by omega
          have h2 : ¬ (9223372036854775807 < (A ++ ub).size + B.size) := by rw [ByteArray.size_append]; omega
          have hz : (A ++ ub ++ B).size = A.size + ub.size + B.size := by rw [ByteArray.size_append, ByteArray.size_append]
          go_wp2_with fail
          go_quiet (fail)
          go_wp2
          go_roundw
          case rel => exact ⟨_, k - 1, rfl, by congr 1; omega, by omega, by omega, (HO.out _).1, (HO.out _).2.mono (by omega)⟩
          case measure => simp [intOf]; omega
        · have h1 : ¬ (9223372036854775807 < A.size + ub.size) := by omega
          have h2 : ¬ (9223372036854775807 < (A ++ ub).size + C.size) := by rw [ByteArray.size_append]; omega
          have hz : (A ++ ub ++ C).size = A.size + ub.size + C.size := by rw [ByteArray.size_append, ByteArray.size_append]
          go_wp2_with fail
          go_quiet (fail)
          go_wp2
          go_roundw
          case rel => exact ⟨_, k - 1, rfl, by congr 1; omega, by omega, by omega, (HO.out _).1, (HO.out _).2.mono (by omega)⟩
          case measure => simp [intOf]; omega
        · have h1 : ¬ (9223372036854775807 < A.size + C.size) := by omega
          have hz : (A ++ C).size = A.size + C.size := by rw [ByteArray.size_append]
          go_wp2_with fail
          go_quiet (fail)
          go_wp2
          go_roundw
          case rel => exact ⟨_, k - 1, rfl, by congr 1; omega, by omega, by omega, (HO.out _).1, (HO.out _).2.mono (by omega)⟩
          case measure => simp [intOf]; omega
      · have hts' : ¬ (0 : Int) < (t.size : Int) := by omega
        go_wp2_with fail
        go_ret
        exact ⟨⟨t, rfl, by omega⟩, ho, hc.mono (by omega)⟩
    · have hk0' : ¬ (0 : Int) < (k : Int) := by omega
      go_wp2_with fail
      go_ret
      exact ⟨⟨t, rfl, by omega⟩, ho, hc.mono (by omega)⟩
end Go.Proofs.Ytodidnbghiinkaa
