import Derived.Test.YtgapplfnlndckaaC1
import Derived.Test.YtgapplfnlndckaaB4
import Derived.Test.YtgapplfnlndckaaL3
/- impl.isFilled. -/
namespace Go.Proofs.Ytgapplfnlndckaa
open Go.ChangeShapes Go.WideShapes Go.ChangeAt Go.RowKit
set_option linter.unusedVariables false
open Room

attribute [local go_sem] Oper.semAt_some

set_option maxHeartbeats 4000000 in
theorem isFilled_any (b : Nat) (a : Option Addr) (ca : Nat) (a' : Option Addr) (ca' : Nat) (F U : List Ex) (w : World) (hb8 : b ≤ 8) (hn : F.length ≤ 1048576) (hn' : U.length ≤ 1048576) (hca : F.length ≤ ca) (hca' : U.length ≤ ca') (ha : Exs w a F) (ha' : Exs w a' U) :
    Calls Try.prog 40 #[fv (b : Int) a F.length ca a' U.length ca'] w fun e w' => e = .returned (.bool (fil (pw (b : Int)) 0 F U)) ∧ Below w.heap.size w w' := by
  have hsh := shl_one hb8
  have hE := pw_le hb8
  have hE0 := pw_pos (b : Int)
  generalize hr : fil (pw (b : Int)) 0 F U = r
  generalize pw (b : Int) = E at *
  obtain ⟨D, hD⟩ : ∃ D, w.heap.size = D := ⟨_, rfl⟩
  obtain ⟨W0, hW0⟩ : ∃ W0, w.alloc (.cells #[.int .i64 b, .slice a F.length ca, .slice a' U.length ca'] 24) = W0 := ⟨_, rfl⟩
  have g0 : Below w.heap.size w W0 := by subst hW0; exact below_alloc _ _
  have HB : Hid (W0.heap[D]? = some (.cells #[.int .i64 b, .slice a F.length ca, .slice a' U.length ca'] 24 (0, 0))) := by subst hW0 hD; exact al1 _ _
  obtain ⟨i0, i1, i2, -, -, -⟩ := box3_cells HB.out
  go_enter Try.func40, Try.ntmps40
  go_wp2
  clear hW0
  go_quiet (fail)
  go_wp2
  go_quiet (fail)
  go_wp2
  go_loopw [3, 4, 5] (fun f u m wr => ∃ (xa : Option Addr) (ca : Nat) (xu : Option Addr) (cu : Nat) (F1 U1 : List Ex) (M : Int), f = .slice xa F1.length ca ∧ u = .slice xu U1.length cu ∧ m = .int .i64 M ∧ 0 ≤ M ∧ M ≤ 600 ∧ F1.length ≤ ca ∧ U1.length ≤ cu ∧ F1.length ≤ 1048576 ∧ U1.length ≤ 1048576 ∧ Exs wr xa F1 ∧ Exs wr xu U1 ∧ fil E M F1 U1 = r ∧ Below D w wr) (fun f u _ _ => lenV f + lenV u)
  case atStart =>
    have g1 := fun n => below_drewN g0 n
    have hs := g0.size
    refine ⟨a, ca, a', ca', F, U, 0, rfl, rfl, rfl, by omega, by omega, hca, hca', hn, hn', ?_, ?_, hr, ?_⟩
    · exact ha.below (below_drewN (below_drewN g0 _) _)
    · exact ha'.below (below_drewN (below_drewN g0 _) _)
    · exact hD ▸ (below_drewN (below_drewN g0 _) _)
  case round =>
    obtain ⟨xa, ca, xu, cu, F1, U1, M, rfl, rfl, rfl, hM0, hM1, hlf, hlu, hnf, hnu, hf, hu, hfil, hb⟩ := hrel
    clear i0 i1 i2 ha ha' hr
    by_cases hlt : M < E
    · skip
      cases F1 with
      | cons z F1 =>
        obtain ⟨fb, fo, rfl, k0, k1, hrest⟩ := Exs.first (c := ca) hf hlf
        by_cases hz : z.1 = M
        · skip
          rw [fil_free hlt hz] at hfil
          obtain ⟨zp, zq⟩ := z
          simp only at hz k0 k1
          subst hz
          obtain ⟨sz, hsz⟩ : ∃ sz, (if ca = 1 then (some ⟨fb, fo, none⟩ : Option Addr) else some ⟨fb, fo + 2, none⟩) = sz := ⟨_, rfl⟩
          have hss : subA (some ⟨fb, fo, none⟩) 1 ca = sz := by rw [← hsz]; unfold subA; split <;> first | rfl | simp [Addr.add]
          rw [hss] at hrest
          clear hss
          obtain ⟨t, ht⟩ : ∃ t, isB (zp, zq) = t := ⟨_, rfl⟩
          have c52 := fun W => isBlock_any (zp, zq) W
          rw [ht] at c52 hfil
          obtain ⟨X, hX⟩ : ∃ X, wr.alloc (.cells #[.int .i64 0, .int .i64 0] 43) = X := ⟨_, rfl⟩
          have bX : Below wr.heap.size wr X := by subst hX; exact below_alloc _ _
          obtain ⟨Z, hZ⟩ : ∃ Z, wr.heap.size = Z := ⟨_, rfl⟩
          have HZ : Hid (X.heap[Z]? = some (.cells #[.int .i64 0, .int .i64 0] 43 (0, 0))) := by subst hX hZ; exact al1 _ _
          have k0' := cell_on k0 bX
          have k1' := cell_on k1 bX
          have hn0 : (0 : Int) < ((F1.length + 1 : Nat) : Int) := by omega
          obtain ⟨e0, e1, q0, q1⟩ := box2_cells HZ.out
          (try rw [hX] at f0x)
          go_wp2
          clear hX
          go_region
          obtain ⟨Y, hYe⟩ : ∃ Y, ((X.setCell ⟨Z, 0, none⟩ (.int .i64 zp)).setCell ⟨Z, 1, none⟩ (.int .i64 zq)).drew = Y := ⟨_, rfl⟩
          have HY : Hid (Y.heap[Z]? = some (.cells #[.int .i64 zp, .int .i64 zq] 43 (0, 0))) := by subst hYe; exact box2_set HZ.out
          have bY0 : Below wr.heap.size wr Y := by subst hYe; exact Below.drew (below_set2 bX (Nat.le_of_eq hZ))
          rw [hYe]
          clear hYe hsz e0 e1 q0 q1 k0 k1 k0' k1' bX HZ
          obtain ⟨e0, e1, -, -⟩ := box2_cells HY.out
          go_wp2_with fail
          refine (c52 _).mono ?_
          rintro e w1 ⟨rfl, b1⟩
          clear e0 e1
          have bY1 := Below.comp bY0 b1
          have hY1 : Below D w w1 := hb.trans (bY1.mono (by have := hb.size; omega))
          cases t with
          | false =>
            rw [Bool.false_and] at hfil
            subst hfil
            go_wp2
            go_ret
            exact ⟨rfl, by first | exact hY1 | exact hD ▸ hY1⟩
          | true =>
            rw [Bool.true_and] at hfil
            obtain ⟨p', k, hpk, -, hk8⟩ := xv_nat ht
            obtain rfl : zq = (k : Int) := congrArg Prod.snd hpk
            have c46 := fun W => lengthOf_any zp k hk8 W
            have hP := pw_le hk8
            have hP0 := pw_pos (k : Int)
            have eln : ln (zp, (k : Int)) = pw (k : Int) := rfl
            rw [eln] at hfil
            generalize pw (k : Int) = P at *
            clear hpk ht eln
            obtain ⟨e0, e1, -, -⟩ := box2_cells (box_on HY.out b1)
            go_wp2_with (go_at_call 46; refine (c46 _).mono ?_; rintro e w2 ⟨rfl, b2⟩)
            have bY := Below.comp bY1 b2
            have hY : Below D w w2 := hb.trans (bY.mono (by have := hb.size; omega))
            go_roundw
            case rel => exact ⟨sz, ca - 1, xu, cu, F1, U1, zp + P, rfl, rfl, rfl, by omega, by omega, by simp at hlf; omega, hlu, by simp at hnf; omega, hnu, hrest.below bY, hu.below bY, hfil, hY⟩
            case measure => simp [lenV]
        · have hno : ∀ f F', z :: F1 = f :: F' → f.1 ≠ M := fun u U' h => by cases h; exact hz
          have f0x := cell_on k0 (below_alloc wr (.cells #[.int .i64 0, .int .i64 0] 43))
          have hlf0 : (0 : Int) < ((F1.length + 1 : Nat) : Int) := by omega
          have hzf : (z.1 == M) = false := by simp [hz]
          clear hrest k1 k0
          cases U1 with
          | nil =>
            have hnu' : ∀ u U', ([] : List Ex) = u :: U' → u.1 ≠ M := fun u U' h => by cases h
            rw [fil_none hlt hno hnu'] at hfil
            subst hfil
            go_wp2
            go_ret
            have hR : Below D w (wr.alloc (.cells #[.int .i64 0, .int .i64 0] 43)) := hb.alloc (by have := hb.size; omega) _
            exact ⟨rfl, by first | exact hR | exact hD ▸ hR⟩
          | cons z U1 =>
            obtain ⟨zb, zo, rfl, k0, k1, hrest⟩ := Exs.first (c := cu) hu hlu
            by_cases hz : z.1 = M
            · skip
              rw [fil_used hlt hno hz] at hfil
              obtain ⟨zp, zq⟩ := z
              simp only at hz k0 k1
              subst hz
              obtain ⟨sz, hsz⟩ : ∃ sz, (if cu = 1 then (some ⟨zb, zo, none⟩ : Option Addr) else some ⟨zb, zo + 2, none⟩) = sz := ⟨_, rfl⟩
              have hss : subA (some ⟨zb, zo, none⟩) 1 cu = sz := by rw [← hsz]; unfold subA; split <;> first | rfl | simp [Addr.add]
              rw [hss] at hrest
              clear hss
              obtain ⟨t, ht⟩ : ∃ t, isB (zp, zq) = t := ⟨_, rfl⟩
              have c52 := fun W => isBlock_any (zp, zq) W
              rw [ht] at c52 hfil
              obtain ⟨X, hX⟩ : ∃ X, wr.alloc (.cells #[.int .i64 0, .int .i64 0] 43) = X := ⟨_, rfl⟩
              have bX : Below wr.heap.size wr X := by subst hX; exact below_alloc _ _
              obtain ⟨Z, hZ⟩ : ∃ Z, wr.heap.size = Z := ⟨_, rfl⟩
              have HZ : Hid (X.heap[Z]? = some (.cells #[.int .i64 0, .int .i64 0] 43 (0, 0))) := by subst hX hZ; exact al1 _ _
              have k0' := cell_on k0 bX
              have k1' := cell_on k1 bX
              have hn0 : (0 : Int) < ((U1.length + 1 : Nat) : Int) := by omega
              obtain ⟨e0, e1, q0, q1⟩ := box2_cells HZ.out
              (try rw [hX] at f0x)
              go_wp2
              clear hX
              go_region
              obtain ⟨Y, hYe⟩ : ∃ Y, ((X.setCell ⟨Z, 0, none⟩ (.int .i64 zp)).setCell ⟨Z, 1, none⟩ (.int .i64 zq)).drew = Y := ⟨_, rfl⟩
              have HY : Hid (Y.heap[Z]? = some (.cells #[.int .i64 zp, .int .i64 zq] 43 (0, 0))) := by subst hYe; exact box2_set HZ.out
              have bY0 : Below wr.heap.size wr Y := by subst hYe; exact Below.drew (below_set2 bX (Nat.le_of_eq hZ))
              rw [hYe]
              clear hYe hsz e0 e1 q0 q1 k0 k1 k0' k1' bX HZ
              obtain ⟨e0, e1, -, -⟩ := box2_cells HY.out
              go_wp2_with fail
              refine (c52 _).mono ?_
              rintro e w1 ⟨rfl, b1⟩
              clear e0 e1
              have bY1 := Below.comp bY0 b1
              have hY1 : Below D w w1 := hb.trans (bY1.mono (by have := hb.size; omega))
              cases t with
              | false =>
                rw [Bool.false_and] at hfil
                subst hfil
                go_wp2
                go_ret
                exact ⟨rfl, by first | exact hY1 | exact hD ▸ hY1⟩
              | true =>
                rw [Bool.true_and] at hfil
                obtain ⟨p', k, hpk, -, hk8⟩ := xv_nat ht
                obtain rfl : zq = (k : Int) := congrArg Prod.snd hpk
                have c46 := fun W => lengthOf_any zp k hk8 W
                have hP := pw_le hk8
                have hP0 := pw_pos (k : Int)
                have eln : ln (zp, (k : Int)) = pw (k : Int) := rfl
                rw [eln] at hfil
                generalize pw (k : Int) = P at *
                clear hpk ht eln
                obtain ⟨e0, e1, -, -⟩ := box2_cells (box_on HY.out b1)
                go_wp2_with (go_at_call 46; refine (c46 _).mono ?_; rintro e w2 ⟨rfl, b2⟩)
                have bY := Below.comp bY1 b2
                have hY : Below D w w2 := hb.trans (bY.mono (by have := hb.size; omega))
                go_roundw
                case rel => exact ⟨some ⟨fb, fo, none⟩, ca, sz, cu - 1, _ :: F1, U1, zp + P, rfl, rfl, rfl, by omega, by omega, hlf, by simp at hlu; omega, hnf, by simp at hnu; omega, hf.below bY, hrest.below bY, hfil, hY⟩
                case measure => simp [lenV]
            · have hnu' : ∀ u U', z :: U1 = u :: U' → u.1 ≠ M := fun u U' h => by cases h; exact hz
              have k0x := cell_on k0 (below_alloc wr (.cells #[.int .i64 0, .int .i64 0] 43))
              have hlu0 : (0 : Int) < ((U1.length + 1 : Nat) : Int) := by omega
              have hzb : (z.1 == M) = false := by simp [hz]
              rw [fil_none hlt hno hnu'] at hfil
              subst hfil
              go_wp2
              go_ret
              have hR : Below D w (wr.alloc (.cells #[.int .i64 0, .int .i64 0] 43)) := hb.alloc (by have := hb.size; omega) _
              exact ⟨rfl, by first | exact hR | exact hD ▸ hR⟩
      | nil =>
        have hno : ∀ f F', ([] : List Ex) = f :: F' → f.1 ≠ M := fun u U' h => by cases h
        cases U1 with
        | nil =>
          have hnu' : ∀ u U', ([] : List Ex) = u :: U' → u.1 ≠ M := fun u U' h => by cases h
          rw [fil_none hlt hno hnu'] at hfil
          subst hfil
          go_wp2
          go_ret
          have hR : Below D w (wr.alloc (.cells #[.int .i64 0, .int .i64 0] 43)) := hb.alloc (by have := hb.size; omega) _
          exact ⟨rfl, by first | exact hR | exact hD ▸ hR⟩
        | cons z U1 =>
          obtain ⟨zb, zo, rfl, k0, k1, hrest⟩ := Exs.first (c := cu) hu hlu
          by_cases hz : z.1 = M
          · skip
            rw [fil_used hlt hno hz] at hfil
            obtain ⟨zp, zq⟩ := z
            simp only at hz k0 k1
            subst hz
            obtain ⟨sz, hsz⟩ : ∃ sz, (if cu = 1 then (some ⟨zb, zo, none⟩ : Option Addr) else some ⟨zb, zo + 2, none⟩) = sz := ⟨_, rfl⟩
            have hss : subA (some ⟨zb, zo, none⟩) 1 cu = sz := by rw [← hsz]; unfold subA; split <;> first | rfl | simp [Addr.add]
            rw [hss] at hrest
            clear hss
            obtain ⟨t, ht⟩ : ∃ t, isB (zp, zq) = t := ⟨_, rfl⟩
            have c52 := fun W => isBlock_any (zp, zq) W
            rw [ht] at c52 hfil
            obtain ⟨X, hX⟩ : ∃ X, wr.alloc (.cells #[.int .i64 0, .int .i64 0] 43) = X := ⟨_, rfl⟩
            have bX : Below wr.heap.size wr X := by subst hX; exact below_alloc _ _
            obtain ⟨Z, hZ⟩ : ∃ Z, wr.heap.size = Z := ⟨_, rfl⟩
            have HZ : Hid (X.heap[Z]? = some (.cells #[.int .i64 0, .int .i64 0] 43 (0, 0))) := by subst hX hZ; exact al1 _ _
            have k0' := cell_on k0 bX
            have k1' := cell_on k1 bX
            have hn0 : (0 : Int) < ((U1.length + 1 : Nat) : Int) := by omega
            obtain ⟨e0, e1, q0, q1⟩ := box2_cells HZ.out
            (try rw [hX] at f0x)
            go_wp2
            clear hX
            go_region
            obtain ⟨Y, hYe⟩ : ∃ Y, ((X.setCell ⟨Z, 0, none⟩ (.int .i64 zp)).setCell ⟨Z, 1, none⟩ (.int .i64 zq)).drew = Y := ⟨_, rfl⟩
            have HY : Hid (Y.heap[Z]? = some (.cells #[.int .i64 zp, .int .i64 zq] 43 (0, 0))) := by subst hYe; exact box2_set HZ.out
            have bY0 : Below wr.heap.size wr Y := by subst hYe; exact Below.drew (below_set2 bX (Nat.le_of_eq hZ))
            rw [hYe]
            clear hYe hsz e0 e1 q0 q1 k0 k1 k0' k1' bX HZ
            obtain ⟨e0, e1, -, -⟩ := box2_cells HY.out
            go_wp2_with fail
            refine (c52 _).mono ?_
            rintro e w1 ⟨rfl, b1⟩
            clear e0 e1
            have bY1 := Below.comp bY0 b1
            have hY1 : Below D w w1 := hb.trans (bY1.mono (by have := hb.size; omega))
            cases t with
            | false =>
              rw [Bool.false_and] at hfil
              subst hfil
              go_wp2
              go_ret
              exact ⟨rfl, by first | exact hY1 | exact hD ▸ hY1⟩
            | true =>
              rw [Bool.true_and] at hfil
              obtain ⟨p', k, hpk, -, hk8⟩ := xv_nat ht
              obtain rfl : zq = (k : Int) := congrArg Prod.snd hpk
              have c46 := fun W => lengthOf_any zp k hk8 W
              have hP := pw_le hk8
              have hP0 := pw_pos (k : Int)
              have eln : ln (zp, (k : Int)) = pw (k : Int) := rfl
              rw [eln] at hfil
              generalize pw (k : Int) = P at *
              clear hpk ht eln
              obtain ⟨e0, e1, -, -⟩ := box2_cells (box_on HY.out b1)
              go_wp2_with (go_at_call 46; refine (c46 _).mono ?_; rintro e w2 ⟨rfl, b2⟩)
              have bY := Below.comp bY1 b2
              have hY : Below D w w2 := hb.trans (bY.mono (by have := hb.size; omega))
              go_roundw
              case rel => exact ⟨xa, ca, sz, cu - 1, [], U1, zp + P, rfl, rfl, rfl, by omega, by omega, hlf, by simp at hlu; omega, hnf, by simp at hnu; omega, hf.below bY, hrest.below bY, hfil, hY⟩
              case measure => simp [lenV]
          · have hnu' : ∀ u U', z :: U1 = u :: U' → u.1 ≠ M := fun u U' h => by cases h; exact hz
            have k0x := cell_on k0 (below_alloc wr (.cells #[.int .i64 0, .int .i64 0] 43))
            have hlu0 : (0 : Int) < ((U1.length + 1 : Nat) : Int) := by omega
            have hzb : (z.1 == M) = false := by simp [hz]
            rw [fil_none hlt hno hnu'] at hfil
            subst hfil
            go_wp2
            go_ret
            have hR : Below D w (wr.alloc (.cells #[.int .i64 0, .int .i64 0] 43)) := hb.alloc (by have := hb.size; omega) _
            exact ⟨rfl, by first | exact hR | exact hD ▸ hR⟩
    · rw [fil_end hlt] at hfil
      by_cases hm : M = E
      · subst hm
        cases F1 with
        | nil =>
          cases U1 with
          | nil =>
            go_wp2
            go_ret
            exact ⟨by rw [← hfil]; simp; try omega, by first | exact hb | exact hD ▸ hb⟩
          | cons z U1 =>
            have hlu0 : ¬ (((U1.length + 1 : Nat) : Int)) = 0 := by omega
            go_wp2
            go_ret
            exact ⟨by rw [← hfil]; simp; try omega, by first | exact hb | exact hD ▸ hb⟩
        | cons z F1 =>
          have hlu0 : ¬ (((F1.length + 1 : Nat) : Int)) = 0 := by omega
          go_wp2
          go_ret
          exact ⟨by rw [← hfil]; simp; try omega, by first | exact hb | exact hD ▸ hb⟩
      · have hmb : (M == E) = false := by simp [hm]
        go_wp2
        go_ret
        exact ⟨by rw [← hfil]; simp [hm], by first | exact hb | exact hD ▸ hb⟩
end Go.Proofs.Ytgapplfnlndckaa
