import Derived.Test.YtoodioaflaklmaaS1
import Derived.Test.YtoodioaflaklmaaG1
/- The model's sort by size, and its comparison of two rows. -/
namespace Go.Proofs.Ytoodioaflaklmaa
open Go.ChangeShapes Go.WideShapes Go.ChangeAt Go.RowKit
set_option linter.unusedVariables false
open Room

attribute [local go_sem] Oper.semAt_some

theorem l5Same_any (a a' : Option Addr) (ca ca' : Nat) (l m : List Ex) (w : World) (hn : l.length ≤ 1048576) (hm : m.length ≤ 1048576) (ha : Exs w a l) (ha' : Exs w a' m) :
    Calls Try.prog 35 #[.slice a l.length ca, .slice a' m.length ca'] w fun e w' => e = .returned (.bool (decide (l = m))) ∧ Below w.heap.size w w' := by
  have nq : ∀ (x y : Ex) (w : World), (binOp .neq 41 (.agg #[.int .i64 x.1, .int .i64 x.2]) (.agg #[.int .i64 y.1, .int .i64 y.2])).run Try.prog w = .ok (.bool (!decide (x = y))) w := neqX.1
  by_cases hne : l.length = m.length
  · have HP : Hid (decide (l = m) = true ↔ ∀ i, i < l.length → gx l i = gx m i) := by
      show _ ↔ _
      rw [decide_eq_true_iff]
      constructor
      · rintro rfl
        exact fun _ _ => rfl
      · intro h
        apply List.ext_getElem hne
        intro i h1 h2
        have := h i h1
        rwa [gx_eq h1, gx_eq h2] at this
    unfold Exs at ha ha'
    rw [← hne] at ha' ⊢
    clear hne
    generalize gx l = f at *
    generalize gx m = g at *
    generalize l.length = n at *
    generalize decide (l = m) = r at *
    go_enter Try.func35, Try.ntmps35
    go_wp2
    go_loopw [13] (fun i wr => ∃ (k : Nat), k ≤ n ∧ i = .int .i64 k ∧ Hid (∀ i, i < k → f i = g i) ∧ Below w.heap.size w wr) (fun i _ => n - (intOf i).toNat)
    case atStart => exact ⟨0, Nat.zero_le _, rfl, fun i hi => absurd hi (by omega), Below.refl _ _⟩
    case round =>
      obtain ⟨k, hk, rfl, HO, hb⟩ := hrel
      by_cases hlt : k < n
      · obtain ⟨b, off, rfl, hcell⟩ := (ha.below hb) (by omega)
        obtain ⟨b', off', rfl, hcell'⟩ := (ha'.below hb) (by omega)
        obtain ⟨k0, k1⟩ := hcell k hlt
        obtain ⟨k0', k1'⟩ := hcell' k hlt
        have hlt' : (k : Int) < (n : Int) := by omega
        clear hcell ha hcell' ha'
        have nqk := nq (f k) (g k)
        clear nq
        generalize hx : f k = x at *
        generalize hy : g k = y at *
        have HX : Hid _ := hx
        have HY : Hid _ := hy
        clear hx hy
        obtain ⟨p, q⟩ := x
        obtain ⟨p', q'⟩ := y
        simp only at k0 k1 k0' k1' nqk
        by_cases hxy : (p, q) = (p', q')
        · have e1 : (!decide ((p, q) = (p', q'))) = false := by simp [hxy]
          rw [e1] at nqk
          have HXY : Hid _ := hxy
          clear e1 hxy
          go_wp2
          go_quiet (fail)
          go_wp2
          go_roundw
          case rel => exact ⟨k + 1, by omega, by go_num, (show Hid _ from fun i hi => by
            by_cases e : i < k
            · exact HO.out i e
            · obtain rfl : i = k := by omega
              rw [HX.out, HY.out]; exact HXY.out), below_drewN hb _⟩
          case measure => simp [intOf]; omega
        · have e1 : (!decide ((p, q) = (p', q'))) = true := by simp only [hxy]; rfl
          rw [e1] at nqk
          have hr : r = false := by
            cases hr : r
            · rfl
            · have := HP.out.1 hr k hlt
              rw [HX.out, HY.out] at this
              exact absurd this hxy
          subst hr
          clear e1 hxy HP
          go_wp2
          go_quiet (fail)
          go_wp2
          go_ret
          exact ⟨rfl, below_drewN hb _⟩
      · have hkn : k = n := by omega
        subst hkn
        have hr : r = true := HP.out.2 HO.out
        subst hr
        clear HP HO nq
        go_wp2
        go_ret
        exact ⟨rfl, hb⟩
  · have hd : l ≠ m := fun e => hne (by rw [e])
    have e1 : decide (l = m) = false := by simp [hd]
    rw [e1]
    have hne' : ((l.length : Int) != (m.length : Int)) = true := by simp; omega
    clear nq
    generalize l.length = n at *
    generalize m.length = n' at *
    go_enter Try.func35, Try.ntmps35
    go_wp2
    go_ret
    exact ⟨rfl, Below.refl _ _⟩
end Go.Proofs.Ytoodioaflaklmaa
