import Derived.Test.YtoodioaflaklmaaL2
/- The model's look at a row of extents: by place. -/
namespace Go.Proofs.Ytoodioaflaklmaa
open Go.ChangeShapes Go.WideShapes Go.ChangeAt Go.RowKit
set_option linter.unusedVariables false
open Room

attribute [local go_sem] Oper.semAt_some

/-- The extent at a place lies within, behind the one ahead of it. -/
def okAt (b : Int) (f : Nat → Ex) (i : Nat) : Prop := 0 ≤ (f i).1 ∧ 1 ≤ (f i).2 ∧ fin (f i) ≤ b ∧ (0 < i → fin (f (i - 1)) < (f i).1)
theorem gx_cons {x : Ex} {l : List Ex} {i : Nat} : gx (x :: l) (i + 1) = gx l i := by simp [gx]
theorem gx_zero {x : Ex} {l : List Ex} : gx (x :: l) 0 = x := by simp [gx]
theorem plc_ok {b : Int} : ∀ {l : List Ex} {m : Int}, plc b m l = true ↔ (∀ i, i < l.length → okAt b (gx l) i) ∧ (0 < l.length → m ≤ (gx l 0).1)
  | [], m => by simp [plc]
  | x :: l, m => by
    have ih := plc_ok (b := b) (l := l) (m := fin x + 1)
    simp only [plc, Bool.and_eq_true, decide_eq_true_eq, inB_iff, ih]
    constructor
    · rintro ⟨h1, ⟨h2, h3, h4⟩, h5, h6⟩
      refine ⟨fun i hi => ?_, fun _ => by rw [gx_zero]; exact h1⟩
      cases i with
      | zero =>
        unfold okAt
        rw [gx_zero]
        exact ⟨h2, h3, by unfold fin; omega, fun h => absurd h (by omega)⟩
      | succ i =>
        have h7 := h5 i (by simpa using hi)
        unfold okAt at h7 ⊢
        rw [gx_cons]
        refine ⟨h7.1, h7.2.1, h7.2.2.1, fun _ => ?_⟩
        cases i with
        | zero =>
          have := h6 (by simpa using hi)
          show fin (gx (x :: l) 0) < _
          rw [gx_zero]
          omega
        | succ i =>
          show fin (gx (x :: l) (i + 1)) < _
          rw [gx_cons]
          exact h7.2.2.2 (by omega)
    · rintro ⟨h1, h2⟩
      have h3 := h1 0 (by simp)
      unfold okAt at h3
      rw [gx_zero] at h3
      have h4 := h2 (by simp)
      rw [gx_zero] at h4
      refine ⟨h4, ⟨h3.1, h3.2.1, by have := h3.2.2.1; unfold fin at this; omega⟩, fun i hi => ?_, fun h0 => ?_⟩
      · have h5 := h1 (i + 1) (by simpa using hi)
        unfold okAt at h5 ⊢
        rw [gx_cons] at h5
        refine ⟨h5.1, h5.2.1, h5.2.2.1, fun hi0 => ?_⟩
        have h6 := h5.2.2.2 (by omega)
        obtain ⟨i, rfl⟩ : ∃ j, i = j + 1 := ⟨i - 1, by omega⟩
        have : gx (x :: l) (i + 1 + 1 - 1) = gx l i := gx_cons
        rw [this] at h6
        exact h6
      · have h5 := (h1 1 (by simpa using h0)).2.2.2 (by omega)
        have e1 : gx (x :: l) (1 - 1) = x := gx_zero
        have e2 : gx (x :: l) 1 = gx l 0 := gx_cons
        rw [e1, e2] at h5
        omega
theorem plc_okAt {b : Int} {l : List Ex} : plc b 0 l = true ↔ ∀ i, i < l.length → okAt b (gx l) i := by
  rw [plc_ok]
  exact ⟨fun h => h.1, fun h => ⟨h, fun h0 => (h 0 h0).1⟩⟩

set_option maxHeartbeats 4000000 in
theorem l5Place_any (b : Int) (a : Option Addr) (cap : Nat) (l : List Ex) (w : World) (hb0 : -9223372036854775808 ≤ b) (hb1 : b ≤ 9223372036854775807) (hn : l.length ≤ 1048576) (hc : Exs w a l) :
    Calls Try.prog 34 #[.slice a l.length cap, .int .i64 b] w fun e w' => e = .returned (.bool (plc b 0 l && ((decide (1 ≤ b) && decide (b ≤ 400)) && decide (l.length ≤ 60)))) ∧ Below w.heap.size w w' := by
  have hP := plc_okAt (b := b) (l := l)
  unfold Exs at hc
  generalize hf : gx l = f at *
  generalize hL : l.length = n at *
  generalize plc b 0 l = r at *
  clear hf hL
  go_enter Try.func34, Try.ntmps34
  go_wp2
  go_loopw [9] (fun i wr => ∃ (k : Nat), k ≤ n ∧ i = .int .i64 k ∧ (∀ i, i < k → okAt b f i) ∧ Below w.heap.size w wr) (fun i _ => n - (intOf i).toNat)
  case atStart => exact ⟨0, Nat.zero_le _, rfl, fun i hi => absurd hi (by omega), Below.refl _ _⟩
  case round =>
    obtain ⟨k, hk, rfl, hok, hb⟩ := hrel
    have HP : Hid _ := hP
    have HO : Hid _ := hok
    clear hP hok
    by_cases hlt : k < n
    · obtain ⟨bb, off, rfl, hcell⟩ := (hc.below hb) (by omega)
      obtain ⟨k0, k1⟩ := hcell k hlt
      have HC : Hid _ := hcell
      clear hcell hc
      generalize hx : f k = x at k0 k1
      have HX : Hid _ := hx
      clear hx
      obtain ⟨p, q⟩ := x
      simp only at k0 k1
      have hbad : ¬ okAt b f k → r = false := fun hno => by
        cases r with
        | false => rfl
        | true => exact absurd (HP.out.1 rfl k hlt) hno
      unfold okAt at hbad
      rw [HX.out] at hbad
      unfold fin at hbad
      simp only at hbad
      have HBad : Hid _ := hbad
      clear hbad
      by_cases h1 : p < 0
      · have hr : r = false := HBad.out (by omega)
        subst hr
        have d1 : decide (p < 0) = true := by simp; omega
        go_wp2
        go_quiet (fail)
        go_wp2
        go_ret
        exact ⟨rfl, below_drewN (Below.comp hb (below_alloc _ _)) _⟩
      have d1 : decide (p < 0) = false := by simp; omega
      by_cases h2 : q < 1
      · have hr : r = false := HBad.out (by omega)
        subst hr
        have d2 : decide (q < 1) = true := by simp; omega
        go_wp2
        go_quiet (fail)
        go_wp2
        go_ret
        exact ⟨rfl, below_drewN (Below.comp hb (below_alloc _ _)) _⟩
      have d2 : decide (q < 1) = false := by simp; omega
      by_cases h3 : b < q
      · have hr : r = false := HBad.out (by omega)
        subst hr
        have d3 : decide (b < q) = true := by simp; omega
        go_wp2
        go_quiet (fail)
        go_wp2
        go_ret
        exact ⟨rfl, below_drewN (Below.comp hb (below_alloc _ _)) _⟩
      have d3 : decide (b < q) = false := by simp; omega
      have ew : IntKind.i64.wrap (b - q) = b - q := wrapI (by omega) (by omega)
      by_cases h4 : b - q < p
      · have hr : r = false := HBad.out (by omega)
        subst hr
        have d4 : decide (b - q < p) = true := by simp; omega
        go_wp2
        go_quiet (fail)
        go_wp2
        go_ret
        exact ⟨rfl, below_drewN (Below.comp hb (below_alloc _ _)) _⟩
      have d4 : decide (b - q < p) = false := by simp; omega
      cases k with
      | zero =>
        simp only [Nat.zero_mul, Nat.add_zero] at k0 k1
        go_wp2
        go_quiet (fail)
        go_wp2
        go_roundw
        case rel => exact ⟨0 + 1, hlt, by go_num, fun i hi => by
          by_cases e : i < 0
          · exact HO.out i e
          · obtain rfl : i = 0 := by omega
            unfold okAt
            rw [HX.out]
            unfold fin
            simp only
            exact ⟨by omega, by omega, by omega, fun h => absurd h (by omega)⟩, below_drewN (Below.comp hb (below_alloc _ _)) _⟩
        case measure => simp [intOf]; omega
      | succ j =>
        obtain ⟨y0, y1⟩ := HC.out j (by omega)
        have hpv := HO.out j (by omega)
        unfold okAt fin at hpv
        generalize hy : f j = y at y0 y1 hpv
        have HY : Hid _ := hy
        clear hy
        obtain ⟨p', q'⟩ := y
        simp only at y0 y1 hpv
        obtain ⟨v0, v1, v2, -⟩ := hpv
        have el : j < n := by omega
        have y0a := cell_on y0 (below_alloc wr (.cells #[.int .i64 p, .int .i64 q] 41))
        have y1a := cell_on y1 (below_alloc wr (.cells #[.int .i64 p, .int .i64 q] 41))
        have el' : (j : Int) < (n : Int) := by omega
        have ej : IntKind.i64.wrap (j : Int) = j := wrapI (by omega) (by omega)
        have e0 : decide ((0 : Int) < (j : Int) + 1) = true := decide_eq_true (by omega)
        have ev : IntKind.i64.wrap (p' + q') = p' + q' := wrapI (by omega) (by omega)
        by_cases h5 : p ≤ p' + q'
        · have hr : r = false := HBad.out (fun h => by have := h.2.2.2 (by omega); rw [show j + 1 - 1 = j from rfl, HY.out] at this; simp only at this; omega)
          subst hr
          have d5 : decide (p ≤ p' + q') = true := by simp; omega
          go_wp2
          go_quiet (fail)
          go_wp2
          go_ret
          exact ⟨rfl, below_drewN (Below.comp hb (below_alloc _ _)) _⟩
        · have d5 : decide (p ≤ p' + q') = false := by simp; omega
          go_wp2
          go_quiet (fail)
          go_wp2
          go_roundw
          case rel => exact ⟨j + 1 + 1, hlt, by go_num, fun i hi => by
            by_cases e : i < j + 1
            · exact HO.out i e
            · obtain rfl : i = j + 1 := by omega
              unfold okAt
              rw [HX.out]
              unfold fin
              simp only
              exact ⟨by omega, by omega, by omega, fun _ => by rw [show j + 1 - 1 = j from rfl, HY.out]; simp only; omega⟩, below_drewN (Below.comp hb (below_alloc _ _)) _⟩
          case measure => simp [intOf]; omega
    · have hkn : k = n := by omega
      subst hkn
      have hr : r = true := HP.out.2 HO.out
      subst hr
      clear hc HP HO
      go_wp2_with (go_at_call 42; refine (l1In_any b 1 400 _).mono ?_; rintro e w1 ⟨rfl, rfl⟩)
      all_goals
        go_ret
        refine ⟨?_, hb⟩
        simp_all <;> omega
end Go.Proofs.Ytoodioaflaklmaa
