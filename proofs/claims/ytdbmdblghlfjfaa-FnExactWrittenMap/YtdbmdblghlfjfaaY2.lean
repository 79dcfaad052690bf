import Derived.Test.YtdbmdblghlfjfaaY1
import Derived.Test.YtdbmdblghlfjfaaP4
import Derived.Test.YtdbmdblghlfjfaaS1
/- The search by halves in a row of pieces that rise; a piece cut in two. -/
namespace Go.Proofs.Ytdbmdblghlfjfaa
open Go.ChangeShapes Go.WideShapes Go.ChangeAt Go.RowKit
set_option linter.unusedVariables false
open Mp

attribute [local go_sem] Oper.semAt_some

theorem compareFrom_any (p : Pc) (t : Int) (w : World) : Calls Try.prog 77 #[pv p, .int .i64 t] w fun e w' => e = .returned (.int .i64 (cmpI p.f t)) ∧ Below w.heap.size w w' := by
  obtain ⟨f, n, a, z⟩ := p
  go_enter Try.func77, Try.ntmps77
  go_wp2_with (go_at_call 85; refine (Compare_any _ _ _).mono ?_; rintro e w' ⟨rfl, rfl⟩)
  go_ret
  exact ⟨rfl, below_alloc _ _⟩
theorem cmpI_neg (x y : Int) : (cmpI x y < 0) ↔ x < y := by
  unfold cmpI
  by_cases h1 : x < y
  · simp [h1]
  · by_cases h2 : y < x <;> simp [h1, h2]
set_option maxHeartbeats 2000000 in
theorem Search_any (a : Option Addr) (cap : Nat) (l : List Pc) (t : Int) (w : World) (hn : l.length ≤ 1000) (hs : Rs l) (hc : Pcs w a l) :
    Calls Try.prog 76 #[.slice a l.length cap, .int .i64 t, .func (.func 77) #[] #[]] w fun e w' => Below w.heap.size w w' ∧ ∃ r, e = .returned (.tuple #[.int .i64 (lbF t l : Nat), .bool r]) := by
  have hmono : ∀ i j, i ≤ j → j < l.length → (gp l j).f < t → (gp l i).f < t := fun i j hij hj h => by
    by_cases e : i = j
    · rw [e]; exact h
    · have h1 := hs.lt (i := i) (j := j) (by omega) hj
      have h2 := hs.ok (i := i) (by omega)
      unfold pok at h2
      omega
  have hlb : ∀ k, k ≤ l.length → (∀ i, i < k → (gp l i).f < t) → (∀ i, k ≤ i → i < l.length → t ≤ (gp l i).f) → lbF t l = k := fun k h1 h2 h3 => lbF_first h1 h2 fun h => by have := h3 k (Nat.le_refl _) h; omega
  have Hm : Hid _ := hmono
  have Hl : Hid _ := hlb
  clear hmono hlb hs
  unfold Pcs at hc
  generalize lbF t l = K at *
  generalize hf : gp l = f at *
  generalize l.length = n at *
  clear hf
  go_enter Try.func76, Try.ntmps76
  go_wp2
  go_loopw [9, 10] (fun i j wr => ∃ (lo hi : Nat), lo ≤ hi ∧ hi ≤ n ∧ i = .int .i64 lo ∧ j = .int .i64 hi ∧ Hid ((∀ i, i < lo → (f i).f < t) ∧ (∀ i, hi ≤ i → i < n → t ≤ (f i).f)) ∧ Below w.heap.size w wr) (fun i j _ => (intOf j).toNat - (intOf i).toNat)
  case atStart => exact ⟨0, n, Nat.zero_le _, Nat.le_refl _, rfl, rfl, ⟨fun i hi => absurd hi (by omega), fun i h1 h2 => absurd h2 (by omega)⟩, Below.refl _ _⟩
  case round =>
    obtain ⟨lo, hi, hlh, hin, rfl, rfl, HI, hb⟩ := hrel
    by_cases hlt : lo < hi
    · obtain ⟨h, hh⟩ : ∃ h, (lo + hi) / 2 = h := ⟨_, rfl⟩
      have hm0 : h < n := by omega
      have hm1 : lo ≤ h := by omega
      have hm2 : h < hi := by omega
      have eh : ((lo : Int) + (hi : Int)) / 2 = (h : Int) := by omega
      have hm0' : (h : Int) < (n : Int) := by omega
      clear hh
      obtain ⟨bb, off, rfl, hcell⟩ := (hc.below hb) (by omega)
      obtain ⟨k0, k1, k2, k3⟩ := hcell h (by omega)
      clear hcell
      have cc := fun W => compareFrom_any (f h) t W
      have hF' := cmpI_neg (f h).f t
      generalize hy : f h = y at k0 k1 k2 k3 cc hF'
      have HY : Hid _ := hy
      clear hy
      obtain ⟨pf, pn, pa, pz⟩ := y
      simp only at *
      generalize cmpI pf t = F at *
      by_cases hF : F < 0
      · have hr : (f h).f < t := by rw [HY.out]; exact hF'.1 hF
        have HR : Hid _ := hr
        clear hr hF'
        go_wp2_with (go_at_call 77; refine (cc _).mono ?_; rintro e w1 ⟨rfl, g1⟩)
        go_roundw
        case rel => exact ⟨h + 1, hi, by omega, hin, by go_num, rfl, ⟨fun i hi' => Hm.out i h (by omega) (by omega) HR.out, HI.out.2⟩, Below.comp hb g1⟩
        case measure => simp [intOf]; omega
      · have hr : ¬ (f h).f < t := by rw [HY.out]; exact fun q => hF (hF'.2 q)
        have HR : Hid _ := hr
        clear hr hF'
        go_wp2_with (go_at_call 77; refine (cc _).mono ?_; rintro e w1 ⟨rfl, g1⟩)
        go_roundw
        case rel => exact ⟨lo, h, by omega, by omega, rfl, by go_num, ⟨HI.out.1, fun i h1 h2 => by
          by_cases q : (f i).f < t
          · exact absurd (Hm.out h i h1 h2 q) (by have := HR.out; omega)
          · omega⟩, Below.comp hb g1⟩
        case measure => simp [intOf]; omega
    · obtain rfl : hi = lo := by omega
      have hK := Hl.out hi hin HI.out.1 HI.out.2
      subst hK
      clear Hl Hm HI
      by_cases hkn : K < n
      · obtain ⟨bb, off, rfl, hcell⟩ := (hc.below hb) (by omega)
        obtain ⟨k0, k1, k2, k3⟩ := hcell K hkn
        clear hcell
        have hkn' : (K : Int) < (n : Int) := by omega
        have cc := fun W => compareFrom_any (f K) t W
        generalize f K = y at *
        obtain ⟨pf, pn, pa, pz⟩ := y
        simp only at *
        generalize cmpI pf t = F at *
        go_wp2_with (go_at_call 77; refine (cc _).mono ?_; rintro e w1 ⟨rfl, g1⟩)
        all_goals
          go_ret2
          exact ⟨Below.comp hb g1, _, rfl⟩
      · go_wp2
        go_ret2
        exact ⟨hb, _, rfl⟩
end Go.Proofs.Ytdbmdblghlfjfaa
