import Derived.Test.YtgipopkjjhehlaaDoorX3
import Derived.Deep.QuietTactic
import Derived.BigQuiet
import Derived.Lib.QuietBelow
import Derived.Deep.RegionWith
import Derived.Deep.DeepCutAuto
import Derived.WalkSmall
namespace Go.Proofs.YtgipopkjjhehlaaDoor
open Go.ChangeShapes Go.WideShapes Go.ChangeAt Go.RowKit
set_option linter.unusedVariables false
open GF

/-- The drawing cursor: a box in block D; what it reads lies ahead of it. -/
def Cur (w : World) (D : Nat) (a : Option Addr) (n cap T : Nat) : Prop :=
  ∃ (S : Nat → Nat) (t : Nat) (s : Int), (∀ i, S i < 256) ∧ (n ≠ 0 → ∃ b off, a = some ⟨b, off, none⟩ ∧ b < D ∧ ∀ i, i < n → w.cell? ⟨b, off + i, none⟩ = some (.int .u8 (S i : Nat))) ∧
    t ≤ T ∧ 0 ≤ s ∧ s < 18446744073709551616 ∧ w.heap[D]? = some (.cells #[.slice a n cap, .int .i64 (t : Int), .int .u64 s] 49 (0, 0))
theorem Cur.below {w w' : World} {D : Nat} {a : Option Addr} {n cap T : Nat} (h : Cur w D a n cap T) (hb : Below w.heap.size w w') : Cur w' D a n cap T := by
  obtain ⟨S, t, s, h1, h2, h3, h4, h5, h6⟩ := h
  have hD : D < w.heap.size := (Array.getElem?_eq_some_iff.1 h6).1
  refine ⟨S, t, s, h1, fun hn => ?_, h3, h4, h5, (hb.block D hD).trans h6⟩
  obtain ⟨b, off, e, hlt, hc⟩ := h2 hn
  exact ⟨b, off, e, hlt, fun i hi => (hb.cell (p := ⟨b, off + i, none⟩) (Nat.lt_trans hlt hD)).trans (hc i hi)⟩
theorem Cur.mono {w : World} {D : Nat} {a : Option Addr} {n cap T T' : Nat} (h : Cur w D a n cap T) (hT : T ≤ T') : Cur w D a n cap T' := by
  obtain ⟨S, t, s, h1, h2, h3, h4, h5, h6⟩ := h
  exact ⟨S, t, s, h1, h2, by omega, h4, h5, h6⟩

theorem wrap_u64_lt (n : Int) : IntKind.u64.wrap n < 18446744073709551616 := by simp [IntKind.wrap, IntKind.bits, IntKind.signed]; omega
theorem and255 {s : Int} (h0 : 0 ≤ s) (h1 : s < 18446744073709551616) : ∃ r : Nat, r < 256 ∧ bits .and .u64 (s / 1099511627776) 255 = (r : Int) := by
  refine ⟨(s / 1099511627776).toNat % 256, by omega, ?_⟩
  have e : s / 1099511627776 = (((s / 1099511627776).toNat : Nat) : Int) := by omega
  rw [e, show (255 : Int) = ((255 : Nat) : Int) from rfl, u64_and_nat _ _ (by omega) (by omega), nat_mask8]
  simp
set_option maxHeartbeats 800000 in
theorem next_any (D : Nat) (a : Option Addr) (n cap T : Nat) (w : World) (hn : n ≤ 9223372036854775807) (hT : T ≤ 1000000) (h : Cur w D a n cap T) :
    Calls Tryd.prog 58 #[.pointer (some ⟨D, 0, none⟩)] w fun e w' => ∃ r : Nat, e = .returned (.int .i64 (r : Int)) ∧ r < 256 ∧ Out D (D + 1) w w' ∧ Cur w' D a n cap (T + 1) := by
  obtain ⟨S, t, s, h1, h2, h3, h4, h5, h6⟩ := h
  have c0 : w.cell? ⟨D, 0, none⟩ = some (.slice a n cap) := cell_of_block h6 rfl
  have c1 : w.cell? ⟨D, 1, none⟩ = some (.int .i64 (t : Int)) := cell_of_block h6 rfl
  have c2 : w.cell? ⟨D, 2, none⟩ = some (.int .u64 s) := cell_of_block h6 rfl
  have f1 := free_of_block (i := 1) h6
  have f2 := free_of_block (i := 2) h6
  have H6 : Hid _ := h6
  have H2 : Hid _ := h2
  clear h6 h2
  by_cases hlt : t < n
  · obtain ⟨b, off, rfl, hbD, hc⟩ := H2.out (by omega)
    have hct := hc t hlt
    have HC : Hid _ := hc
    have hlt' : (t : Int) < (n : Int) := by omega
    have hle' : (t : Int) + 1 ≤ (n : Int) := by omega
    have hSt := h1 t
    clear hc
    go_enter Tryd.func58, Tryd.ntmps58
    go_wp2
    go_quiet (fail)
    go_wp2
    obtain ⟨q0, hq0⟩ : ∃ q0, q0 = nq := ⟨_, rfl⟩
    subst hq0
    go_quiet (fail)
    go_wp2
    obtain ⟨s', hs'⟩ : ∃ s', s' = IntKind.u64.wrap (IntKind.u64.wrap (IntKind.u64.wrap (s * 6364136223846793005) + ((S t : Nat) : Int)) + 1442695040888963407) := ⟨_, rfl⟩
    have hs0 : 0 ≤ s' := by rw [hs']; exact wrap_u64_nonneg _
    have hs1 : s' < 18446744073709551616 := by rw [hs']; exact wrap_u64_lt _
    rw [← hs']
    clear hs'
    obtain ⟨r, hr, hx⟩ := and255 hs0 hs1
    obtain ⟨W, hW⟩ : ∃ W, W = (((w.drewN (q0 + nq)).setCell ⟨D, 1, none⟩ (.int .i64 ((t : Int) + 1))).setCell ⟨D, 2, none⟩ (.int .u64 s')) := ⟨_, rfl⟩
    have blk : W.heap[D]? = some (.cells #[.slice (some ⟨b, off, none⟩) n cap, .int .i64 ((t : Int) + 1), .int .u64 s'] 49 (0, 0)) := by rw [hW]; exact block_set (block_set H6.out)
    have oW : Out D (D + 1) w W := by rw [hW]; exact ((Out.of_below (below_drewN (Below.refl _ _) _)).setCell (Nat.le_refl _) (by omega) _ _).setCell (Nat.le_refl _) (by omega) _ _
    rw [← hW]
    have d0 : W.cell? ⟨D, 0, none⟩ = some (.slice (some ⟨b, off, none⟩) n cap) := cell_of_block blk rfl
    have d1 : W.cell? ⟨D, 1, none⟩ = some (.int .i64 ((t : Int) + 1)) := cell_of_block blk rfl
    have d2 : W.cell? ⟨D, 2, none⟩ = some (.int .u64 s') := cell_of_block blk rfl
    have cW : Cur W D (some ⟨b, off, none⟩) n cap (T + 1) := by
      refine ⟨S, t + 1, s', h1, fun _ => ⟨b, off, rfl, hbD, fun i hi => ?_⟩, by omega, hs0, hs1, blk⟩
      exact cell_out oW (HC.out i hi) (.inl hbD)
    have OW : Hid (∀ q, Out D (D + 1) w (W.drewN q)) := fun q => oW.trans (Out.of_below (below_drewN (Below.refl _ _) _))
    have CW : Hid (∀ q, Cur (W.drewN q) D (some ⟨b, off, none⟩) n cap (T + 1)) := fun q => cW.below (below_drewN (Below.refl _ _) _)
    clear hW blk oW cW c0 c1 c2 f1 f2 hct
    go_quiet (fail)
    go_wp2
    skip
    go_ret
    exact ⟨S t, rfl, hSt, OW.out _, CW.out _⟩
  · have hlt' : ¬ (t : Int) < (n : Int) := by omega
    have hle' : ¬ (t : Int) + 1 ≤ (n : Int) := by omega
    go_enter Tryd.func58, Tryd.ntmps58
    go_wp2
    go_quiet (fail)
    go_wp2
    obtain ⟨s', hs'⟩ : ∃ s', s' = IntKind.u64.wrap (IntKind.u64.wrap (IntKind.u64.wrap (s * 6364136223846793005)) + 1442695040888963407) := ⟨_, rfl⟩
    have hs0 : 0 ≤ s' := by rw [hs']; exact wrap_u64_nonneg _
    have hs1 : s' < 18446744073709551616 := by rw [hs']; exact wrap_u64_lt _
    rw [← hs']
    clear hs'
    obtain ⟨r, hr, hx⟩ := and255 hs0 hs1
    obtain ⟨W, hW⟩ : ∃ W, W = (((w.drewN nq).setCell ⟨D, 1, none⟩ (.int .i64 ((t : Int) + 1))).setCell ⟨D, 2, none⟩ (.int .u64 s')) := ⟨_, rfl⟩
    have blk : W.heap[D]? = some (.cells #[.slice a n cap, .int .i64 ((t : Int) + 1), .int .u64 s'] 49 (0, 0)) := by rw [hW]; exact block_set (block_set H6.out)
    have oW : Out D (D + 1) w W := by rw [hW]; exact ((Out.of_below (below_drewN (Below.refl _ _) _)).setCell (Nat.le_refl _) (by omega) _ _).setCell (Nat.le_refl _) (by omega) _ _
    rw [← hW]
    have d0 : W.cell? ⟨D, 0, none⟩ = some (.slice a n cap) := cell_of_block blk rfl
    have d1 : W.cell? ⟨D, 1, none⟩ = some (.int .i64 ((t : Int) + 1)) := cell_of_block blk rfl
    have d2 : W.cell? ⟨D, 2, none⟩ = some (.int .u64 s') := cell_of_block blk rfl
    have cW : Cur W D a n cap (T + 1) := by
      refine ⟨S, t + 1, s', h1, fun hn => ?_, by omega, hs0, hs1, blk⟩
      obtain ⟨b, off, e, hbD, hc⟩ := H2.out hn; exact ⟨b, off, e, hbD, fun i hi => cell_out oW (hc i hi) (.inl hbD)⟩
    have OW : Hid (∀ q, Out D (D + 1) w (W.drewN q)) := fun q => oW.trans (Out.of_below (below_drewN (Below.refl _ _) _))
    have CW : Hid (∀ q, Cur (W.drewN q) D a n cap (T + 1)) := fun q => cW.below (below_drewN (Below.refl _ _) _)
    clear hW blk oW cW c0 c1 c2 f1 f2 
    go_quiet (fail)
    go_wp2
    skip
    go_ret
    exact ⟨r, rfl, hr, OW.out _, CW.out _⟩
end Go.Proofs.YtgipopkjjhehlaaDoor
