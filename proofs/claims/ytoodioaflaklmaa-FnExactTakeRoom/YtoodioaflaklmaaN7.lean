/- l5Pick. -/
import Derived.Test.YtoodioaflaklmaaN2
namespace Go.Proofs.Ytoodioaflaklmaa
open Go.ChangeShapes Go.WideShapes Go.ChangeAt Go.RowKit
set_option linter.unusedVariables false
open Room
attribute [local go_sem] Oper.semAt_some
set_option maxHeartbeats 2000000 in
theorem pick3 (b : Int) (a : Option Addr) (ca : Nat) (a' : Option Addr) (ca' : Nat) (l s : List Ex) (long near : Int) (w : World) (hn : l.length ≤ 60) (hn' : s.length ≤ 60) (hl : 1 ≤ long ∧ long ≤ 400) (hne : 0 ≤ near ∧ near ≤ 400) (hx : ∀ x, x ∈ l → 0 ≤ x.1 ∧ 1 ≤ x.2 ∧ fin x ≤ 400) (ha : Exs w a l) (ha' : Exs w a' s) :
    Calls Try.prog 43 #[fv b a l.length ca a' s.length ca', .int .i64 long, .int .i64 3, .int .i64 near] w fun e w' => e = .returned (.int .i64 (lstA long s)) ∧ Below w.heap.size w w' := by
  obtain ⟨D, hD⟩ : ∃ D, w.heap.size = D := ⟨_, rfl⟩
  obtain ⟨W0, hW0⟩ : ∃ W0, w.alloc (.cells #[.int .i64 b, .slice a l.length ca, .slice a' s.length ca'] 29) = W0 := ⟨_, rfl⟩
  have g0 : Below w.heap.size w W0 := by subst hW0; exact below_alloc _ _
  have HB : Hid (W0.heap[D]? = some (.cells #[.int .i64 b, .slice a l.length ca, .slice a' s.length ca'] 29 (0, 0))) := by subst hW0 hD; exact al1 _ _
  obtain ⟨i0, i1, i2, -, -, -⟩ := box3_cells HB.out
  unfold lstA
  by_cases hs0 : 0 < s.length
  · obtain ⟨bb, off, rfl, hcell⟩ := (ha'.below g0) (by omega)
    obtain ⟨k0, k1⟩ := hcell (s.length - 1) (by omega)
    obtain ⟨N, hN⟩ : ∃ N, s.length = N + 1 := ⟨s.length - 1, by omega⟩
    rw [hN] at k0 k1 hW0 i2 hn' ⊢
    rw [show N + 1 - 1 = N by omega] at k0 k1 ⊢
    have hwN : IntKind.i64.wrap (((N + 1 : Nat) : Int) - 1) = (N : Int) := by rw [wrapI (by omega) (by omega)]; omega
    have hgt : (0 : Int) < ((N + 1 : Nat) : Int) := by omega
    have hNl : (N : Int) < ((N + 1 : Nat) : Int) := by omega
    have hNn : N < N + 1 := by omega
    clear hcell ha ha' hN hs0
    generalize gx s N = z at *
    obtain ⟨y1, y2⟩ := z
    simp only at k0 k1
    by_cases hlo : long ≤ y2
    · rw [if_pos ⟨by omega, hlo⟩]
      go_enter Try.func43, Try.ntmps43
      go_wp2
      go_ret
      exact ⟨rfl, by first | exact g0 | exact (hD ▸ g0)⟩
    · rw [if_neg (fun h => hlo h.2)]
      go_enter Try.func43, Try.ntmps43
      go_wp2
      go_ret
      exact ⟨rfl, by first | exact g0 | exact (hD ▸ g0)⟩
  · have hs : s.length = 0 := by omega
    rw [if_neg (fun h => hs0 h.1)]
    rw [hs] at hW0 i2 ⊢
    clear ha ha'
    go_enter Try.func43, Try.ntmps43
    go_wp2
    go_ret
    exact ⟨rfl, by first | exact g0 | exact (hD ▸ g0)⟩
end Go.Proofs.Ytoodioaflaklmaa
