import Derived.Test.YtodidnbghiinkaaB2
/- What the laws do with rows of tokens: count. -/
namespace Go.Proofs.Ytodidnbghiinkaa
open Go.ChangeShapes Go.WideShapes Go.ChangeAt Go.RowKit
set_option linter.unusedVariables false
open Tz

attribute [local go_sem] Oper.semAt_some

set_option maxHeartbeats 2000000 in
theorem szTokenS_any (a : Option Addr) (n c : Nat) (g : Nat → Tk) (left : Int) (w : World) (hn : n ≤ 9223372036854775807) (hf : ∀ i, i < n → Few (g i)) (h0 : 0 ≤ left) (h1 : left ≤ 1048576) (ha : RowT w a n g) :
    Calls Try.prog 15 #[.slice a n c, .int .i64 left] w fun e w' => Below w.heap.size w w' ∧ ∃ r : Int, e = .returned (.int .i64 r) ∧ (r < 0 ∨ n ≤ 1048576) := by
  by_cases hl : left - (n : Int) < 0
  · go_enter Try.func15, Try.ntmps15
    go_wp2
    go_ret
    exact ⟨Below.refl _ _, _, rfl, .inl (by decide)⟩
  · have hl' : 0 ≤ left - (n : Int) := by omega
    have HN : Hid (n ≤ 1048576) := by show _ ≤ _; omega
    have HV : Hid (left - (n : Int) ≤ 1048576) := by show _ ≤ _; omega
    have HF : Hid _ := hf
    have HR : Hid _ := ha
    clear hf ha
    go_enter Try.func15, Try.ntmps15
    go_wp2
    go_loopw [1, 5] (fun le i wr => ∃ (k : Nat) (K : Int), k ≤ n ∧ i = .int .i64 (k : Int) ∧ le = .int .i64 K ∧ 0 ≤ K ∧ K ≤ 1048576 ∧ Below w.heap.size w wr) (fun _ i _ => n - (intOf i).toNat)
    case atStart => exact ⟨0, left - (n : Int), Nat.zero_le _, rfl, rfl, by omega, HV.out, Below.refl _ _⟩
    case round =>
      obtain ⟨k, K, hk, rfl, rfl, hK0, hK1, hb⟩ := hrel
      by_cases hlt : k < n
      · obtain ⟨b, off, rfl, hcell⟩ := (RowT.below HR.out hb) (by omega)
        obtain ⟨c0, c1, c2⟩ := hcell k hlt
        have hfx := HF.out k hlt
        have hlt' : (k : Int) < (n : Int) := by omega
        clear hcell HR HF
        obtain ⟨x, hx⟩ : ∃ x, g k = x := ⟨_, rfl⟩
        rw [hx] at c0 c1 c2 hfx
        clear hx
        have cS := fun W => szToken_any x K hfx ⟨hK0, hK1⟩ W
        obtain ⟨xp, xd, xn⟩ := x
        simp only at c0 c1 c2 cS
        clear hfx
        go_wp2_with fail
        refine (cS _).mono ?_
        rintro e w1 ⟨b1, r, rfl, hr⟩
        clear cS c0 c1 c2
        by_cases hr0 : r < 0
        · clear hr
          go_wp2
          go_ret
          exact ⟨Below.comp hb b1, _, rfl, .inl (by decide)⟩
        · have hr1 : 0 ≤ r ∧ r ≤ 1048576 := by rcases hr with h | h; omega; omega
          have hw1 : IntKind.i64.wrap ((k : Int) + 1) = (k : Int) + 1 := wrapI (by omega) (by omega)
          clear hr
          go_wp2
          go_roundw
          case rel => exact ⟨k + 1, r, by omega, by go_num, rfl, hr1.1, hr1.2, Below.comp hb b1⟩
          case measure => simp [intOf]; omega
      · go_wp2
        go_ret
        exact ⟨hb, _, rfl, .inr HN.out⟩
end Go.Proofs.Ytodidnbghiinkaa
