import Derived.Test.YtodidnbghiinkaaB1
import Derived.Test.YtodidnbghiinkaaP2
/- Both sides: how many bytes are alike from two places on. -/
namespace Go.Proofs.Ytodidnbghiinkaa
open Go.ChangeShapes Go.WideShapes Go.ChangeAt Go.RowKit
set_option linter.unusedVariables false
open Tz

attribute [local go_sem] Oper.semAt_some

theorem run_idx (s : ByteArray) (k : Nat) (h : k < s.size) (w : World) : (Instr.index 9 (.string s) (.int .i64 (k : Int))).run Try.prog w = .ok (.int .u8 ((ch s k).toNat : Nat)) w := by
  rw [run_index_string w 9 s .i64 (k : Int) Try.underlying9, dif_pos ⟨by omega, by omega⟩]
  have e : s[(k : Int).toNat]'(by omega) = ch s k := (ch_eq h).symm
  rw [e]
theorem run_idx' (s : ByteArray) (z : Int) (k : Nat) (hz : z = (k : Int)) (h : k < s.size) (w : World) : (Instr.index 9 (.string s) (.int .i64 z)).run Try.prog w = .ok (.int .u8 ((ch s k).toNat : Nat)) w := by
  subst hz; exact run_idx s k h w
theorem ch_beq (x y : UInt8) (h : x = y) : (((x.toNat : Nat) : Int) == ((y.toNat : Nat) : Int)) = true := by subst h; simp
theorem ch_bne (x y : UInt8) (h : ¬ x = y) : (((x.toNat : Nat) : Int) == ((y.toNat : Nat) : Int)) = false := by
  have : ¬ x.toNat = y.toNat := fun e => h (UInt8.toNat_inj.1 e)
  simp; omega
set_option maxHeartbeats 1000000 in
theorem alikeFrom_any (s : ByteArray) (a b : Nat) (w : World) (hab : a ≤ b) (hb : b ≤ s.size) (hl : s.size ≤ 100000) :
    Calls Try.prog 40 #[.string s, .int .i64 (a : Int), .int .i64 (b : Int)] w fun e w' => e = .returned (.int .i64 (alk s a b : Nat)) ∧ Below w.heap.size w w' := by
  have HA : Hid (∀ n, n ≤ 66 → b + n ≤ s.size → (∀ j, j < n → ch s (a + j) = ch s (b + j)) → (n = 66 ∨ b + n = s.size ∨ ch s (a + n) ≠ ch s (b + n)) → alk s a b = n) := fun n h1 h2 h3 h4 => alk_of hab h1 h2 h3 h4
  obtain ⟨N, hN⟩ : ∃ N, alk s a b = N := ⟨_, rfl⟩
  rw [hN] at HA ⊢
  clear hN
  go_enter Try.func40, Try.ntmps40
  go_wp2
  go_loopw [7] (fun ii wr => ∃ n : Nat, ii = .int .i64 n ∧ n ≤ 66 ∧ b + n ≤ s.size ∧ Hid (∀ j, j < n → ch s (a + j) = ch s (b + j)) ∧ Below w.heap.size w wr) (fun ii _ => 66 - (intOf ii).toNat)
  case atStart => exact ⟨0, rfl, by omega, by omega, fun j hj => by omega, Below.refl _ _⟩
  case round =>
    obtain ⟨n, rfl, h66, hsz, HE, hbw⟩ := hrel
    have bD : ∀ q, Below w.heap.size w (wr.drewN q) := fun q => below_drewN hbw q
    by_cases c1 : n < 66
    · have d1 : (n : Int) < 66 := by omega
      by_cases c2 : b + n < s.size
      · have d2 : (b : Int) + (n : Int) < (s.size : Int) := by omega
        have w1 : IntKind.i64.wrap ((b : Int) + (n : Int)) = (b : Int) + (n : Int) := wrapI (by omega) (by omega)
        have w2 : IntKind.i64.wrap ((a : Int) + (n : Int)) = (a : Int) + (n : Int) := wrapI (by omega) (by omega)
        have x1 := run_idx' s ((a : Int) + (n : Int)) (a + n) (by omega) (by omega)
        have x2 := run_idx' s ((b : Int) + (n : Int)) (b + n) (by omega) (by omega)
        by_cases c3 : ch s (a + n) = ch s (b + n)
        · have d3 := ch_beq _ _ c3
          have HE' : Hid (∀ j, j < n + 1 → ch s (a + j) = ch s (b + j)) := fun j hj => by
            by_cases e : j = n
            · subst e; exact c3
            · exact HE.out j (by omega)
          generalize (ch s (a + n)).toNat = X at x1 d3
          generalize (ch s (b + n)).toNat = Y at x2 d3
          clear c3 HE
          go_wp2_with fail
          go_quiet (fail)
          go_wp2
          go_roundw
          case rel => exact ⟨n + 1, by go_num, by omega, by omega, HE'.out, bD _⟩
          case measure => simp [intOf]; omega
        · have d3 := ch_bne _ _ c3
          have hN : N = n := (HA.out n h66 hsz HE.out (.inr (.inr c3)))
          subst hN
          generalize (ch s (a + N)).toNat = X at x1 d3
          generalize (ch s (b + N)).toNat = Y at x2 d3
          clear c3 HE HA
          go_wp2_with fail
          go_quiet (fail)
          go_wp2
          go_ret
          exact ⟨rfl, bD _⟩
      · have hN : N = n := (HA.out n h66 hsz HE.out (.inr (.inl (by omega))))
        subst hN
        have d2 : ¬ (b : Int) + (N : Int) < (s.size : Int) := by omega
        have d2' : decide ((b : Int) + (N : Int) < (s.size : Int)) = false := by simp; omega
        have w1 : IntKind.i64.wrap ((b : Int) + (N : Int)) = (b : Int) + (N : Int) := wrapI (by omega) (by omega)
        clear HE HA
        go_wp2_with fail
        go_quiet (fail)
        go_wp2
        go_ret
        exact ⟨rfl, bD _⟩
    · have hN : N = n := (HA.out n h66 hsz HE.out (.inl (by omega)))
      subst hN
      have d1 : ¬ (N : Int) < 66 := by omega
      have d1' : decide ((N : Int) < 66) = false := by simp; omega
      clear HE HA
      go_wp2_with fail
      go_quiet (fail)
      go_wp2
      go_ret
      exact ⟨rfl, bD _⟩
end Go.Proofs.Ytodidnbghiinkaa
