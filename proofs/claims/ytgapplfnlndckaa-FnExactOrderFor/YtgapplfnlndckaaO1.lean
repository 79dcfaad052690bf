import Derived.Test.YtgapplfnlndckaaB2
import Derived.Lib.BitFns
/- OrderFor, on both sides, and its law. -/
namespace Go.Proofs.Ytgapplfnlndckaa
open Go.ChangeShapes Go.WideShapes Go.ChangeAt Go.RowKit
set_option linter.unusedVariables false
open Room

attribute [local go_sem] Oper.semAt_some

theorem og_all : ∀ m : Fin 256, ∀ k : Fin 9, decide (2 ^ k.val < m.val + 1) = decide (k.val < Lib.bitLen m.val) := by decide +kernel
theorem og_le (m : Nat) (h : m ≤ 255) : Lib.bitLen m ≤ 8 := Lib.bitLen_le8 ⟨m, by omega⟩
theorem og_iff {m k : Nat} (h : m ≤ 255) (hk : k ≤ 8) : pw (k : Int) < (m : Int) + 1 ↔ k < Lib.bitLen m := by
  have h1 := og_all ⟨m, by omega⟩ ⟨k, by omega⟩
  simp only [decide_eq_decide] at h1
  simp only [pw, Int.toNat_natCast]
  omega
/-- What OrderFor tells. -/
def ordV (n : Int) : Value := if 1 ≤ n ∧ n ≤ 256 then .tuple #[.int .i64 (Lib.bitLen (n - 1).toNat : Nat), .bool true] else .tuple #[.int .i64 0, .bool false]

set_option maxHeartbeats 4000000 in
set_option maxRecDepth 100000 in
theorem len64_any (x : Int) (h0 : 0 ≤ x) (h1 : x ≤ 255) (w : World) : Calls Try.prog 58 #[.int .u64 x] w fun e w' => e = .returned (.int .i64 (Lib.bitLen x.toNat : Nat)) ∧ w' = w := by
  go_enter Try.func58, Try.ntmps58
  go_wp2
  go_ret
  refine ⟨congrArg Ending.returned (congrArg (Value.int IntKind.i64) ?_), rfl⟩
  rw [Lib.len8_of x h0 h1]
  have l := og_le x.toNat (by omega)
  have e : wrap64 ((Lib.bitLen x.toNat : Nat) : Int) = (Lib.bitLen x.toNat : Nat) := by unfold wrap64; omega
  rw [e, e]
theorem len_any (m : Nat) (h : m ≤ 255) (w : World) : Calls Try.prog 53 #[.int .u64 (m : Int)] w fun e w' => e = .returned (.int .i64 (Lib.bitLen m : Nat)) ∧ w' = w := by
  go_enter Try.func53, Try.ntmps53
  go_wp2_with (go_at_call 58; refine (len64_any m (by omega) (by omega) _).mono ?_; rintro e w' ⟨rfl, rfl⟩)
  go_ret
  exact ⟨rfl, rfl⟩
theorem specOrder_any (n : Int) (w : World) : Calls Try.prog 29 #[.int .i64 n] w fun e w' => e = .returned (ordV n) ∧ w' = w := by
  unfold ordV
  by_cases h : 1 ≤ n ∧ n ≤ 256
  · rw [if_pos h]
    have e1 : (decide (1 ≤ n) && decide (n ≤ 256)) = true := by simp; omega
    obtain ⟨m, rfl⟩ : ∃ m : Nat, n = (m : Int) + 1 := ⟨(n - 1).toNat, by omega⟩
    have hm : m ≤ 255 := by omega
    have e2 : ((m : Int) + 1 - 1).toNat = m := by omega
    rw [e2]
    have E1 := fun W => l1In_any ((m : Int) + 1) 1 256 W
    rw [e1] at E1
    have H8 := og_le m hm
    have HI : Hid (∀ k : Nat, k ≤ 8 → (pw (k : Int) < (m : Int) + 1 ↔ k < Lib.bitLen m)) := fun k hk => og_iff hm hk
    generalize hN : (m : Int) + 1 = N at *
    have HN : Hid _ := hN
    clear h e1 e2 hN
    go_enter Try.func29, Try.ntmps29
    go_wp2_with fail
    refine (E1 _).mono ?_
    rintro e w1 ⟨rfl, rfl⟩
    go_wp2
    go_loopw [4] (fun i wr => ∃ (k : Nat), k ≤ Lib.bitLen m ∧ i = .int .i64 k ∧ wr = w1) (fun i _ => 9 - (intOf i).toNat)
    case atStart => exact ⟨0, Nat.zero_le _, rfl, rfl⟩
    case round =>
      obtain ⟨k, hk, rfl, rfl⟩ := hrel
      have hk8 : k ≤ 8 := by omega
      have hsh := shl_one hk8
      have hi := HI.out k hk8
      by_cases hlt : k < Lib.bitLen m
      · have hlt' := hi.2 hlt
        clear hi
        generalize pw (k : Int) = L at *
        go_wp2
        go_roundw
        case rel => exact ⟨k + 1, by omega, by go_num, trivial⟩
        case measure => simp [intOf]; omega
      · have hlt' : ¬ pw (k : Int) < N := fun h => hlt (hi.1 h)
        clear hi
        generalize pw (k : Int) = L at *
        go_wp2
        go_ret2
        have : k = Lib.bitLen m := by omega
        rw [this]
        exact ⟨rfl, rfl⟩
  · rw [if_neg h]
    have e1 : (decide (1 ≤ n) && decide (n ≤ 256)) = false := by
      cases h' : (decide (1 ≤ n) && decide (n ≤ 256))
      · rfl
      · simp at h'; omega
    have E1 := fun W => l1In_any n 1 256 W
    rw [e1] at E1
    clear e1 h
    go_enter Try.func29, Try.ntmps29
    go_wp2_with fail
    refine (E1 _).mono ?_
    rintro e w1 ⟨rfl, rfl⟩
    go_wp2
    go_ret2
    exact ⟨rfl, rfl⟩
theorem implOrder_any (n : Int) (w : World) : Calls Try.prog 30 #[.int .i64 n] w fun e w' => e = .returned (ordV n) ∧ w' = w := by
  unfold ordV
  by_cases h : 1 ≤ n ∧ n ≤ 256
  · rw [if_pos h]
    obtain ⟨m, rfl⟩ : ∃ m : Nat, n = (m : Int) + 1 := ⟨(n - 1).toNat, by omega⟩
    have hm : m ≤ 255 := by omega
    have e2 : ((m : Int) + 1 - 1).toNat = m := by omega
    rw [e2]
    go_enter Try.func30, Try.ntmps30
    go_wp2_with (go_at_call 53; refine (len_any m hm _).mono ?_; rintro e w' ⟨rfl, rfl⟩)
    go_ret2
    exact ⟨rfl, rfl⟩
  · rw [if_neg h]
    by_cases h1 : n < 1
    · go_enter Try.func30, Try.ntmps30
      go_wp2
      go_ret2
      exact ⟨rfl, rfl⟩
    · have h2 : 256 < n := by omega
      go_enter Try.func30, Try.ntmps30
      go_wp2
      go_ret2
      exact ⟨rfl, rfl⟩
theorem lawOrder (n : Int) (w : World) : Calls Try.prog 9 #[.int .i64 n] w fun e w' => e = .returned (.bool true) ∧ Below w.heap.size w w' := by
  have c1 := fun W => specOrder_any n W
  have c2 := fun W => implOrder_any n W
  obtain ⟨k, b, hk⟩ : ∃ (k : Int) (b : Bool), ordV n = .tuple #[.int .i64 k, .bool b] := by
    unfold ordV
    split
    · exact ⟨_, _, rfl⟩
    · exact ⟨_, _, rfl⟩
  rw [hk] at c1 c2
  go_enter Try.func9, Try.ntmps9
  go_wp2_with fail
  refine (c1 _).mono ?_
  rintro e w1 ⟨rfl, rfl⟩
  go_wp2_with fail
  refine (c2 _).mono ?_
  rintro e w1 ⟨rfl, rfl⟩
  have hb : (b != b) = false := by simp
  go_wp2
  go_ret
  exact ⟨rfl, Below.refl _ _⟩
end Go.Proofs.Ytgapplfnlndckaa
