import Derived.Test.YtnanemkmmokdfaaB1
/- Both sides: a hash, and a hash that rolls on. -/
namespace Go.Proofs.Ytnanemkmmokdfaa
open Go.ChangeShapes Go.WideShapes Go.ChangeAt Go.RowKit
set_option linter.unusedVariables false
open Hd

attribute [local go_sem] Oper.semAt_some

theorem take_snoc (s : ByteArray) (k : Nat) (h : k < s.size) : s.data.toList.take (k + 1) = s.data.toList.take k ++ [s[k]] := by
  rw [List.take_succ_eq_append_getElem (by simpa using h)]; rfl
theorem ret_int {k : IntKind} {a b : Int} (h : a = b) : Ending.returned (.int k a) = .returned (.int k b) := by rw [h]

set_option maxHeartbeats 400000 in
theorem l15Hash_any (s : ByteArray) (w : World) (hl : s.size ≤ 9223372036854775807) :
    Calls Try.prog 49 #[.string s] w fun e w' => e = .returned (.int .i64 (hs (bt s) : Nat)) ∧ w' = w := by
  go_enter Try.func49, Try.ntmps49
  go_wp2
  go_loop [3, 4] (fun n i => ∃ k : Nat, k ≤ s.size ∧ i = .int .i64 k ∧ n = .int .i64 (hs (s.data.toList.take k) : Nat)) (fun _ i => s.size - (intOf i).toNat)
  case atStart => exact ⟨0, Nat.zero_le _, rfl, rfl⟩
  case round =>
    obtain ⟨k, hk, rfl, rfl⟩ := hrel
    have hd := hs_lt (s.data.toList.take k)
    by_cases hlt : k < s.size
    · have HS : Hid (hs (s.data.toList.take (k + 1)) = (31 * hs (s.data.toList.take k) + s[k].toNat) % 4093) := by show _ = _; rw [take_snoc s k hlt, hs_snoc]
      have hb : s[k].toNat < 256 := s[k].toNat_lt
      generalize hs (s.data.toList.take k) = h at *
      go_wp2
      go_round
      case rel => exact ⟨k + 1, by omega, by go_num, by rw [HS.out]; go_num⟩
      case measure => simp [intOf]; omega
    · have e : s.data.toList.take k = bt s := List.take_of_length_le (by simp; omega)
      rw [e] at hd ⊢
      go_wp2
      go_ret
      exact ⟨rfl, rfl⟩
theorem hashWith_any (h b : Nat) (w : World) (hh : h < 4093) (hb : b < 256) :
    Calls Try.prog 50 #[.int .i64 (h : Int), .int .u8 (b : Int)] w fun e w' => e = .returned (.int .i64 ((31 * h + b) % 4093 : Nat)) ∧ w' = w := by
  go_enter Try.func50, Try.ntmps50
  go_wp2
  go_ret
  exact ⟨ret_int (by omega), rfl⟩
/-- What RollHash tells. -/
def rh (s : ByteArray) : Nat := if s.size = 4 then hs (bt s) else 0
theorem specRoll_any (s : ByteArray) (w : World) (hl : s.size ≤ 9223372036854775807) :
    Calls Try.prog 14 #[.string s] w fun e w' => e = .returned (.tuple #[.int .i64 (rh s : Nat), .bool (decide (s.size = 4))]) ∧ w' = w := by
  have c1 := fun W => l15Hash_any s W hl
  unfold rh
  by_cases h : s.size = 4
  · have hz : decide (s.size = 4) = true := by simp [h]
    have h2 : (s.size : Int) = 4 := by omega
    rw [if_pos h, hz]
    generalize ((hs (bt s) : Nat) : Int) = N at *
    go_enter Try.func14, Try.ntmps14
    go_wp2_with (go_at_call 49; refine (c1 _).mono ?_; rintro e w' ⟨rfl, rfl⟩)
    go_ret2
    exact ⟨rfl, rfl⟩
  · have hz : decide (s.size = 4) = false := by simp [h]
    have h2 : ¬ (s.size : Int) = 4 := by omega
    have h3 : ((s.size : Int) != 4) = true := by simp [h2]
    rw [if_neg h, hz]
    clear c1
    go_enter Try.func14, Try.ntmps14
    go_wp2
    go_ret2
    exact ⟨rfl, rfl⟩
set_option maxHeartbeats 400000 in
theorem implRoll_any (s : ByteArray) (w : World) (hl : s.size ≤ 9223372036854775807) :
    Calls Try.prog 15 #[.string s] w fun e w' => e = .returned (.tuple #[.int .i64 (rh s : Nat), .bool (decide (s.size = 4))]) ∧ w' = w := by
  unfold rh
  by_cases h : s.size = 4
  · have hz : decide (s.size = 4) = true := by simp [h]
    have h2 : (s.size : Int) = 4 := by omega
    rw [if_pos h, hz]
    go_enter Try.func15, Try.ntmps15
    go_wp2
    go_loop [4, 11] (fun n i => ∃ k : Nat, k ≤ s.size ∧ i = .int .i64 k ∧ n = .int .i64 (hs (s.data.toList.take k) : Nat)) (fun _ i => s.size - (intOf i).toNat)
    case atStart => exact ⟨0, Nat.zero_le _, rfl, rfl⟩
    case round =>
      obtain ⟨k, hk, rfl, rfl⟩ := hrel
      have hd := hs_lt (s.data.toList.take k)
      by_cases hlt : k < s.size
      · have HS : Hid (hs (s.data.toList.take (k + 1)) = (31 * hs (s.data.toList.take k) + s[k].toNat) % 4093) := by show _ = _; rw [take_snoc s k hlt, hs_snoc]
        have hb : s[k].toNat < 256 := s[k].toNat_lt
        have c := fun W => hashWith_any (hs (s.data.toList.take k)) s[k].toNat W hd hb
        rw [← HS.out] at c
        obtain ⟨h', hq⟩ : ∃ h', hs (s.data.toList.take (k + 1)) = h' := ⟨_, rfl⟩
        rw [hq] at c
        have HQ : Hid _ := hq
        clear hq HS
        generalize hs (s.data.toList.take k) = h at *
        have hlt4 : (k : Int) < 4 := by omega
        go_wp2_with (go_at_call 50; refine (c _).mono ?_; rintro e w' ⟨rfl, rfl⟩)
        go_round
        case rel => exact ⟨k + 1, by omega, by go_num, by rw [HQ.out]⟩
        case measure => simp [intOf]; omega
      · have e : s.data.toList.take k = bt s := List.take_of_length_le (by simp; omega)
        have hk4 : k = 4 := by omega
        subst hk4
        rw [e] at hd ⊢
        go_wp2
        go_ret2
        exact ⟨rfl, rfl⟩
  · have hz : decide (s.size = 4) = false := by simp [h]
    have h2 : ¬ (s.size : Int) = 4 := by omega
    rw [if_neg h, hz]
    go_enter Try.func15, Try.ntmps15
    go_wp2
    go_ret2
    exact ⟨rfl, rfl⟩
theorem lawRollHash (s : ByteArray) (w : World) (hl : s.size ≤ 9223372036854775807) :
    Calls Try.prog 3 #[.string s] w fun e w' => e = .returned (.bool true) ∧ Below w.heap.size w w' := by
  by_cases h : s.size ≤ 1048576
  · have hN : (((rh s : Nat) : Int) != ((rh s : Nat) : Int)) = false := by simp
    have hB : (decide (s.size = 4) != decide (s.size = 4)) = false := by cases decide (s.size = 4) <;> rfl
    have c1 := fun W => specRoll_any s W hl
    have c2 := fun W => implRoll_any s W hl
    have hle : ¬ (1048576 : Int) < (s.size : Int) := by omega
    generalize ((rh s : Nat) : Int) = N at *
    generalize decide (s.size = 4) = B at *
    go_enter Try.func3, Try.ntmps3
    go_wp2_with (first
      | (go_at_call 14; refine (c1 _).mono ?_; rintro e w' ⟨rfl, rfl⟩)
      | (go_at_call 15; refine (c2 _).mono ?_; rintro e w' ⟨rfl, rfl⟩))
    go_ret
    exact ⟨rfl, Below.refl _ _⟩
  · have h' : (1048576 : Int) < (s.size : Int) := by omega
    go_enter Try.func3, Try.ntmps3
    go_wp2
    go_ret
    exact ⟨rfl, Below.refl _ _⟩
end Go.Proofs.Ytnanemkmmokdfaa
