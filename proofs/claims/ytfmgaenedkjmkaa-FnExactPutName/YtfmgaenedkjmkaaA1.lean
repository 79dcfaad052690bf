import Derived.Test.YtfmgaenedkjmkaaB1
/- Hashes of names, on both sides; masks. -/
namespace Go.Proofs.Ytfmgaenedkjmkaa
open Go.ChangeShapes Go.WideShapes Go.ChangeAt Go.RowKit
set_option linter.unusedVariables false
open Hd

attribute [local go_sem] Oper.semAt_some

theorem wrap_i64 {n : Nat} (h : n < 9223372036854775808) : IntKind.i64.wrap (n : Int) = (n : Int) := wrapI (by omega) (by omega)
theorem bits_i64_xor {a b : Nat} (ha : a < 9223372036854775808) (hb : b < 9223372036854775808) : bits .xor .i64 (a : Int) (b : Int) = ((a ^^^ b : Nat) : Int) := by
  have hx : a ^^^ b < 2 ^ 63 := Nat.xor_lt_two_pow ha hb
  show IntKind.i64.wrap ((BitVec.ofInt 64 (a : Int) ^^^ BitVec.ofInt 64 (b : Int)).toNat : Int) = _
  have e1 : (BitVec.ofInt 64 (a : Int)).toNat = a := by simp; omega
  have e2 : (BitVec.ofInt 64 (b : Int)).toNat = b := by simp; omega
  rw [BitVec.toNat_xor, e1, e2]
  exact wrap_i64 hx
theorem bits_i64_or {a b : Nat} (ha : a < 9223372036854775808) (hb : b < 9223372036854775808) : bits .or .i64 (a : Int) (b : Int) = ((a ||| b : Nat) : Int) := by
  have hx : a ||| b < 2 ^ 63 := Nat.or_lt_two_pow ha hb
  show IntKind.i64.wrap ((BitVec.ofInt 64 (a : Int) ||| BitVec.ofInt 64 (b : Int)).toNat : Int) = _
  have e1 : (BitVec.ofInt 64 (a : Int)).toNat = a := by simp; omega
  have e2 : (BitVec.ofInt 64 (b : Int)).toNat = b := by simp; omega
  rw [BitVec.toNat_or, e1, e2]
  exact wrap_i64 hx
theorem bits_i64_and {a b : Nat} (ha : a < 9223372036854775808) (hb : b < 9223372036854775808) : bits .and .i64 (a : Int) (b : Int) = ((a &&& b : Nat) : Int) := by
  have hx : a &&& b < 2 ^ 63 := Nat.and_lt_two_pow a hb
  show IntKind.i64.wrap ((BitVec.ofInt 64 (a : Int) &&& BitVec.ofInt 64 (b : Int)).toNat : Int) = _
  have e1 : (BitVec.ofInt 64 (a : Int)).toNat = a := by simp; omega
  have e2 : (BitVec.ofInt 64 (b : Int)).toNat = b := by simp; omega
  rw [BitVec.toNat_and, e1, e2]
  exact wrap_i64 hx
theorem take_snoc (s : ByteArray) (k : Nat) (h : k < s.size) : s.data.toList.take (k + 1) = s.data.toList.take k ++ [s[k]] := by
  rw [List.take_succ_eq_append_getElem (by simpa using h)]; rfl
theorem ret_int {k : IntKind} {a b : Int} (h : a = b) : Ending.returned (.int k a) = .returned (.int k b) := by rw [h]
theorem nh_eq (s : ByteArray) : bits .xor .i64 ((hsh (bt s) : Nat) : Int) (((hsh (bt s) : Nat) : Int) / 32) = (nh s : Int) := by
  have h := hsh_lt (bt s)
  rw [show (((hsh (bt s) : Nat) : Int) / 32) = ((hsh (bt s) / 32 : Nat) : Int) by simp, bits_i64_xor (by omega) (by omega)]
  rfl

set_option maxHeartbeats 400000 in
theorem specHash_any (s : ByteArray) (w : World) (hs : s.size ≤ 9223372036854775807) :
    Calls Try.prog 58 #[.string s] w fun e w' => e = .returned (.int .i64 (nh s : Int)) ∧ w' = w := by
  have HN : Hid _ := nh_eq s
  go_enter Try.func58, Try.ntmps58
  go_wp2
  go_loop [3, 4] (fun n i => ∃ k : Nat, k ≤ s.size ∧ i = .int .i64 k ∧ n = .int .i64 (hsh (s.data.toList.take k) : Nat)) (fun _ i => s.size - (intOf i).toNat)
  case atStart => exact ⟨0, Nat.zero_le _, rfl, rfl⟩
  case round =>
    obtain ⟨k, hk, rfl, rfl⟩ := hrel
    have hd := hsh_lt (s.data.toList.take k)
    by_cases hlt : k < s.size
    · have HS : Hid (hsh (s.data.toList.take (k + 1)) = (31 * hsh (s.data.toList.take k) + s[k].toNat) % 65536) := by show _ = _; rw [take_snoc s k hlt, hsh_snoc]
      have hb : s[k].toNat < 256 := s[k].toNat_lt
      generalize hsh (s.data.toList.take k) = h at *
      go_wp2
      go_round
      case rel => exact ⟨k + 1, by omega, by go_num, by rw [HS.out]; go_num⟩
      case measure => simp [intOf]; omega
    · have e : s.data.toList.take k = bt s := List.take_of_length_le (by simp; omega)
      rw [e] at hd ⊢
      go_wp2
      go_ret
      exact ⟨ret_int (by first | exact HN.out | simpa using HN.out), rfl⟩
set_option maxHeartbeats 400000 in
theorem implHash_any (s : ByteArray) (w : World) (hs : s.size ≤ 9223372036854775807) :
    Calls Try.prog 69 #[.string s] w fun e w' => e = .returned (.int .i64 (nh s : Int)) ∧ w' = w := by
  have HN : Hid _ := nh_eq s
  go_enter Try.func69, Try.ntmps69
  go_wp2
  go_loop [3, 7] (fun n i => ∃ k : Nat, k ≤ s.size ∧ i = .int .i64 k ∧ n = .int .i64 (hsh (s.data.toList.take k) : Nat)) (fun _ i => s.size - (intOf i).toNat)
  case atStart => exact ⟨0, Nat.zero_le _, rfl, rfl⟩
  case round =>
    obtain ⟨k, hk, rfl, rfl⟩ := hrel
    have hd := hsh_lt (s.data.toList.take k)
    by_cases hlt : k < s.size
    · have HS : Hid (hsh (s.data.toList.take (k + 1)) = (31 * hsh (s.data.toList.take k) + s[k].toNat) % 65536) := by show _ = _; rw [take_snoc s k hlt, hsh_snoc]
      have hb : s[k].toNat < 256 := s[k].toNat_lt
      generalize hsh (s.data.toList.take k) = h at *
      go_wp2
      go_round
      case rel => exact ⟨k + 1, by omega, by go_num, by rw [HS.out]; go_num⟩
      case measure => simp [intOf]; omega
    · have e : s.data.toList.take k = bt s := List.take_of_length_le (by simp; omega)
      rw [e] at hd ⊢
      go_wp2
      go_ret
      exact ⟨ret_int (by first | exact HN.out | simpa using HN.out), rfl⟩
end Go.Proofs.Ytfmgaenedkjmkaa
