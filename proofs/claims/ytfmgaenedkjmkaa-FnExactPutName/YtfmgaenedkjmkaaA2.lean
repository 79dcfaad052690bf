import Derived.Test.YtfmgaenedkjmkaaA1
import Derived.Lib.Bytealg
import Derived.Sort.Walk0
/- Masks, names that are as said, names compared. -/
namespace Go.Proofs.Ytfmgaenedkjmkaa
open Go.ChangeShapes Go.WideShapes Go.ChangeAt Go.RowKit
set_option linter.unusedVariables false
open Hd

attribute [local go_sem] Oper.semAt_some

theorem pow_le {d : Nat} (hd : d ≤ 62) : 2 ^ d ≤ 4611686018427387904 := Nat.pow_le_pow_right (n := 2) (by omega) hd
theorem wrap64_of {z : Int} (h : -9223372036854775808 ≤ z) (h' : z ≤ 9223372036854775807) : wrap64 z = z := by unfold wrap64; omega
theorem pow_wrap {d : Nat} (hd : d ≤ 62) : wrap64 ((2 : Int) ^ d) = ((2 ^ d : Nat) : Int) := by
  have h := pow_le hd
  rw [show ((2 : Int) ^ d) = ((2 ^ d : Nat) : Int) by simp]
  generalize 2 ^ d = p at *
  exact wrap64_of (by omega) (by omega)
theorem mask_eq {n d : Nat} (hn : n < 9223372036854775808) (hd : d ≤ 62) : bits .and .i64 (n : Int) (wrap64 (wrap64 ((2 : Int) ^ d) - 1)) = ((low n d : Nat) : Int) := by
  have h := pow_le hd
  have h0 := Nat.two_pow_pos d
  rw [pow_wrap hd, wrap64_of (by omega) (by omega), show (((2 ^ d : Nat) : Int) - 1) = ((2 ^ d - 1 : Nat) : Int) by omega, bits_i64_and hn (by omega), Nat.and_two_pow_sub_one_eq_mod]
theorem l8Low_any (n d : Nat) (w : World) (hn : n < 9223372036854775808) (hd : d ≤ 62) :
    Calls Try.prog 57 #[.int .i64 (n : Int), .int .i64 (d : Int)] w fun e w' => e = .returned (.int .i64 (low n d : Nat)) ∧ w' = w := by
  go_enter Try.func57, Try.ntmps57
  go_wp2
  go_ret
  exact ⟨ret_int (mask_eq hn hd), rfl⟩
theorem lowestBits_any (n d : Nat) (w : World) (hn : n < 9223372036854775808) (hd : d ≤ 62) :
    Calls Try.prog 68 #[.int .i64 (n : Int), .int .i64 (d : Int)] w fun e w' => e = .returned (.int .i64 (low n d : Nat)) ∧ w' = w := by
  go_enter Try.func68, Try.ntmps68
  go_wp2
  go_ret
  exact ⟨ret_int (mask_eq hn hd), rfl⟩

theorem all_take {s : ByteArray} {k : Nat} (h : k < s.size) : ((bt s).take (k + 1)).all okB = (((bt s).take k).all okB && okB s[k]) := by
  rw [take_snoc s k h, List.all_append]; simp
theorem isN_bad {s : ByteArray} {k : Nat} (h : k < s.size) (hb : okB s[k] = false) : isN s = false := by
  have : (bt s).all okB = false := by
    rw [List.all_eq_false]
    exact ⟨s[k], by have : s[k] = (bt s)[k]'(by simpa using h) := rfl
                    rw [this]; exact List.getElem_mem _, by simp [hb]⟩
  simp [isN, this]
theorem ret_bool {a b : Bool} (h : a = b) : Ending.returned (.bool a) = .returned (.bool b) := by rw [h]
set_option maxHeartbeats 1000000 in
theorem l8Name_any (s : ByteArray) (w : World) (hs : s.size ≤ 9223372036854775807) :
    Calls Try.prog 29 #[.string s] w fun e w' => e = .returned (.bool (isN s)) ∧ w' = w := by
  go_enter Try.func29, Try.ntmps29
  go_wp2
  go_loop [3] (fun i => ∃ k : Nat, k ≤ s.size ∧ i = .int .i64 k ∧ ((bt s).take k).all okB = true) (fun i => s.size - (intOf i).toNat)
  case atStart => exact ⟨0, Nat.zero_le _, rfl, rfl⟩
  case round =>
    obtain ⟨k, hk, rfl, ha⟩ := hrel
    have HA : Hid _ := ha
    clear ha
    by_cases hlt : k < s.size
    · have h1 := all_take hlt
      have h2 := fun h => isN_bad hlt h
      have HO : Hid (okB s[k] = ((decide (97 ≤ s[k].toNat) && decide (s[k].toNat ≤ 122)) || (decide (48 ≤ s[k].toNat) && decide (s[k].toNat ≤ 57)) || decide (s[k].toNat = 46) || decide (s[k].toNat = 45))) := rfl
      have HT : Hid _ := h1
      have HF : Hid _ := h2
      clear h1 h2
      generalize okB s[k] = o at *
      have hb : s[k].toNat < 256 := s[k].toNat_lt
      obtain ⟨c, hc⟩ : ∃ c, s[k].toNat = c := ⟨_, rfl⟩
      have HO' := HO.out
      rw [hc] at HO' hb
      have HO2 : Hid _ := HO'
      clear HO HO'
      have cs : (97 ≤ c ∧ c ≤ 122) ∨ (48 ≤ c ∧ c ≤ 57) ∨ c = 46 ∨ c = 45 ∨ 122 < c ∨ (57 < c ∧ c < 97) ∨ (c < 48 ∧ c ≠ 46 ∧ c ≠ 45) := by omega
      have e46 : ((c : Int) == 46) = decide (c = 46) := by rw [Bool.eq_iff_iff]; simp; omega
      have e45 : ((c : Int) == 45) = decide (c = 45) := by rw [Bool.eq_iff_iff]; simp; omega
      rcases cs with h | h | h | h | h | h | h
      case inl | inr.inl | inr.inr.inl | inr.inr.inr.inl =>
        have ho : o = true := by rw [HO2.out]; simp; omega
        have f46 : decide (c = 46) = false ∨ c = 46 := by simp; omega
        have f45 : decide (c = 45) = false ∨ c = 45 := by simp; omega
        clear HO2 HF
        have HO3 : Hid _ := ho
        clear ho
        rcases f46 with f | f <;> rcases f45 with g | g
        all_goals first
          | (exfalso; omega)
          | (go_wp2
             all_goals
               go_round
               case rel => exact ⟨k + 1, by omega, by go_num, by rw [HT.out, HA.out, HO3.out]; rfl⟩
               case measure => simp [intOf]; omega)
      all_goals
        have ho : o = false := by rw [HO2.out]; simp; omega
        have f46 : decide (c = 46) = false := by simp; omega
        have f45 : decide (c = 45) = false := by simp; omega
        have HR : Hid _ := HF.out ho
        clear HO2 HT ho
        go_wp2
        all_goals first
          | (go_ret
             exact ⟨ret_bool HR.out.symm, rfl⟩)
          | (exfalso
             rename_i hh
             simp at hh
             omega)
    · have e : (bt s).take k = bt s := List.take_of_length_le (by simp; omega)
      have HA' := HA.out
      rw [e] at HA'
      have hN : isN s = (decide (1 ≤ (s.size : Int)) && decide ((s.size : Int) ≤ 12)) := by
        unfold isN
        rw [HA', Bool.true_and]
        congr 1 <;> (rw [decide_eq_decide]; omega)
      have HN : Hid _ := hN
      clear hN HA HA' e
      go_wp2_with (go_at_call 30; refine (l1In_any _ _ _ _).mono ?_; rintro e w' ⟨rfl, rfl⟩)
      go_ret
      exact ⟨ret_bool HN.out.symm, rfl⟩
set_option maxRecDepth 100000 in
theorem compareString_any (a b : ByteArray) (w : World) : Calls Try.prog 97 #[.string a, .string b] w fun e w' => e = .returned (.int .i64 (Lib.compareBytes (bt a) (bt b))) ∧ w' = w := by
  go_enter Try.func97, Try.ntmps97
  go_wp2
  rw [run_callFunc_extern Try.func99 (by kernel_rfl) (by kernel_rfl) (by kernel_rfl) (e := Extern.BytealgCompare.compare) (by kernel_rfl), Lib.run_compareString]
  simp only [Result.andThen]
  rw [Oper.upon_value]
  go_wp2
  go_ret
  exact ⟨rfl, rfl⟩
theorem compare_any (a b : ByteArray) (w : World) : Calls Try.prog 91 #[.string a, .string b] w fun e w' => e = .returned (.int .i64 (Lib.compareBytes (bt a) (bt b))) ∧ w' = w := by
  have c := fun W => compareString_any a b W
  generalize Lib.compareBytes (bt a) (bt b) = r at *
  go_enter Try.func91, Try.ntmps91
  go_wp2_with (go_at_call 97; refine (c _).mono ?_; rintro e w' ⟨rfl, rfl⟩)
  go_ret
  exact ⟨rfl, rfl⟩
theorem compareNames_any (a b : ByteArray) (f g : Int) (w : World) : Calls Try.prog 83 #[.agg #[.string a, .int .i64 f], .agg #[.string b, .int .i64 g]] w fun e w' => e = .returned (.int .i64 (Lib.compareBytes (bt a) (bt b))) ∧ w' = (w.alloc (.cells #[.string a, .int .i64 f] 36)).alloc (.cells #[.string b, .int .i64 g] 36) := by
  have c := fun W => compare_any a b W
  generalize Lib.compareBytes (bt a) (bt b) = r at *
  go_enter Try.func83, Try.ntmps83
  go_wp2_with (go_at_call 91; refine (c _).mono ?_; rintro e w' ⟨rfl, rfl⟩)
  go_ret
  exact ⟨rfl, rfl⟩
set_option maxRecDepth 100000 in
theorem indexByte1_any (s : ByteArray) (c : Int) (w : World) : Calls Try.prog 90 #[.string s, .int .u8 c] w fun e w' => e = .returned (.int .i64 (Lib.indexByte (bt s) c.toNat.toUInt8)) ∧ w' = w := by
  go_enter Try.func90, Try.ntmps90
  go_wp2
  rw [run_callFunc_extern Try.func96 (by kernel_rfl) (by kernel_rfl) (by kernel_rfl) (e := Extern.BytealgIndexByte.indexByte) (by kernel_rfl), Lib.run_indexByteString]
  simp only [Result.andThen]
  rw [Oper.upon_value]
  go_wp2
  go_ret
  exact ⟨rfl, rfl⟩
theorem indexByte_any (s : ByteArray) (c : Int) (w : World) : Calls Try.prog 81 #[.string s, .int .u8 c] w fun e w' => e = .returned (.int .i64 (Lib.indexByte (bt s) c.toNat.toUInt8)) ∧ w' = w := by
  have k := fun W => indexByte1_any s c W
  generalize Lib.indexByte (bt s) c.toNat.toUInt8 = r at *
  go_enter Try.func81, Try.ntmps81
  go_wp2_with (go_at_call 90; refine (k _).mono ?_; rintro e w' ⟨rfl, rfl⟩)
  go_ret
  exact ⟨rfl, rfl⟩
/-- The bytes that a name may have, in a row. -/
def nbl : ByteArray := ⟨#[97, 98, 99, 100, 101, 102, 103, 104, 105, 106, 107, 108, 109, 110, 111, 112, 113, 114, 115, 116, 117, 118, 119, 120, 121, 122, 48, 49, 50, 51, 52, 53, 54, 55, 56, 57, 46, 45]⟩
theorem okB_all : ∀ n, n < 256 → decide (Lib.indexByte (bt nbl) n.toUInt8 < 0) = !okB n.toUInt8 := by decide +kernel
theorem okB_is (b : UInt8) : decide (Lib.indexByte (bt nbl) (Int.toNat (b.toNat : Int)).toUInt8 < 0) = !okB b := by
  have := okB_all b.toNat b.toNat_lt
  simpa using this
end Go.Proofs.Ytfmgaenedkjmkaa
