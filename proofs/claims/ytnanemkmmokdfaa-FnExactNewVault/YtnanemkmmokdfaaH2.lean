import Derived.Test.YtnanemkmmokdfaaH1
/- Both sides: a hash that rolls on. -/
namespace Go.Proofs.Ytnanemkmmokdfaa
open Go.ChangeShapes Go.WideShapes Go.ChangeAt Go.RowKit
set_option linter.unusedVariables false
open Hd

attribute [local go_sem] Oper.semAt_some

/-- A hash rolled on by a byte. -/
def ro (h o i : Nat) : Nat := ((31 * h + i) % 4093 + 4093 - o * 923521 % 4093) % 4093
theorem ro_lt (h o i : Nat) : ro h o i < 4093 := Nat.mod_lt _ (by omega)
theorem tmod_pos {n : Int} (h : 0 ≤ n) : n.tmod 4093 = n % 4093 := Int.tmod_eq_emod_of_nonneg h
theorem tmod_neg {n : Int} (h : n < 0) : n.tmod 4093 = -((-n) % 4093) := by
  have e : n = -(-n) := by omega
  rw [e, Int.neg_tmod, tmod_pos (by omega)]
  simp
theorem implOn_yes (h o i : Nat) (w : World) (hh : h < 4093) (ho : o < 256) (hi : i < 256) :
    Calls Try.prog 17 #[.int .i64 (h : Int), .int .u8 (o : Int), .int .u8 (i : Int)] w fun e w' => e = .returned (.tuple #[.int .i64 (ro h o i : Nat), .bool true]) ∧ w' = w := by
  have c := fun W => hashWith_any h i W hh hi
  have e : ro h o i = ((31 * h + i) % 4093 + 4093 - o * 923521 % 4093) % 4093 := rfl
  have hH : (31 * h + i) % 4093 < 4093 := Nat.mod_lt _ (by omega)
  have E : Hid _ := e
  clear e
  obtain ⟨x, hx⟩ : ∃ x, (31 * h + i) % 4093 = x := ⟨_, rfl⟩
  rw [hx] at c hH
  have HX : Hid _ := hx
  clear hx
  go_enter Try.func17, Try.ntmps17
  go_wp2_with (go_at_call 50; refine (c _).mono ?_; rintro e w' ⟨rfl, rfl⟩)
  go_ret2
  refine ⟨?_, rfl⟩
  rw [E.out, HX.out, show (((x + 4093 - o * 923521 % 4093) % 4093 : Nat) : Int) = ((x : Int) + 4093 - (o : Int) * 923521 % 4093) % 4093 by omega]
  rfl
theorem specOn_yes (h o i : Nat) (w : World) (hh : h < 4093) (ho : o < 256) (hi : i < 256) :
    Calls Try.prog 16 #[.int .i64 (h : Int), .int .u8 (o : Int), .int .u8 (i : Int)] w fun e w' => e = .returned (.tuple #[.int .i64 (ro h o i : Nat), .bool true]) ∧ w' = w := by
  have cI := fun W => l1In_any (h : Int) 0 4092 W
  have hb : (decide ((0 : Int) ≤ (h : Int)) && decide ((h : Int) ≤ 4092)) = true := by simp; omega
  rw [hb] at cI
  have E : Hid (ro h o i = ((31 * h + i) % 4093 + 4093 - o * 923521 % 4093) % 4093) := rfl
  clear hb
  by_cases hn : 0 ≤ 31 * (h : Int) + i - 2596 * o
  · have ht := tmod_pos hn
    have hr0 : 0 ≤ (31 * (h : Int) + i - 2596 * o) % 4093 := by omega
    have hr1 : (31 * (h : Int) + i - 2596 * o) % 4093 < 4093 := by omega
    have hE : (31 * (h : Int) + i - 2596 * o) % 4093 = (ro h o i : Nat) := by rw [E.out]; omega
    have HE : Hid _ := hE
    clear hE
    go_enter Try.func16, Try.ntmps16
    go_wp2_with (go_at_call 51; refine (cI _).mono ?_; rintro e w' ⟨rfl, rfl⟩)
    go_ret2
    refine ⟨?_, rfl⟩
    rw [← HE.out]; rfl
  · have ht := tmod_neg (show 31 * (h : Int) + i - 2596 * o < 0 by omega)
    obtain ⟨r, hr⟩ : ∃ r : Int, (31 * (h : Int) + i - 2596 * o).tmod 4093 = r := ⟨_, rfl⟩
    rw [hr] at ht
    have hr0 : r ≤ 0 := by omega
    have hr1 : -4093 < r := by omega
    by_cases hz : r < 0
    · have hE : r + 4093 = (ro h o i : Nat) := by rw [E.out]; omega
      have HE : Hid _ := hE
      clear hE ht
      go_enter Try.func16, Try.ntmps16
      go_wp2_with (go_at_call 51; refine (cI _).mono ?_; rintro e w' ⟨rfl, rfl⟩)
      go_ret2
      refine ⟨?_, rfl⟩
      rw [← HE.out]; rfl
    · have hE : r = (ro h o i : Nat) := by rw [E.out]; omega
      have HE : Hid _ := hE
      clear hE ht
      go_enter Try.func16, Try.ntmps16
      go_wp2_with (go_at_call 51; refine (cI _).mono ?_; rintro e w' ⟨rfl, rfl⟩)
      go_ret2
      refine ⟨?_, rfl⟩
      rw [← HE.out]; rfl
theorem implOn_no (h : Int) (o i : Nat) (w : World) (hh : ¬ (0 ≤ h ∧ h < 4093)) :
    Calls Try.prog 17 #[.int .i64 h, .int .u8 (o : Int), .int .u8 (i : Int)] w fun e w' => e = .returned (.tuple #[.int .i64 0, .bool false]) ∧ w' = w := by
  by_cases h0 : h < 0
  · clear hh
    go_enter Try.func17, Try.ntmps17
    go_wp2
    go_ret2
    exact ⟨rfl, rfl⟩
  · have h1 : 4093 ≤ h := by omega
    have h2 : 0 ≤ h := by omega
    clear hh
    go_enter Try.func17, Try.ntmps17
    go_wp2
    go_ret2
    exact ⟨rfl, rfl⟩
theorem specOn_no (h : Int) (o i : Nat) (w : World) (hh : ¬ (0 ≤ h ∧ h < 4093)) :
    Calls Try.prog 16 #[.int .i64 h, .int .u8 (o : Int), .int .u8 (i : Int)] w fun e w' => e = .returned (.tuple #[.int .i64 0, .bool false]) ∧ w' = w := by
  have cI := fun W => l1In_any h 0 4092 W
  have hb : (decide ((0 : Int) ≤ h) && decide (h ≤ 4092)) = false := by simp; omega
  rw [hb] at cI
  clear hb
  go_enter Try.func16, Try.ntmps16
  go_wp2_with (go_at_call 51; refine (cI _).mono ?_; rintro e w' ⟨rfl, rfl⟩)
  go_ret2
  exact ⟨rfl, rfl⟩
theorem lawRollOn (h : Int) (o i : Nat) (w : World) (ho : o < 256) (hi : i < 256) :
    Calls Try.prog 4 #[.int .i64 h, .int .u8 (o : Int), .int .u8 (i : Int)] w fun e w' => e = .returned (.bool true) ∧ Below w.heap.size w w' := by
  have key : ∃ (N : Int) (B : Bool), (∀ W, Calls Try.prog 16 #[.int .i64 h, .int .u8 (o : Int), .int .u8 (i : Int)] W fun e w' => e = .returned (.tuple #[.int .i64 N, .bool B]) ∧ w' = W) ∧
      ∀ W, Calls Try.prog 17 #[.int .i64 h, .int .u8 (o : Int), .int .u8 (i : Int)] W fun e w' => e = .returned (.tuple #[.int .i64 N, .bool B]) ∧ w' = W := by
    by_cases hh : 0 ≤ h ∧ h < 4093
    · obtain ⟨n, rfl⟩ : ∃ n : Nat, h = n := ⟨h.toNat, by omega⟩
      exact ⟨_, true, fun W => specOn_yes n o i W (by omega) ho hi, fun W => implOn_yes n o i W (by omega) ho hi⟩
    · exact ⟨0, false, fun W => specOn_no h o i W hh, fun W => implOn_no h o i W hh⟩
  obtain ⟨N, B, c1, c2⟩ := key
  have hN : (N != N) = false := by simp
  have hB : (B != B) = false := by cases B <;> rfl
  go_enter Try.func4, Try.ntmps4
  go_wp2_with (first
    | (go_at_call 16; refine (c1 _).mono ?_; rintro e w' ⟨rfl, rfl⟩)
    | (go_at_call 17; refine (c2 _).mono ?_; rintro e w' ⟨rfl, rfl⟩))
  go_ret
  exact ⟨rfl, Below.refl _ _⟩
end Go.Proofs.Ytnanemkmmokdfaa
