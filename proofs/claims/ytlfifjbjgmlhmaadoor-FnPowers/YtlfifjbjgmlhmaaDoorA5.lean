import Derived.Test.YtlfifjbjgmlhmaaDoorA4
namespace Go.Proofs.YtlfifjbjgmlhmaaDoor
open Go.ChangeShapes Go.WideShapes Go.ChangeAt Go.RowKit
set_option linter.unusedVariables false
open GF

set_option maxHeartbeats 400000 in
theorem specMul_any (a b : Nat) (w : World) (ha : a < 256) (hb : b < 256) :
    Calls Tryd.prog 8 #[.int .u8 (a : Int), .int .u8 (b : Int)] w fun e w' => e = .returned (.int .u8 (gm a b : Nat)) ∧ w' = w := by
  go_enter Tryd.func8, Tryd.ntmps8
  go_wp2_with (go_at_call 18; refine (l2Mul_any a b _ ha hb).mono ?_; rintro e w1 ⟨rfl, rfl⟩)
  go_ret
  exact ⟨rfl, rfl⟩
set_option maxHeartbeats 400000 in
theorem implInv_any (a : Nat) (w : World) (ha : a < 256) (ht : Tab w) :
    Calls Tryd.prog 9 #[.int .u8 (a : Int)] w fun e w' => e = .returned (.int .u8 (gi a : Nat)) ∧ w' = w := by
  go_enter Tryd.func9, Tryd.ntmps9
  go_wp2_with (go_at_call 19; refine (powerOf_any a 254 _ ha (by omega) ht).mono ?_; rintro e w1 ⟨rfl, rfl⟩)
  go_ret
  exact ⟨by rw [gi_gp]; rfl, rfl⟩
/-- A quotient and whether there is one. -/
def dvV (a b : Nat) : Value := .tuple #[.int .u8 ((if b = 0 then 0 else gm a (gi b) : Nat) : Int), .bool (decide (b ≠ 0))]
set_option maxHeartbeats 400000 in
theorem implDiv_any (a b : Nat) (w : World) (ha : a < 256) (hb : b < 256) (ht : Tab w) :
    Calls Tryd.prog 10 #[.int .u8 (a : Int), .int .u8 (b : Int)] w fun e w' => e = .returned (dvV a b) ∧ w' = w := by
  by_cases hz : b = 0
  · subst hz
    go_enter Tryd.func10, Tryd.ntmps10
    go_wp2
    refine bodyPost_ret (v := dvV a 0) (by simp [results, Tryd.results10, go_sem, dvV]) rfl ⟨rfl, rfl⟩
  · have hzi : ¬ (b : Int) = 0 := by omega
    have e0 : dvV a b = .tuple #[.int .u8 (gm a (gi b) : Nat), .bool true] := by simp [dvV, hz]
    go_enter Tryd.func10, Tryd.ntmps10
    go_wp2_with fail
    refine (implInv_any b _ hb ht).mono ?_
    rintro e w1 ⟨rfl, rfl⟩
    go_wp2_with fail
    refine (fieldMul_any a (gi b) _ ha (gi_lt b) ht).mono ?_
    rintro e w2 ⟨rfl, rfl⟩
    go_wp2
    refine bodyPost_ret (v := dvV a b) (by rw [e0]; simp [results, Tryd.results10, go_sem]) rfl ⟨rfl, rfl⟩
/-- A power and whether it is told. -/
def pwV (a : Nat) (n : Int) : Value := .tuple #[.int .u8 ((if 0 ≤ n ∧ n ≤ 10000 then gp a n.toNat else 0 : Nat) : Int), .bool (decide (0 ≤ n ∧ n ≤ 10000))]
theorem pwV_in (a k : Nat) (h : k ≤ 10000) : pwV a (k : Int) = .tuple #[.int .u8 (gp a k : Nat), .bool true] := by
  have : (0 : Int) ≤ (k : Int) ∧ (k : Int) ≤ 10000 := by omega
  unfold pwV; rw [if_pos this, decide_eq_true this, Int.toNat_natCast]
theorem pwV_out (a : Nat) (n : Int) (h : ¬ (0 ≤ n ∧ n ≤ 10000)) : pwV a n = .tuple #[.int .u8 0, .bool false] := by
  unfold pwV; rw [if_neg h, decide_eq_false h]; rfl
set_option maxHeartbeats 400000 in
theorem implPow_any (a : Nat) (n : Int) (w : World) (ha : a < 256) (ht : Tab w) :
    Calls Tryd.prog 12 #[.int .u8 (a : Int), .int .i64 n] w fun e w' => e = .returned (pwV a n) ∧ w' = w := by
  by_cases h1 : n < 0
  · go_enter Tryd.func12, Tryd.ntmps12
    go_wp2
    refine bodyPost_ret (v := pwV a n) (by rw [pwV_out a n (by omega)]; simp [results, Tryd.results12, go_sem]) rfl ⟨rfl, rfl⟩
  by_cases h2 : n > 10000
  · go_enter Tryd.func12, Tryd.ntmps12
    go_wp2
    refine bodyPost_ret (v := pwV a n) (by rw [pwV_out a n (by omega)]; simp [results, Tryd.results12, go_sem]) rfl ⟨rfl, rfl⟩
  obtain ⟨k, rfl⟩ : ∃ k : Nat, n = (k : Int) := ⟨n.toNat, by omega⟩
  have h3 : ¬ (10000 < (k : Int)) := by omega
  go_enter Tryd.func12, Tryd.ntmps12
  go_wp2_with fail
  refine (powerOf_any a k _ ha (by omega) ht).mono ?_
  rintro e w1 ⟨rfl, rfl⟩
  go_wp2
  refine bodyPost_ret (v := pwV a k) (by rw [pwV_in a k (by omega)]; simp [results, Tryd.results12, go_sem]) rfl ⟨rfl, rfl⟩
set_option maxHeartbeats 400000 in
theorem l1In_t (n lo hi : Int) (w : World) (h1 : lo ≤ n) (h2 : n ≤ hi) :
    Calls Tryd.prog 21 #[.int .i64 n, .int .i64 lo, .int .i64 hi] w fun e w' => e = .returned (.bool true) ∧ w' = w := by
  go_enter Tryd.func21, Tryd.ntmps21
  go_wp2
  go_ret
  exact ⟨rfl, rfl⟩
set_option maxHeartbeats 400000 in
theorem l1In_f (n lo hi : Int) (w : World) (h : ¬ (lo ≤ n ∧ n ≤ hi)) :
    Calls Tryd.prog 21 #[.int .i64 n, .int .i64 lo, .int .i64 hi] w fun e w' => e = .returned (.bool false) ∧ w' = w := by
  by_cases h1 : lo ≤ n
  · have h2 : ¬ n ≤ hi := fun h2 => h ⟨h1, h2⟩
    clear h
    go_enter Tryd.func21, Tryd.ntmps21
    go_wp2
    go_ret
    exact ⟨rfl, rfl⟩
  · clear h
    go_enter Tryd.func21, Tryd.ntmps21
    go_wp2
    go_ret
    exact ⟨rfl, rfl⟩
set_option maxHeartbeats 400000 in
theorem specPow_any (a : Nat) (n : Int) (w : World) (ha : a < 256) :
    Calls Tryd.prog 13 #[.int .u8 (a : Int), .int .i64 n] w fun e w' => e = .returned (pwV a n) ∧ w' = w := by
  by_cases h1 : 0 ≤ n ∧ n ≤ 10000
  · obtain ⟨k, rfl⟩ : ∃ k : Nat, n = (k : Int) := ⟨n.toNat, by omega⟩
    go_enter Tryd.func13, Tryd.ntmps13
    go_wp2_with fail
    refine (l1In_t k 0 10000 _ h1.1 h1.2).mono ?_
    rintro e w1 ⟨rfl, rfl⟩
    go_wp2_with fail
    refine (l2Pow_any a k _ ha (by omega)).mono ?_
    rintro e w2 ⟨rfl, rfl⟩
    go_wp2
    refine bodyPost_ret (v := pwV a k) (by rw [pwV_in a k (by omega)]; simp [results, Tryd.results13, go_sem]) rfl ⟨rfl, rfl⟩
  · go_enter Tryd.func13, Tryd.ntmps13
    go_wp2_with fail
    refine (l1In_f n 0 10000 _ h1).mono ?_
    rintro e w1 ⟨rfl, rfl⟩
    go_wp2
    refine bodyPost_ret (v := pwV a n) (by rw [pwV_out a n h1]; simp [results, Tryd.results13, go_sem]) rfl ⟨rfl, rfl⟩

end Go.Proofs.YtlfifjbjgmlhmaaDoor
