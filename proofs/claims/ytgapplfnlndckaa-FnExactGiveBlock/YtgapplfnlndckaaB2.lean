import Derived.Test.YtgapplfnlndckaaB1
/- Blocks: how long, whether one, its buddy. -/
namespace Go.Proofs.Ytgapplfnlndckaa
open Go.ChangeShapes Go.WideShapes Go.ChangeAt Go.RowKit
set_option linter.unusedVariables false
open Room

attribute [local go_sem] Oper.semAt_some

theorem below_drewN {a b : World} (h : Below a.heap.size a b) (n : Nat) : Below a.heap.size a (b.drewN n) := ⟨h.os, h.tape, h.output, h.size, h.block⟩
theorem pw_le {k : Nat} (h : k ≤ 8) : pw (k : Int) ≤ 256 := by
  have : 2 ^ k ≤ 2 ^ 8 := Nat.pow_le_pow_right (by omega) h
  simp only [pw, Int.toNat_natCast]
  omega
theorem shl_one {k : Nat} (h : k ≤ 8) : IntKind.i64.wrap ((2 : Int) ^ k) = pw (k : Int) := by
  have e : ((2 : Int) ^ k) = pw (k : Int) := by simp [pw]
  have := pw_le h
  have := pw_pos (k : Int)
  rw [e, wrapI (by omega) (by omega)]
theorem xor_i64 (a b : Nat) (ha : a ≤ 1073742000) (hb : b ≤ 1073742000) : bits .xor .i64 (a : Int) (b : Int) = ((a ^^^ b : Nat) : Int) := by
  have hx : a ^^^ b < 2 ^ 31 := Nat.xor_lt_two_pow (by omega) (by omega)
  have h1 : (BitVec.ofInt 64 (a : Int)).toNat = a := by
    rw [BitVec.ofInt_natCast, BitVec.toNat_ofNat]; exact Nat.mod_eq_of_lt (by omega)
  have h2 : (BitVec.ofInt 64 (b : Int)).toNat = b := by
    rw [BitVec.ofInt_natCast, BitVec.toNat_ofNat]; exact Nat.mod_eq_of_lt (by omega)
  show IntKind.i64.wrap ((BitVec.ofInt 64 (a : Int) ^^^ BitVec.ofInt 64 (b : Int)).toNat : Int) = _
  rw [BitVec.toNat_xor, h1, h2, wrapI (by omega) (by omega)]
theorem xor_bud {p : Nat} {k : Nat} (hp : p ≤ 1073741824) (hk : k ≤ 8) : bits .xor .i64 (p : Int) (pw (k : Int)) = xr p (pw (k : Int)) := by
  obtain ⟨z, hz⟩ : ∃ z : Nat, pw (k : Int) = z := ⟨(pw k).toNat, by have := pw_pos (k : Int); omega⟩
  have := pw_le hk
  rw [hz, xor_i64 p z (by omega) (by omega)]
  simp [xr]
theorem lengthOf_any (p : Int) (k : Nat) (hk : k ≤ 8) (w : World) : Calls Try.prog 46 #[.agg #[.int .i64 p, .int .i64 (k : Int)]] w fun e w' => e = .returned (.int .i64 (pw (k : Int))) ∧ Below w.heap.size w w' := by
  have hsh := shl_one (k := k) (by omega)
  go_enter Try.func46, Try.ntmps46
  go_wp2
  go_ret
  exact ⟨rfl, below_alloc _ _⟩
theorem l6Buddy_any (p k : Nat) (hp : p ≤ 1073741824) (hk : k ≤ 8) (w : World) : Calls Try.prog 38 #[.agg #[.int .i64 (p : Int), .int .i64 (k : Int)]] w fun e w' => e = .returned (xv (bud ((p : Int), (k : Int)))) ∧ Below w.heap.size w w' := by
  have hsh := shl_one (k := k) (by omega)
  have hxr := xor_bud hp hk
  go_enter Try.func38, Try.ntmps38
  go_wp2
  exact bodyPost_ret (v := xv (bud ((p : Int), (k : Int)))) (by simp [results, Try.results38, go_sem, bud, ln]) rfl ⟨rfl, ba2 _ _ _⟩
theorem l6Block_any (x : Ex) (w : World) : Calls Try.prog 51 #[xv x] w fun e w' => e = .returned (.bool (isB x)) ∧ Below w.heap.size w w' := by
  obtain ⟨p, q⟩ := x
  unfold isB ln
  simp only
  by_cases h1 : 0 ≤ q ∧ q ≤ 8
  · obtain ⟨k, rfl⟩ : ∃ k : Nat, q = k := ⟨q.toNat, by omega⟩
    have hk : k ≤ 8 := by omega
    have hsh := shl_one (k := k) (by omega)
    have hp := pw_pos (k : Int)
    have e1 : (decide (0 ≤ (k : Int)) && decide ((k : Int) ≤ 8)) = true := by simp; omega
    by_cases h2 : 0 ≤ p ∧ p ≤ 1073741824
    · have e2 : (decide (0 ≤ p) && decide (p ≤ 1073741824)) = true := by simp; omega
      have em : p.tmod (pw (k : Int)) = p % pw (k : Int) := Int.tmod_eq_emod_of_nonneg h2.1
      have e3 : decide (0 ≤ (k : Int)) = true := by simp
      have e4 : decide ((k : Int) ≤ 8) = true := by simp; omega
      have e5 : decide (0 ≤ p) = true := by simp; omega
      have e6 : decide (p ≤ 1073741824) = true := by simp; omega
      rw [e3, e4, e5, e6]
      generalize p % pw (k : Int) = R at *
      have hne : pw (k : Int) ≠ 0 := by omega
      generalize pw (k : Int) = L at *
      have E1 := fun W => l1In_any (k : Int) 0 8 W
      have E2 := fun W => l1In_any p 0 1073741824 W
      rw [e1] at E1
      rw [e2] at E2
      clear e1 e2 e3 e4 e5 e6 h1 h2
      go_enter Try.func51, Try.ntmps51
      go_wp2_with fail
      refine (E1 _).mono ?_
      rintro e w1 ⟨rfl, rfl⟩
      go_wp2_with fail
      refine (E2 _).mono ?_
      rintro e w1 ⟨rfl, rfl⟩
      go_wp2
      go_ret
      exact ⟨by simp [Bool.beq_eq_decide_eq], below_alloc _ _⟩
    · have e2 : (decide (0 ≤ p) && decide (p ≤ 1073741824)) = false := by
        cases h : (decide (0 ≤ p) && decide (p ≤ 1073741824))
        · rfl
        · simp at h; omega
      have e2' : (decide (0 ≤ p) && (decide (p ≤ 1073741824) && decide (p % pw (k : Int) = 0))) = false := by rw [← Bool.and_assoc, e2]; rfl
      rw [e2', Bool.and_false, Bool.and_false]
      have E1 := fun W => l1In_any (k : Int) 0 8 W
      have E2 := fun W => l1In_any p 0 1073741824 W
      rw [e1] at E1
      rw [e2] at E2
      clear e1 e2 e2' h1 h2
      go_enter Try.func51, Try.ntmps51
      go_wp2_with fail
      refine (E1 _).mono ?_
      rintro e w1 ⟨rfl, rfl⟩
      go_wp2_with fail
      refine (E2 _).mono ?_
      rintro e w1 ⟨rfl, rfl⟩
      go_wp2
      go_ret
      exact ⟨rfl, below_alloc _ _⟩
  · have e1 : (decide (0 ≤ q) && decide (q ≤ 8)) = false := by
      cases h : (decide (0 ≤ q) && decide (q ≤ 8))
      · rfl
      · simp at h; omega
    rw [← Bool.and_assoc, e1, Bool.false_and]
    have E1 := fun W => l1In_any q 0 8 W
    rw [e1] at E1
    clear e1 h1
    go_enter Try.func51, Try.ntmps51
    go_wp2_with fail
    refine (E1 _).mono ?_
    rintro e w1 ⟨rfl, rfl⟩
    go_wp2
    go_ret
    exact ⟨rfl, below_alloc _ _⟩
end Go.Proofs.Ytgapplfnlndckaa
