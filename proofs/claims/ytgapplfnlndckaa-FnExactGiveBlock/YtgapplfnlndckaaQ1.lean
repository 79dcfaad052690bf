import Derived.Test.YtgapplfnlndckaaT3
/- A block given back: it comes together with its buddies. -/
namespace Go.Proofs.Ytgapplfnlndckaa
open Go.ChangeShapes Go.WideShapes Go.ChangeAt Go.RowKit
set_option linter.unusedVariables false
open Room

/-- The block of which a block and its buddy are the halves. -/
def up (x : Ex) : Ex := (if x.1 < (bud x).1 then x.1 else (bud x).1, x.2 + 1)
/-- A list without a block. -/
def rm (l : List Ex) (y : Ex) : List Ex := l.filter fun z => decide (z ≠ y)
theorem mem_rm {l : List Ex} {y z : Ex} : z ∈ rm l y ↔ z ∈ l ∧ z ≠ y := by simp [rm]
theorem so_rm {l : List Ex} {y : Ex} (h : So ltP l) : So ltP (rm l y) := List.Pairwise.filter _ h
theorem without_rm {l : List Ex} {k : Nat} (hk : k < l.length) (h : So ltP l) : without l k = rm l (gx l k) :=
  uniq ordP (so_without h) (so_rm h) fun y => by rw [mem_without hk h, mem_rm]
/-- As long as the buddy is free, both are one. -/
def gv : Nat → List Ex → Ex → List Ex × Ex
  | 0, L, x => (L, x)
  | n + 1, L, x => if bud x ∈ L then gv n (rm L (bud x)) (up x) else (L, x)

theorem half_nat {x : Ex} (h : isB x = true) : ∃ (o c : Nat), x = (((2 ^ o * c : Nat) : Int), (o : Int)) ∧ o ≤ 8 ∧ 2 ^ o * c ≤ 1073741824 := by
  obtain ⟨h1, h2, h3, h4, h5⟩ := isB_iff.1 h
  obtain ⟨p, q⟩ := x
  simp only [ln, pw] at h1 h2 h3 h4 h5
  obtain ⟨a, rfl⟩ : ∃ a : Nat, p = a := ⟨p.toNat, by omega⟩
  obtain ⟨k, rfl⟩ : ∃ k : Nat, q = k := ⟨q.toNat, by omega⟩
  simp only [Int.toNat_natCast] at h5
  have hd : a % 2 ^ k = 0 := by exact_mod_cast h5
  have e : 2 ^ k * (a / 2 ^ k) = a := by have := Nat.div_add_mod a (2 ^ k); omega
  exact ⟨k, a / 2 ^ k, by rw [e], by omega, by rw [e]; omega⟩
theorem bud_nat (o c : Nat) : bud (((2 ^ o * c : Nat) : Int), (o : Int)) = (((2 ^ o * (if c % 2 = 0 then c + 1 else c - 1) : Nat) : Int), (o : Int)) := by
  have e : (2 ^ o * c) ^^^ 2 ^ o = 2 ^ o * (c ^^^ 1) := by
    have e1 : 2 ^ o * c = c <<< o := by rw [Nat.shiftLeft_eq, Nat.mul_comm]
    have e2 : 2 ^ o = 1 <<< o := by rw [Nat.shiftLeft_eq, Nat.one_mul]
    have e3 : 2 ^ o * (c ^^^ 1) = (c ^^^ 1) <<< o := by rw [Nat.shiftLeft_eq, Nat.mul_comm]
    rw [e3, Nat.shiftLeft_xor_distrib, ← e1, ← e2]
  simp only [bud, xr, ln, pw, Int.toNat_natCast, e, xor_one]
theorem up_nat (o c : Nat) : up (((2 ^ o * c : Nat) : Int), (o : Int)) = (((2 ^ (o + 1) * (c / 2) : Nat) : Int), ((o + 1 : Nat) : Int)) := by
  have hp : 0 < 2 ^ o := Nat.two_pow_pos o
  unfold up
  rw [bud_nat]
  simp only
  by_cases h : c % 2 = 0
  · have e : 2 ^ (o + 1) * (c / 2) = 2 ^ o * c := by rw [Nat.pow_succ, Nat.mul_assoc]; congr 1; omega
    have hlt : 2 ^ o * c < 2 ^ o * (c + 1) := Nat.mul_lt_mul_of_pos_left (by omega) hp
    rw [if_pos h, if_pos (by exact_mod_cast hlt), e]
    push_cast
    rfl
  · have e : 2 ^ (o + 1) * (c / 2) = 2 ^ o * (c - 1) := by rw [Nat.pow_succ, Nat.mul_assoc]; congr 1; omega
    have hlt : 2 ^ o * (c - 1) ≤ 2 ^ o * c := Nat.mul_le_mul_left _ (by omega)
    rw [if_neg h, if_neg (by have : ((2 ^ o * (c - 1) : Nat) : Int) ≤ ((2 ^ o * c : Nat) : Int) := by exact_mod_cast hlt
                             omega), e]
    push_cast
    rfl
/-- The bit struck: the lower of both. -/
theorem and_not {o c : Nat} (ho : o ≤ 8) (hc : 2 ^ o * c ≤ 1073741824) : bits .andNot .i64 ((2 ^ o * c : Nat) : Int) (pw (o : Int)) = (up (((2 ^ o * c : Nat) : Int), (o : Int))).1 := by
  rw [up_nat]
  simp only [pw, Int.toNat_natCast]
  have h2 : 2 ^ o ≤ 2 ^ 8 := Nat.pow_le_pow_right (by omega) ho
  generalize hA : 2 ^ o * c = A at *
  have hr : 2 ^ (o + 1) * (c / 2) ≤ A := by
    rw [← hA, Nat.pow_succ, Nat.mul_assoc]
    exact Nat.mul_le_mul_left _ (by omega)
  have e1 : (BitVec.ofInt 64 (A : Int)).toNat = A := by rw [BitVec.ofInt_natCast, BitVec.toNat_ofNat]; exact Nat.mod_eq_of_lt (by omega)
  have e2 : (BitVec.ofInt 64 ((2 ^ o : Nat) : Int)).toNat = 2 ^ o := by rw [BitVec.ofInt_natCast, BitVec.toNat_ofNat]; exact Nat.mod_eq_of_lt (by omega)
  have e3 : (BitVec.ofInt 64 (A : Int) &&& ~~~ BitVec.ofInt 64 ((2 ^ o : Nat) : Int)).toNat = 2 ^ (o + 1) * (c / 2) := by
    apply Nat.eq_of_testBit_eq
    intro i
    rw [← BitVec.getLsbD, BitVec.getLsbD_and, BitVec.getLsbD_not]
    have t1 : (BitVec.ofInt 64 (A : Int)).getLsbD i = A.testBit i := by rw [BitVec.getLsbD, e1]
    have t2 : (BitVec.ofInt 64 ((2 ^ o : Nat) : Int)).getLsbD i = (2 ^ o).testBit i := by rw [BitVec.getLsbD, e2]
    rw [t1, t2, Nat.testBit_two_pow]
    have hAt : A.testBit i = (decide (o ≤ i) && c.testBit (i - o)) := by
      rw [← hA, Nat.mul_comm, ← Nat.shiftLeft_eq, Nat.testBit_shiftLeft]
    have hRt : (2 ^ (o + 1) * (c / 2)).testBit i = (decide (o + 1 ≤ i) && (c / 2).testBit (i - (o + 1))) := by
      rw [Nat.mul_comm, ← Nat.shiftLeft_eq, Nat.testBit_shiftLeft]
    rw [hAt, hRt]
    by_cases h64 : i < 64
    · by_cases hi : o = i
      · subst hi
        have d2 : decide (o + 1 ≤ o) = false := by simp
        rw [d2]
        simp
      · by_cases hlt : o < i
        · have e4 : i - o = (i - (o + 1)) + 1 := by omega
          have d1 : decide (o ≤ i) = true := decide_eq_true (by omega)
          have d2 : decide (o + 1 ≤ i) = true := decide_eq_true (by omega)
          have d3 : decide (o = i) = false := decide_eq_false hi
          have d4 : decide (i < 64) = true := decide_eq_true h64
          rw [e4, Nat.testBit_succ, d1, d2, d3, d4]
          simp
        · have h1 : ¬ o ≤ i := by omega
          have h2 : ¬ o + 1 ≤ i := by omega
          simp [h1, h2]
    · have hA0 : A.testBit i = false := Nat.testBit_lt_two_pow (Nat.lt_of_lt_of_le (by omega : A < 2 ^ 64) (Nat.pow_le_pow_right (by omega) (by omega)))
      have hR0 : (2 ^ (o + 1) * (c / 2)).testBit i = false := Nat.testBit_lt_two_pow (Nat.lt_of_lt_of_le (by omega : 2 ^ (o + 1) * (c / 2) < 2 ^ 64) (Nat.pow_le_pow_right (by omega) (by omega)))
      rw [← hAt, ← hRt, hA0, hR0]
      simp
  show IntKind.i64.wrap ((BitVec.ofInt 64 (A : Int) &&& ~~~ BitVec.ofInt 64 ((2 ^ o : Nat) : Int)).toNat : Int) = _
  rw [e3, wrapI (by omega) (by omega)]
end Go.Proofs.Ytgapplfnlndckaa
