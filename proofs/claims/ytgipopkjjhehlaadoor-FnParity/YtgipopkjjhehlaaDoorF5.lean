import Derived.Test.YtgipopkjjhehlaaDoorF4
namespace Go.Proofs.YtgipopkjjhehlaaDoor
namespace GF
/-! The product without a fold, and what is left of it. -/

def clF : Nat → Nat → Nat → Nat
  | 0, _, _ => 0
  | f + 1, x, y => (bif y.testBit 0 then x else 0) ^^^ clF f (2 * x) (y / 2)
def lv : List Nat := [29, 58, 116, 232, 205, 135, 19]
/-- What is left: of the low byte, and of bit i, i + 1, .. the table's rows. -/
def rdF (p : Nat) : Nat → List Nat → Nat
  | _, [] => 0
  | i, l :: r => (bif p.testBit i then l else 0) ^^^ rdF p (i + 1) r
def rd (p : Nat) : Nat := (p % 256) ^^^ rdF p 8 lv

theorem clF_xor_left (f : Nat) : ∀ x y z, clF f (x ^^^ y) z = clF f x z ^^^ clF f y z := by
  induction f with
  | zero => intro x y z; simp [clF]
  | succ f ih =>
    intro x y z
    simp only [clF]
    rw [two_xor, ih, xor4]
    congr 1
    cases z.testBit 0 <;> simp
theorem clF_xor_right (f : Nat) : ∀ x y z, clF f x (y ^^^ z) = clF f x y ^^^ clF f x z := by
  induction f with
  | zero => intro x y z; simp [clF]
  | succ f ih =>
    intro x y z
    simp only [clF]
    rw [half_xor, ih, Nat.testBit_xor, xor4]
    congr 1
    cases y.testBit 0 <;> cases z.testBit 0 <;> simp
theorem rdF_xor (p q : Nat) : ∀ (l : List Nat) (i : Nat), rdF (p ^^^ q) i l = rdF p i l ^^^ rdF q i l
  | [], i => by simp [rdF]
  | a :: l, i => by
    simp only [rdF]
    rw [rdF_xor p q l, Nat.testBit_xor, xor4]
    congr 1
    cases p.testBit i <;> cases q.testBit i <;> simp
theorem rd_xor (p q : Nat) : rd (p ^^^ q) = rd p ^^^ rd q := by
  unfold rd
  rw [rdF_xor, ← xor4]
  congr 1
  exact Nat.xor_mod_two_pow (n := 8)
theorem rd_basis : ∀ i j : Fin 8, rd (clF 8 (2 ^ i.1) (2 ^ j.1)) = gm (2 ^ i.1) (2 ^ j.1) := by decide +kernel
theorem rd_cl {x y : Nat} (hx : x < 256) (hy : y < 256) : rd (clF 8 x y) = gm x y := by
  refine lin_ext (f := fun x => rd (clF 8 x y)) (g := fun x => gm x y) (fun a b => by simp only [clF_xor_left, rd_xor]) (fun a b => gm_xor_left a b y) 8 ?_ x hx
  intro i hi
  refine lin_ext (f := fun y => rd (clF 8 (2 ^ i) y)) (g := fun y => gm (2 ^ i) y) (fun a b => by simp only [clF_xor_right, rd_xor]) (fun a b => gm_xor_right _ a b) 8 ?_ y hy
  intro j hj
  exact rd_basis ⟨i, hi⟩ ⟨j, hj⟩
theorem clF_zero (f : Nat) : ∀ x, clF f x 0 = 0 := by
  induction f with
  | zero => intro x; rfl
  | succ f ih => intro x; simp [clF, ih]
theorem gmF_zero (f : Nat) : ∀ x, gmF f x 0 = 0 := by
  induction f with
  | zero => intro x; rfl
  | succ f ih => intro x; simp [gmF, ih]

/-- Powers by squares: f bits of n are looked at. -/
def sq (f a n : Nat) : Nat :=
  match f with
  | 0 => 1
  | f + 1 => gm (bif n.testBit 0 then a else 1) (sq f (gm a a) (n / 2))
theorem sq_lt (f : Nat) : ∀ a n, a < 256 → sq f a n < 256 := by
  induction f with
  | zero => intro a n _; simp [sq]
  | succ f ih =>
    intro a n h
    simp only [sq]
    exact gm_lt _ (by cases n.testBit 0 <;> simp [h])
theorem gp_two {a : Nat} (h : a < 256) : gp a 2 = gm a a := by simp [gp, one_gm h]
theorem gp_one {a : Nat} (h : a < 256) : gp a 1 = a := by simp [gp, one_gm h]
theorem gp_half {a : Nat} (h : a < 256) (n : Nat) : gp a n = gm (bif n.testBit 0 then a else 1) (gp (gm a a) (n / 2)) := by
  rw [← gp_two h, gp_mul h]
  have e : n = n % 2 + 2 * (n / 2) := by omega
  conv => lhs; rw [e]
  rw [gp_add h]
  congr 1
  rw [Nat.testBit_zero]
  rcases Nat.mod_two_eq_zero_or_one n with h2 | h2
  · simp [h2, gp]
  · simp [h2, gp_one h]
/-- A step: what is gathered times the power that is left stays. -/
theorem gp_step {p a n : Nat} (hp : p < 256) (h : a < 256) : gm p (gp a n) = gm (bif n.testBit 0 then gm p a else p) (gp (gm a a) (n / 2)) := by
  rw [gp_half h, ← gm_assoc hp (by cases n.testBit 0 <;> simp [h]) (gp_lt _)]
  cases n.testBit 0 <;> simp [gm_one]
end GF
end Go.Proofs.YtgipopkjjhehlaaDoor
