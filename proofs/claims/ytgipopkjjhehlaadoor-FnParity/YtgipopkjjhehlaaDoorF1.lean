namespace Go.Proofs.YtgipopkjjhehlaaDoor
/-! Bytes as polynomials over bits: the product by 0x11D. -/
namespace GF

/-- Twice a byte. -/
def gx (x : Nat) : Nat := (2 * x) ^^^ (bif x.testBit 7 then 285 else 0)
/-- The product: f bits of y are looked at. -/
def gmF : Nat → Nat → Nat → Nat
  | 0, _, _ => 0
  | f + 1, x, y => (bif y.testBit 0 then x else 0) ^^^ gmF f (gx x) (y / 2)
def gm (x y : Nat) : Nat := gmF 8 x y

theorem xor4 (a b c d : Nat) : (a ^^^ b) ^^^ (c ^^^ d) = (a ^^^ c) ^^^ (b ^^^ d) := by
  rw [Nat.xor_assoc, Nat.xor_assoc, ← Nat.xor_assoc b c d, Nat.xor_comm b c, Nat.xor_assoc]
theorem xor_self_left (a b : Nat) : a ^^^ (a ^^^ b) = b := by rw [← Nat.xor_assoc, Nat.xor_self, Nat.zero_xor]
theorem xor_eq_zero {a b : Nat} (h : a ^^^ b = 0) : a = b := by
  have := congrArg (fun z => z ^^^ b) h
  simp only [Nat.xor_assoc, Nat.xor_self, Nat.xor_zero, Nat.zero_xor] at this
  exact this
theorem two_xor (x y : Nat) : 2 * (x ^^^ y) = (2 * x) ^^^ (2 * y) := by
  apply Nat.eq_of_testBit_eq
  intro i
  cases i with
  | zero => simp
  | succ i => rw [Nat.testBit_xor, Nat.testBit_succ, Nat.testBit_succ, Nat.testBit_succ]; simp [Nat.testBit_xor]
theorem half_xor (x y : Nat) : (x ^^^ y) / 2 = (x / 2) ^^^ (y / 2) := by
  apply Nat.eq_of_testBit_eq
  intro i
  simp [Nat.testBit_xor, Nat.testBit_div_two]
theorem gx_xor (x y : Nat) : gx (x ^^^ y) = gx x ^^^ gx y := by
  unfold gx
  rw [two_xor, Nat.testBit_xor, xor4]
  congr 1
  cases x.testBit 7 <;> cases y.testBit 7 <;> simp
theorem gmF_xor_left (f : Nat) : ∀ x y z, gmF f (x ^^^ y) z = gmF f x z ^^^ gmF f y z := by
  induction f with
  | zero => intro x y z; simp [gmF]
  | succ f ih =>
    intro x y z
    simp only [gmF]
    rw [gx_xor, ih, xor4]
    congr 1
    cases z.testBit 0 <;> simp
theorem gmF_xor_right (f : Nat) : ∀ x y z, gmF f x (y ^^^ z) = gmF f x y ^^^ gmF f x z := by
  induction f with
  | zero => intro x y z; simp [gmF]
  | succ f ih =>
    intro x y z
    simp only [gmF]
    rw [half_xor, ih, Nat.testBit_xor, xor4]
    congr 1
    cases y.testBit 0 <;> cases z.testBit 0 <;> simp
theorem gm_xor_left (x y z : Nat) : gm (x ^^^ y) z = gm x z ^^^ gm y z := gmF_xor_left 8 x y z
theorem gm_xor_right (x y z : Nat) : gm x (y ^^^ z) = gm x y ^^^ gm x z := gmF_xor_right 8 x y z
theorem gm_zero (x : Nat) : gm x 0 = 0 := by have := gm_xor_right x 0 0; simpa using this
theorem zero_gm (x : Nat) : gm 0 x = 0 := by have := gm_xor_left 0 0 x; simpa using this

/-- Two functions that part over xor are alike if they are at the single bits. -/
theorem lin_ext {f g : Nat → Nat} (hf : ∀ a b, f (a ^^^ b) = f a ^^^ f b) (hg : ∀ a b, g (a ^^^ b) = g a ^^^ g b) (k : Nat) (h : ∀ i, i < k → f (2 ^ i) = g (2 ^ i)) : ∀ x, x < 2 ^ k → f x = g x := by
  have hf0 : f 0 = 0 := by have := hf 0 0; simpa using this
  have hg0 : g 0 = 0 := by have := hg 0 0; simpa using this
  induction k with
  | zero => intro x hx; have : x = 0 := by simp at hx; omega
            subst this; rw [hf0, hg0]
  | succ k ih =>
    intro x hx
    have ih' := ih (fun i hi => h i (by omega))
    by_cases hk : x < 2 ^ k
    · exact ih' x hk
    · have hy : x - 2 ^ k < 2 ^ k := by rw [Nat.pow_succ] at hx; omega
      have e : x = (2 ^ k) ^^^ (x - 2 ^ k) := by
        have h1 : 2 ^ k + (x - 2 ^ k) = x := by omega
        have h2 : 2 ^ k * 1 + (x - 2 ^ k) = 2 ^ k * 1 ||| (x - 2 ^ k) := Nat.two_pow_add_eq_or_of_lt hy 1
        have h3 : 2 ^ k ||| (x - 2 ^ k) = 2 ^ k ^^^ (x - 2 ^ k) := by
          apply Nat.eq_of_testBit_eq
          intro i
          rw [Nat.testBit_or, Nat.testBit_xor]
          by_cases hi : i = k
          · subst hi; rw [Nat.testBit_lt_two_pow hy]; simp
          · rw [Nat.testBit_two_pow_of_ne (Ne.symm hi)]; simp
        rw [Nat.mul_one] at h2
        rw [h1] at h2
        rw [← h3, ← h2]
      rw [e, hf, hg, h k (by omega), ih' _ hy]

set_option maxRecDepth 20000 in
theorem gx_lt {x : Nat} (h : x < 256) : gx x < 256 := by
  have : ∀ x : Fin 256, gx x.1 < 256 := by decide
  exact this ⟨x, h⟩
theorem gmF_lt (f : Nat) : ∀ {x : Nat} (y : Nat), x < 256 → gmF f x y < 256 := by
  induction f with
  | zero => intro x y h; simp [gmF]
  | succ f ih =>
    intro x y h
    simp only [gmF]
    have h1 := ih (y / 2) (gx_lt h)
    have h2 : (bif y.testBit 0 then x else 0) < 256 := by cases y.testBit 0 <;> simp [h]
    exact Nat.xor_lt_two_pow (n := 8) h2 h1
theorem gm_lt {x : Nat} (y : Nat) (h : x < 256) : gm x y < 256 := gmF_lt 8 y h

theorem comm_basis : ∀ i j : Fin 8, gm (2 ^ i.1) (2 ^ j.1) = gm (2 ^ j.1) (2 ^ i.1) := by decide
theorem gm_comm {x y : Nat} (hx : x < 256) (hy : y < 256) : gm x y = gm y x := by
  refine lin_ext (f := fun x => gm x y) (g := fun x => gm y x) (fun a b => gm_xor_left a b y) (fun a b => gm_xor_right y a b) 8 ?_ x hx
  intro i hi
  refine lin_ext (f := fun y => gm (2 ^ i) y) (g := fun y => gm y (2 ^ i)) (fun a b => gm_xor_right _ a b) (fun a b => gm_xor_left a b _) 8 ?_ y hy
  intro j hj
  exact comm_basis ⟨i, hi⟩ ⟨j, hj⟩
theorem assoc_basis : ∀ i j k : Fin 8, gm (gm (2 ^ i.1) (2 ^ j.1)) (2 ^ k.1) = gm (2 ^ i.1) (gm (2 ^ j.1) (2 ^ k.1)) := by decide
theorem gm_assoc {x y z : Nat} (hx : x < 256) (hy : y < 256) (hz : z < 256) : gm (gm x y) z = gm x (gm y z) := by
  refine lin_ext (f := fun x => gm (gm x y) z) (g := fun x => gm x (gm y z)) (fun a b => by simp only [gm_xor_left]) (fun a b => by simp only [gm_xor_left]) 8 ?_ x hx
  intro i hi
  refine lin_ext (f := fun y => gm (gm (2 ^ i) y) z) (g := fun y => gm (2 ^ i) (gm y z)) (fun a b => by simp only [gm_xor_left, gm_xor_right]) (fun a b => by simp only [gm_xor_left, gm_xor_right]) 8 ?_ y hy
  intro j hj
  refine lin_ext (f := fun z => gm (gm (2 ^ i) (2 ^ j)) z) (g := fun z => gm (2 ^ i) (gm (2 ^ j) z)) (fun a b => by simp only [gm_xor_right]) (fun a b => by simp only [gm_xor_right]) 8 ?_ z hz
  intro k hk
  exact assoc_basis ⟨i, hi⟩ ⟨j, hj⟩ ⟨k, hk⟩
theorem gm_one (x : Nat) : gm x 1 = x := by simp [gm, gmF]
theorem one_gm {x : Nat} (h : x < 256) : gm 1 x = x := by rw [gm_comm (by omega) h, gm_one]
theorem gm_two {x : Nat} (h : x < 256) : gm x 2 = gx x := by
  refine lin_ext (f := fun x => gm x 2) (g := gx) (fun a b => gm_xor_left a b 2) gx_xor 8 ?_ x h
  have : ∀ i : Fin 8, gm (2 ^ i.1) 2 = gx (2 ^ i.1) := by decide
  exact fun i hi => this ⟨i, hi⟩
end GF
end Go.Proofs.YtgipopkjjhehlaaDoor
