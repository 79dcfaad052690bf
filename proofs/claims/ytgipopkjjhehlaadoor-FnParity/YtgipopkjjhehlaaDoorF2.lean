import Derived.Test.YtgipopkjjhehlaaDoorF1
namespace Go.Proofs.YtgipopkjjhehlaaDoor
namespace GF

def gp (a : Nat) : Nat → Nat
  | 0 => 1
  | n + 1 => gm (gp a n) a
theorem gp_lt {a : Nat} : ∀ n, gp a n < 256
  | 0 => by simp [gp]
  | n + 1 => gm_lt _ (gp_lt n)
theorem gp_add {a : Nat} (ha : a < 256) (m : Nat) : ∀ n, gp a (m + n) = gm (gp a m) (gp a n)
  | 0 => by simp [gp, gm_one]
  | n + 1 => by
    rw [← Nat.add_assoc]
    simp only [gp]
    rw [gp_add ha m n, gm_assoc (gp_lt m) (gp_lt n) ha]
theorem gp_mul {a : Nat} (ha : a < 256) (m : Nat) : ∀ n, gp (gp a m) n = gp a (m * n)
  | 0 => by simp [gp]
  | n + 1 => by
    simp only [gp]
    rw [gp_mul ha m n, Nat.mul_succ, gp_add ha]
theorem gp_one_base : ∀ n, gp 1 n = 1
  | 0 => rfl
  | n + 1 => by simp only [gp]; rw [gp_one_base n, gm_one]

/-- Powers of 2, one by one. -/
def ex : Nat → Nat
  | 0 => 1
  | n + 1 => gx (ex n)
theorem ex_gp : ∀ n, ex n = gp 2 n
  | 0 => rfl
  | n + 1 => by simp only [ex, gp]; rw [ex_gp n, gm_two (gp_lt n)]
def exF : Nat → Nat → List Nat
  | 0, _ => []
  | n + 1, x => x :: exF n (gx x)
def itx : Nat → Nat → Nat
  | 0, x => x
  | n + 1, x => itx n (gx x)
theorem itx_succ (n x : Nat) : itx (n + 1) x = gx (itx n x) := by
  induction n generalizing x with
  | zero => rfl
  | succ n ih => rw [itx, ih, itx]
theorem itx_ex : ∀ n, itx n 1 = ex n
  | 0 => rfl
  | n + 1 => by rw [itx_succ, itx_ex n, ex]
theorem exF_at (n : Nat) : ∀ x i, i < n → (exF n x)[i]? = some (itx i x) := by
  induction n with
  | zero => intro x i hi; omega
  | succ n ih =>
    intro x i hi
    cases i with
    | zero => rfl
    | succ i => simp only [exF, itx, List.getElem?_cons_succ]; exact ih _ _ (by omega)
theorem exF_len (n : Nat) : ∀ x, (exF n x).length = n := by
  induction n with
  | zero => intro x; rfl
  | succ n ih => intro x; simp [exF, ih]
theorem ex_all_b : (List.range 256).all (fun a => a == 0 || (exF 255 1).contains a) = true := by decide +kernel
theorem ex_255 : itx 255 1 = 1 := by decide +kernel
/-- Each byte but 0 is a power of 2. -/
theorem ex_all {a : Nat} (h : a < 256) (h0 : a ≠ 0) : ∃ i, i < 255 ∧ ex i = a := by
  have := List.all_eq_true.1 ex_all_b a (List.mem_range.2 h)
  simp [h0] at this
  obtain ⟨i, hi, e⟩ := List.getElem_of_mem this
  rw [exF_len] at hi
  refine ⟨i, hi, ?_⟩
  have h2 := exF_at 255 1 i hi
  rw [itx_ex] at h2
  have h3 : (exF 255 1)[i]? = some a := by rw [← e]; exact List.getElem?_eq_getElem _
  rw [h3] at h2
  exact (Option.some.inj h2).symm
theorem gp_255 {a : Nat} (h : a < 256) (h0 : a ≠ 0) : gp a 255 = 1 := by
  obtain ⟨i, _, e⟩ := ex_all h h0
  have e2 : gp 2 255 = 1 := by rw [← ex_gp, ← itx_ex]; exact ex_255
  rw [← e, ex_gp, gp_mul (by omega), Nat.mul_comm, ← gp_mul (by omega), e2, gp_one_base]

def gi (a : Nat) : Nat := if a = 0 then 0 else gp a 254
theorem gi_lt (a : Nat) : gi a < 256 := by
  unfold gi
  split
  · omega
  · exact gp_lt _
theorem gi_gm {a : Nat} (h : a < 256) (h0 : a ≠ 0) : gm (gi a) a = 1 := by
  unfold gi
  rw [if_neg h0]
  exact gp_255 h h0
theorem gm_gi {a : Nat} (h : a < 256) (h0 : a ≠ 0) : gm a (gi a) = 1 := by rw [gm_comm h (gi_lt a), gi_gm h h0]
theorem gm_eq_zero {a b : Nat} (ha : a < 256) (hb : b < 256) (h : gm a b = 0) : a = 0 ∨ b = 0 := by
  by_cases h0 : a = 0
  · exact .inl h0
  · right
    have := congrArg (gm (gi a)) h
    rw [← gm_assoc (gi_lt a) ha hb, gi_gm ha h0, one_gm hb, gm_zero] at this
    exact this
theorem gi_ne {a : Nat} (h : a < 256) (h0 : a ≠ 0) : gi a ≠ 0 := by
  intro e
  have := gi_gm h h0
  rw [e, zero_gm] at this
  omega
theorem gi_unique {a b : Nat} (ha : a < 256) (hb : b < 256) (h : gm a b = 1) : b = gi a := by
  have h0 : a ≠ 0 := by intro e; rw [e, zero_gm] at h; omega
  have := congrArg (gm (gi a)) h
  rw [← gm_assoc (gi_lt a) ha hb, gi_gm ha h0, one_gm hb, gm_one] at this
  exact this
theorem gi_gi {a : Nat} (h : a < 256) : gi (gi a) = a := by
  by_cases h0 : a = 0
  · subst h0; rfl
  · exact (gi_unique (gi_lt a) h (gi_gm h h0)).symm
/-- Powers go round. -/
theorem gp_mod {a : Nat} (h : a < 256) (h0 : a ≠ 0) (n : Nat) : gp a n = gp a (n % 255) := by
  have : n = 255 * (n / 255) + n % 255 := by omega
  conv => lhs; rw [this]
  rw [gp_add h, ← gp_mul h, gp_255 h h0, gp_one_base, one_gm (gp_lt _)]
theorem ex_lt (n : Nat) : ex n < 256 := by rw [ex_gp]; exact gp_lt n
theorem ex_ne (n : Nat) : ex n ≠ 0 := by
  induction n with
  | zero => decide
  | succ n ih =>
    intro e
    rw [ex, ← gm_two (ex_lt n)] at e
    rcases gm_eq_zero (ex_lt n) (by omega) e with h | h
    · exact ih h
    · omega
theorem ex_inj_b : (List.range 255).all (fun i => (exF 255 1).idxOf ((exF 255 1).getD i 0) == i) = true := by decide +kernel
theorem ex_inj {i j : Nat} (hi : i < 255) (hj : j < 255) (h : ex i = ex j) : i = j := by
  have a1 := List.all_eq_true.1 ex_inj_b i (List.mem_range.2 hi)
  have a2 := List.all_eq_true.1 ex_inj_b j (List.mem_range.2 hj)
  have g : ∀ k, k < 255 → (exF 255 1).getD k 0 = ex k := fun k hk => by
    rw [List.getD_eq_getElem?_getD, exF_at 255 1 k hk, itx_ex]; rfl
  rw [g i hi] at a1
  rw [g j hj] at a2
  rw [h] at a1
  rw [beq_iff_eq] at a1 a2
  rw [← a1, a2]
end GF
end Go.Proofs.YtgipopkjjhehlaaDoor
