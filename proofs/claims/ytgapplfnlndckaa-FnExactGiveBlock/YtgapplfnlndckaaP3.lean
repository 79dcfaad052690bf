import Derived.Test.YtgapplfnlndckaaP2
/- A block taken: lists in order with one more, and halves. -/
namespace Go.Proofs.Ytgapplfnlndckaa.Room
set_option linter.unusedVariables false

/-- A block put at its place. -/
def put (x : Ex) : List Ex → List Ex
  | [] => [x]
  | y :: l => if y.1 < x.1 then y :: put x l else x :: y :: l
theorem mem_put {x y : Ex} : ∀ {l : List Ex}, y ∈ put x l ↔ y = x ∨ y ∈ l
  | [] => by simp [put]
  | z :: l => by
    rw [put]
    split
    · rw [List.mem_cons, mem_put, List.mem_cons]
      constructor
      · rintro (h | h | h)
        · exact .inr (.inl h)
        · exact .inl h
        · exact .inr (.inr h)
      · rintro (h | h | h)
        · exact .inr (.inl h)
        · exact .inl h
        · exact .inr (.inr h)
    · simp
theorem so_put {x : Ex} : ∀ {l : List Ex}, So ltP l → (∀ y, y ∈ l → y.1 ≠ x.1) → So ltP (put x l)
  | [], _, _ => by simp [put, So]
  | z :: l, h, hn => by
    rw [So.cons] at h
    rw [put]
    split
    · rename_i hz
      refine So.cons.2 ⟨fun y hy => ?_, so_put h.2 (fun y hy => hn y (by simp [hy]))⟩
      rcases mem_put.1 hy with rfl | hy
      · exact ltP_iff.2 hz
      · exact h.1 y hy
    · rename_i hz
      have := hn z (by simp)
      have hx : ltP x z = true := ltP_iff.2 (by omega)
      refine So.cons.2 ⟨fun y hy => ?_, So.cons.2 h⟩
      rcases List.mem_cons.1 hy with rfl | hy
      · exact hx
      · exact ordP.tr _ _ _ hx (h.1 y hy)
theorem put_len {x : Ex} : ∀ {l : List Ex}, (put x l).length = l.length + 1
  | [] => rfl
  | z :: l => by
    rw [put]
    split
    · simp [put_len]
    · simp
theorem put_at {x : Ex} : ∀ {l : List Ex} {k : Nat}, k ≤ l.length → (∀ i (h : i < k) (h' : i < l.length), (l[i]).1 < x.1) → (∀ h : k < l.length, ¬ (l[k]).1 < x.1) → put x l = l.take k ++ x :: l.drop k
  | [], k, hk, _, _ => by
    obtain rfl : k = 0 := by simpa using hk
    rfl
  | z :: l, 0, _, _, h => by
    have := h (by simp)
    simp at this
    rw [put, if_neg (by omega)]
    rfl
  | z :: l, k + 1, hk, h1, h2 => by
    have := h1 0 (by omega) (by simp)
    simp at this
    rw [put, if_pos this, put_at (k := k) (by simpa using hk) (fun i hi hi' => by have := h1 (i + 1) (by omega) (by simpa using hi'); simpa using this) (fun h => by have := h2 (by simpa using h); simpa using this)]
    rfl
/-- Strictly in order, from blocks that rise. -/
theorem lst_so {e : Int} : ∀ {m : Int} {l : List Ex}, lst e m l = true → So ltP l
  | m, [], _ => List.Pairwise.nil
  | m, x :: l, h => by
    rw [lst_cons] at h
    refine So.cons.2 ⟨fun y hy => ltP_iff.2 ?_, lst_so h.2.2.2⟩
    have := lst_all h.2.2.2 y hy
    have := ln_pos x
    unfold fin at *
    omega
/-- The upper halves, put one after the other. -/
def cutF (p : Int) (o : Nat) : Nat → List Ex → List Ex
  | 0, l => l
  | n + 1, l => cutF p o n (put (p + pw ((o + n : Nat) : Int), ((o + n : Nat) : Int)) l)
theorem mem_cutF {p : Int} {o : Nat} {y : Ex} : ∀ {n : Nat} {l : List Ex}, y ∈ cutF p o n l ↔ y ∈ l ∨ ∃ j : Nat, o ≤ j ∧ j < o + n ∧ y = (p + pw (j : Int), (j : Int))
  | 0, l => by
    rw [cutF]
    constructor
    · intro h; exact .inl h
    · rintro (h | ⟨j, h1, h2, _⟩)
      · exact h
      · omega
  | n + 1, l => by
    rw [cutF, mem_cutF, mem_put]
    constructor
    · rintro ((h | h) | ⟨j, h1, h2, h3⟩)
      · exact .inr ⟨o + n, by omega, by omega, h⟩
      · exact .inl h
      · exact .inr ⟨j, h1, by omega, h3⟩
    · rintro (h | ⟨j, h1, h2, h3⟩)
      · exact .inl (.inr h)
      · by_cases hj : j = o + n
        · subst hj; exact .inl (.inl h3)
        · exact .inr ⟨j, h1, by omega, h3⟩
theorem pw_inj {i j : Nat} (h : pw (i : Int) = pw (j : Int)) : i = j := by
  simp only [pw, Int.toNat_natCast] at h
  have h' : 2 ^ i = 2 ^ j := by exact_mod_cast h
  rcases Nat.lt_trichotomy i j with q | q | q
  · have := Nat.pow_lt_pow_right (a := 2) (by omega) q; omega
  · exact q
  · have := Nat.pow_lt_pow_right (a := 2) (by omega) q; omega
theorem so_cutF {p : Int} {o : Nat} : ∀ {n : Nat} {l : List Ex}, So ltP l → (∀ y, y ∈ l → ∀ j : Nat, o ≤ j → j < o + n → y.1 ≠ p + pw (j : Int)) → So ltP (cutF p o n l)
  | 0, l, h, _ => h
  | n + 1, l, h, hn => by
    rw [cutF]
    refine so_cutF (so_put h fun y hy => hn y hy (o + n) (by omega) (by omega)) fun y hy j h1 h2 => ?_
    rcases mem_put.1 hy with rfl | hy
    · intro e
      have := pw_inj (i := o + n) (j := j) (by simp only at e; omega)
      omega
    · exact hn y hy j h1 (by omega)
theorem pw_succ (j : Nat) : pw ((j + 1 : Nat) : Int) = 2 * pw (j : Int) := by
  simp only [pw, Int.toNat_natCast]
  rw [Nat.pow_succ]
  omega
theorem pw_mono {i j : Nat} (h : i ≤ j) : pw (i : Int) ≤ pw (j : Int) := by
  simp only [pw, Int.toNat_natCast]
  have : 2 ^ i ≤ 2 ^ j := Nat.pow_le_pow_right (by omega) h
  omega
/-- The buddy of the lower half of a block is its upper half. -/
theorem bud_half {p : Int} {j q : Nat} (hj : j < q) (hq : isB (p, (q : Int)) = true) : bud (p, (j : Int)) = (p + pw (j : Int), (j : Int)) := by
  obtain ⟨h1, h2, h3, h4, h5⟩ := isB_iff.1 hq
  simp only [ln] at h1 h2 h3 h4 h5
  have hd : pw ((j + 1 : Nat) : Int) ∣ p := by
    refine Int.dvd_trans ?_ (Int.dvd_of_emod_eq_zero h5)
    simp only [pw, Int.toNat_natCast]
    exact_mod_cast Nat.pow_dvd_pow 2 (by omega : j + 1 ≤ q)
  obtain ⟨c, hc⟩ := hd
  obtain ⟨a, rfl⟩ : ∃ a : Nat, p = a := ⟨p.toNat, by omega⟩
  have hp : (0 : Int) < pw ((j + 1 : Nat) : Int) := by have := pw_pos ((j + 1 : Nat) : Int); omega
  have hc0 : 0 ≤ c := by
    by_cases h : 0 ≤ c
    · exact h
    · exfalso
      have := Int.mul_neg_of_pos_of_neg hp (by omega : c < 0)
      omega
  obtain ⟨d, rfl⟩ : ∃ d : Nat, c = d := ⟨c.toNat, by omega⟩
  have ha : a = 2 ^ (j + 1) * d := by
    simp only [pw, Int.toNat_natCast] at hc
    exact_mod_cast hc
  simp only [bud, ln, xr, Prod.mk.injEq, and_true, Int.toNat_natCast]
  simp only [pw, Int.toNat_natCast]
  have e : a ^^^ 2 ^ j = a + 2 ^ j := by
    have e1 : a = (2 * d) <<< j := by rw [ha, Nat.shiftLeft_eq, Nat.pow_succ]; rw [Nat.mul_assoc, Nat.mul_comm]
    have e2 : 2 ^ j = 1 <<< j := by rw [Nat.shiftLeft_eq, Nat.one_mul]
    have e3 : (2 * d) ^^^ 1 = 2 * d + 1 := by rw [xor_one, if_pos (by omega)]
    have e5 : a + 2 ^ j = ((2 * d) ^^^ 1) <<< j := by rw [e3, e1, Nat.shiftLeft_eq, Nat.shiftLeft_eq, Nat.add_mul, Nat.one_mul]
    rw [e5, Nat.shiftLeft_xor_distrib, ← e1, ← e2]
  rw [e]
  push_cast
  rfl
end Go.Proofs.Ytgapplfnlndckaa.Room
