/- Maps of files, without the program: pieces, and when a list of them is good; both looks are one. -/
namespace Go.Proofs.Ytdbmdblghlfjfaa
namespace Mp
set_option linter.unusedVariables false

/-- A piece: From, Long, At, Fresh. -/
structure Pc where
  f : Int
  n : Int
  a : Int
  z : Bool

/-- A piece as said. -/
def pok (p : Pc) : Prop := 0 ≤ p.f ∧ 1 ≤ p.n ∧ p.f + p.n ≤ 200 ∧ 0 ≤ p.a ∧ p.a + p.n ≤ 400
def pokB (p : Pc) : Bool := decide (0 ≤ p.f) && (decide (1 ≤ p.n) && (decide (p.f + p.n ≤ 200) && (decide (0 ≤ p.a) && decide (p.a + p.n ≤ 400))))
theorem pokB_iff {p : Pc} : pokB p = true ↔ pok p := by simp [pokB, pok]
/-- One goes on with another. -/
def goes (p q : Pc) : Bool := decide (p.f + p.n = q.f) && (decide (p.a + p.n = q.a) && (p.z == q.z))
/-- Two overlap in the file, on the device. -/
def ovF (p q : Pc) : Bool := decide (p.f < q.f + q.n) && decide (q.f < p.f + p.n)
def ovD (p q : Pc) : Bool := decide (p.a < q.a + q.n) && decide (q.a < p.a + p.n)
def mts (p q : Pc) : Bool := ovF p q || ovD p q
theorem ovF_comm (p q : Pc) : ovF p q = ovF q p := Bool.and_comm _ _
theorem ovD_comm (p q : Pc) : ovD p q = ovD q p := Bool.and_comm _ _
/-- The piece at a place, as the specification looks at it. -/
def okS (g : Nat → Pc) (i : Nat) : Prop :=
  pok (g i) ∧ (0 < i → (g (i - 1)).f + (g (i - 1)).n ≤ (g i).f ∧ goes (g (i - 1)) (g i) = false) ∧ ∀ j, j < i → ovD (g j) (g i) = false
/-- The piece at a place, as the program looks at it. -/
def okI (g : Nat → Pc) (i : Nat) : Prop :=
  pok (g i) ∧ (∀ j, j < i → mts (g i) (g j) = false) ∧ (0 < i → (g (i - 1)).f < (g i).f ∧ goes (g (i - 1)) (g i) = false)
theorem rise {g : Nat → Pc} {n : Nat} (h : ∀ i, i < n → okS g i) : ∀ (d j : Nat), j + d + 1 < n → (g j).f + (g j).n ≤ (g (j + d + 1)).f
  | 0, j, hj => ((h (j + 1) hj).2.1 (by omega)).1
  | d + 1, j, hj => by
    have h1 := rise h d j (by omega)
    have h2 := ((h (j + d + 1 + 1) (by omega)).2.1 (by omega)).1
    have h3 := (h (j + d + 1) (by omega)).1
    unfold pok at h3
    rw [show j + d + 1 + 1 - 1 = j + d + 1 from rfl] at h2
    rw [show j + (d + 1) + 1 = j + d + 1 + 1 by omega]
    omega
theorem rise_lt {g : Nat → Pc} {n : Nat} (h : ∀ i, i < n → okS g i) {j i : Nat} (hj : j < i) (hi : i < n) : (g j).f + (g j).n ≤ (g i).f := by
  have := rise h (i - j - 1) j (by omega)
  rwa [show j + (i - j - 1) + 1 = i by omega] at this
theorem okS_okI {g : Nat → Pc} {n : Nat} : (∀ i, i < n → okS g i) ↔ (∀ i, i < n → okI g i) := by
  constructor
  · intro h i hi
    obtain ⟨h1, h2, h3⟩ := h i hi
    refine ⟨h1, fun j hj => ?_, fun h0 => ?_⟩
    · have h4 := rise_lt h hj hi
      have h5 := h3 j hj
      unfold mts
      rw [ovD_comm, h5, Bool.or_false]
      unfold ovF
      simp
      omega
    · have h4 := h2 h0
      have h5 := (h (i - 1) (by omega)).1
      unfold pok at h5
      exact ⟨by omega, h4.2⟩
  · intro h i hi
    obtain ⟨h1, h2, h3⟩ := h i hi
    refine ⟨h1, fun h0 => ?_, fun j hj => ?_⟩
    · have h4 := h3 h0
      have h5 := h2 (i - 1) (by omega)
      have h6 := (h (i - 1) (by omega)).1
      unfold pok at h1 h6
      unfold mts ovF at h5
      simp at h5
      exact ⟨by omega, h4.2⟩
    · have h5 := h2 j hj
      unfold mts at h5
      rw [Bool.or_eq_false_iff] at h5
      rw [ovD_comm]
      exact h5.2
/-- The piece at a place of a list. -/
def gp (l : List Pc) (i : Nat) : Pc := l.getD i ⟨0, 0, 0, false⟩
theorem gp_eq {l : List Pc} {i : Nat} (h : i < l.length) : gp l i = l[i] := by simp [gp, h]
theorem gp_mem {l : List Pc} {i : Nat} (h : i < l.length) : gp l i ∈ l := by rw [gp_eq h]; exact List.getElem_mem h
/-- A good map. -/
def GM (l : List Pc) : Prop := l.length ≤ 40 ∧ ∀ i, i < l.length → okS (gp l) i
/-- Numbers of an int's size. -/
def i64 (x : Int) : Prop := -9223372036854775808 ≤ x ∧ x ≤ 9223372036854775807
def Few (p : Pc) : Prop := i64 p.f ∧ i64 p.n ∧ i64 p.a
/-- A bool that tells a proposition. -/
theorem tel_ex (P : Prop) : ∃ b : Bool, b = true ↔ P := by
  by_cases h : P
  · exact ⟨true, by simp [h]⟩
  · exact ⟨false, by simp [h]⟩
theorem tel_eq {P : Prop} {b c : Bool} (h : b = true ↔ P) (k : c = true ↔ P) : b = c := by
  cases b <;> cases c <;> simp_all
/-- How many blocks, how many of them fresh. -/
def szN : List Pc → Int
  | [] => 0
  | p :: l => p.n + szN l
def szF : List Pc → Int
  | [] => 0
  | p :: l => (if p.z then p.n else 0) + szF l
theorem szN_app (l m : List Pc) : szN (l ++ m) = szN l + szN m := by
  induction l with
  | nil => simp [szN]
  | cons p l ih => simp [szN, ih]; omega
theorem szF_app (l m : List Pc) : szF (l ++ m) = szF l + szF m := by
  induction l with
  | nil => simp [szF]
  | cons p l ih => simp [szF, ih]; omega
theorem take_gp {l : List Pc} {k : Nat} (h : k < l.length) : l.take (k + 1) = l.take k ++ [gp l k] := by
  rw [gp_eq h, List.take_succ_eq_append_getElem h]
theorem sz_bound {l : List Pc} {M : Int} (hM : 0 ≤ M) (h : ∀ p, p ∈ l → 0 ≤ p.n ∧ p.n ≤ M) : 0 ≤ szF l ∧ szF l ≤ szN l ∧ szN l ≤ l.length * M := by
  induction l with
  | nil => simp [szF, szN]
  | cons p l ih =>
    have h1 := h p (by simp)
    have h2 := ih (fun q hq => h q (by simp [hq]))
    have e : ((p :: l).length : Int) * M = l.length * M + M := by rw [List.length_cons]; push_cast; rw [Int.add_mul, Int.one_mul]
    rw [e]
    simp only [szF, szN]
    cases p.z
    · simp; omega
    · simp; omega
/-- A block of the file in a piece. -/
def inP (t : Int) (p : Pc) : Bool := decide (p.f ≤ t) && decide (t < p.f + p.n)
end Mp
end Go.Proofs.Ytdbmdblghlfjfaa
