namespace Go.Proofs.YtapkaeamiplhgaaDoor
/-! Words of 13 bits: the xor of the numbers of their ones, their count, the byte in them. -/
namespace Ham

def synF (w : Nat) : Nat → Nat
  | 0 => 0
  | k + 1 => bif w.testBit k then synF w k ^^^ k else synF w k
def wtF (w : Nat) : Nat → Nat
  | 0 => 0
  | k + 1 => bif w.testBit k then wtF w k + 1 else wtF w k
def oddF (w : Nat) : Nat → Bool
  | 0 => false
  | k + 1 => bif w.testBit k then !oddF w k else oddF w k
def place (k : Nat) : Nat := [3, 5, 6, 7, 9, 10, 11, 12].getD k 0
def e1F (n : Nat) : Nat → Nat
  | 0 => 0
  | k + 1 => bif n.testBit k then e1F n k ||| 2 ^ place k else e1F n k
def e2F (x w : Nat) : Nat → Nat
  | 0 => w
  | k + 1 => bif x.testBit k then e2F x w k ||| 2 ^ 2 ^ k else e2F x w k
def syn (w : Nat) : Nat := synF w 13
def wt (w : Nat) : Nat := wtF w 13
def odd (w : Nat) : Bool := oddF w 13
def encA (n : Nat) : Nat := e1F n 8
def encB (n : Nat) : Nat := e2F (syn (encA n)) (encA n) 4
def enc (n : Nat) : Nat := encB n ||| (wt (encB n) % 2)
def byF (w : Nat) : Nat → Nat
  | 0 => 0
  | k + 1 => byF w k ||| (w / 2 ^ place k % 2) * 2 ^ k
def byt (w : Nat) : Nat := byF w 8
def decN (w : Nat) : Nat := if syn w = 0 ∧ odd w = false then byt w else if odd w = true ∧ syn w ≤ 12 then byt (w ^^^ 2 ^ syn w) else 0
def decC (w : Nat) : Nat := if syn w = 0 ∧ odd w = false then 0 else if odd w = true ∧ syn w ≤ 12 then 1 else 2
/-- As the specification lays the bits. -/
def s1F (n : Nat) : Nat → Nat
  | 0 => 0
  | k + 1 => s1F n k ||| (n / 2 ^ k % 2) * 2 ^ place k
def wtG : Nat → Nat → Nat
  | 0, _ => 0
  | f + 1, w => w % 2 + wtG f (w / 2)

theorem tb_mod (w k : Nat) : w.testBit k = decide (w / 2 ^ k % 2 = 1) := Nat.testBit_eq_decide_div_mod_eq
theorem s1_e1 (n : Nat) : ∀ k, s1F n k = e1F n k
  | 0 => rfl
  | k + 1 => by
    simp only [s1F, e1F, s1_e1 n k, tb_mod]
    rcases Nat.mod_two_eq_zero_or_one (n / 2 ^ k) with h | h <;> simp [h]
theorem odd_wt (w : Nat) : ∀ k, oddF w k = decide (wtF w k % 2 = 1)
  | 0 => rfl
  | k + 1 => by
    simp only [oddF, wtF, odd_wt w k]
    rcases Bool.eq_false_or_eq_true (w.testBit k) with q | q <;> simp only [q, cond_true, cond_false]
    rcases Nat.mod_two_eq_zero_or_one (wtF w k) with h | h
    · have : (wtF w k + 1) % 2 = 1 := by omega
      simp [h, this]
    · have : (wtF w k + 1) % 2 = 0 := by omega
      simp [h, this]
theorem wt_div (w : Nat) : ∀ f k, wtF w (k + f) = wtF w k + wtG f (w / 2 ^ k)
  | 0, k => by simp [wtG]
  | f + 1, k => by
    have h := wt_div w f (k + 1)
    rw [show k + (f + 1) = k + 1 + f by omega, h]
    simp only [wtF, wtG, tb_mod, Nat.div_div_eq_div_mul, ← Nat.pow_succ]
    rcases Nat.mod_two_eq_zero_or_one (w / 2 ^ k) with h | h <;> simp [h]
    omega
theorem wtG_wt (w : Nat) : wtG 13 w = wt w := by
  have := wt_div w 13 0
  simp only [Nat.zero_add, Nat.pow_zero, Nat.div_one] at this
  rw [wt, this]; simp [wtF]
theorem wtF_le (w : Nat) : ∀ k, wtF w k ≤ k
  | 0 => Nat.le_refl _
  | k + 1 => by
    have := wtF_le w k
    simp only [wtF]
    cases w.testBit k <;> simp <;> omega
theorem wt_le (w : Nat) : wt w ≤ 13 := wtF_le w 13
theorem synF_lt (w : Nat) : ∀ k, k ≤ 16 → synF w k < 16
  | 0, _ => by simp [synF]
  | k + 1, h => by
    have h1 := synF_lt w k (by omega)
    simp only [synF]
    cases w.testBit k
    · exact h1
    · exact Nat.xor_lt_two_pow (n := 4) h1 (by omega)
theorem syn_lt (w : Nat) : syn w < 16 := synF_lt w 13 (by omega)
theorem place_lt (k : Nat) : place k < 13 := by
  rcases (by omega : k = 0 ∨ k = 1 ∨ k = 2 ∨ k = 3 ∨ k = 4 ∨ k = 5 ∨ k = 6 ∨ k = 7 ∨ 8 ≤ k) with rfl | rfl | rfl | rfl | rfl | rfl | rfl | rfl | h
  all_goals first | decide | skip
  unfold place
  rw [List.getD_eq_getElem?_getD, List.getElem?_eq_none (by simpa using h)]; decide
theorem e1F_lt (n : Nat) : ∀ k, e1F n k < 8192
  | 0 => by simp [e1F]
  | k + 1 => by
    have h1 := e1F_lt n k
    simp only [e1F]
    cases n.testBit k
    · exact h1
    · exact Nat.or_lt_two_pow (n := 13) h1 (Nat.pow_lt_pow_right (by omega) (place_lt k))
theorem encA_lt (n : Nat) : encA n < 8192 := e1F_lt n 8
theorem e2F_lt (x : Nat) {w : Nat} (hw : w < 8192) : ∀ k, k ≤ 4 → e2F x w k < 8192
  | 0, _ => hw
  | k + 1, h => by
    have h1 := e2F_lt x hw k (by omega)
    simp only [e2F]
    cases x.testBit k
    · exact h1
    · refine Nat.or_lt_two_pow (n := 13) h1 ?_
      rcases (by omega : k = 0 ∨ k = 1 ∨ k = 2 ∨ k = 3) with rfl | rfl | rfl | rfl <;> decide
theorem encB_lt (n : Nat) : encB n < 8192 := e2F_lt _ (encA_lt n) 4 (by omega)
theorem enc_lt (n : Nat) : enc n < 8192 := Nat.or_lt_two_pow (n := 13) (encB_lt n) (by omega)
theorem tb_hi {n k : Nat} (j : Nat) (h : n < 2 ^ j) (hk : j ≤ k) : n.testBit k = false := Nat.testBit_lt_two_pow (Nat.lt_of_lt_of_le h (Nat.pow_le_pow_right (by omega) hk))
theorem e1F_more {n : Nat} (h : n < 256) : ∀ k, 8 ≤ k → e1F n k = encA n
  | 0, h => by omega
  | k + 1, hk => by
    by_cases e : k + 1 = 8
    · rw [e]; rfl
    · simp only [e1F, tb_hi 8 (n := n) (k := k) h (by omega), cond_false]
      exact e1F_more h k (by omega)
theorem e2F_more {x w : Nat} (h : x < 16) : ∀ k, 4 ≤ k → e2F x w k = e2F x w 4
  | 0, h => by omega
  | k + 1, hk => by
    by_cases e : k + 1 = 4
    · rw [e]
    · simp only [e2F, tb_hi 4 (n := x) (k := k) h (by omega), cond_false]
      exact e2F_more h k (by omega)
theorem byF_lt (w : Nat) : ∀ k, byF w k < 2 ^ k
  | 0 => by simp [byF]
  | k + 1 => by
    have h1 : byF w k < 2 ^ (k + 1) := Nat.lt_of_lt_of_le (byF_lt w k) (Nat.pow_le_pow_right (by omega) (by omega))
    refine Nat.or_lt_two_pow h1 ?_
    rcases Nat.mod_two_eq_zero_or_one (w / 2 ^ place k) with h | h
    · rw [h]; simp; exact Nat.two_pow_pos _
    · rw [h, Nat.one_mul]; exact Nat.pow_lt_pow_right (by omega) (by omega)
theorem byt_lt (w : Nat) : byt w < 256 := byF_lt w 8
theorem decN_lt (w : Nat) : decN w < 256 := by
  unfold decN
  split
  · exact byt_lt _
  · split
    · exact byt_lt _
    · omega
theorem decC_le (w : Nat) : decC w ≤ 2 := by
  unfold decC
  split
  · omega
  · split <;> omega
theorem turn_lt {w : Nat} (hw : w < 8192) (h : syn w ≤ 12) : w ^^^ 2 ^ syn w < 8192 := Nat.xor_lt_two_pow (n := 13) hw (Nat.pow_lt_pow_right (by omega) (by omega))

/-- All numbers below n. -/
def allB (p : Nat → Bool) : Nat → Bool
  | 0 => true
  | n + 1 => p n && allB p n
theorem allB_of {p : Nat → Bool} : ∀ {n k : Nat}, allB p n = true → k < n → p k = true
  | n + 1, k, h, hk => by
    simp only [allB, Bool.and_eq_true] at h
    by_cases e : k = n
    · rw [e]; exact h.1
    · exact allB_of h.2 (by omega)
set_option maxRecDepth 100000 in
theorem back_all : allB (fun n => decN (enc n) == n && decC (enc n) == 0 && allB (fun k => decN (enc n ^^^ 2 ^ k) == n && decC (enc n ^^^ 2 ^ k) == 1) 13) 256 = true := by decide +kernel
theorem back {n : Nat} (h : n < 256) : decN (enc n) = n ∧ decC (enc n) = 0 := by
  have := allB_of back_all h
  simp only [Bool.and_eq_true, beq_iff_eq] at this
  exact this.1
theorem back1 {n k : Nat} (h : n < 256) (hk : k < 13) : decN (enc n ^^^ 2 ^ k) = n ∧ decC (enc n ^^^ 2 ^ k) = 1 := by
  have := allB_of back_all h
  simp only [Bool.and_eq_true, beq_iff_eq] at this
  have := allB_of this.2 hk
  simpa using this
end Ham
end Go.Proofs.YtapkaeamiplhgaaDoor
