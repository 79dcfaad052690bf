import Derived.Test.YtfmgaenedkjmkaaU2
import Derived.Test.YtfmgaenedkjmkaaP5
/- A bucket cut, as slots see it, of no program. -/
namespace Go.Proofs.Ytfmgaenedkjmkaa.Hd
set_option linter.unusedVariables false

/-- Names of a bucket in a place. -/
def okL (q p : Nat) (l : List Nm) : Prop := l.length ≤ 4 ∧ So l ∧ ∀ x ∈ l, isN x.nm = true ∧ isF x.fl = true ∧ low (nh x.nm) q = p
theorem okL_is {q p : Nat} {l : List Nm} : (l.length ≤ 4 ∧ ∀ t, t < l.length → nmI q p l t) ↔ okL q p l := by
  constructor
  · rintro ⟨h1, h2⟩
    refine ⟨h1, so_ris.2 fun i hi h0 => (h2 i hi).2.2.2 h0, fun x hx => ?_⟩
    obtain ⟨i, hi, rfl⟩ := mem_ns hx
    obtain ⟨a, b, c, -⟩ := h2 i hi
    exact ⟨a, b, c⟩
  · rintro ⟨h1, h2, h3⟩
    refine ⟨h1, fun t ht => ?_⟩
    obtain ⟨a, b, c⟩ := h3 (gm l t) (by rw [gm_eq ht]; exact List.getElem_mem ht)
    exact ⟨a, b, c, so_ris.1 h2 t ht⟩
/-- What slots see is good, by lists. -/
theorem gv_is {dp : Int} {n : Nat} {B : Nat → Bk} : GV dp n B ↔ 0 ≤ dp ∧ dp ≤ 8 ∧ n = 2 ^ dp.toNat ∧ ∀ i, i < n → 0 ≤ (B i).dp ∧ (B i).dp ≤ dp ∧ okL (B i).dp.toNat (low i (B i).dp.toNat) (B i).ns ∧ ∀ j, j < n → low i (B i).dp.toNat = low j (B i).dp.toNat → B j = B i := by
  constructor
  · rintro ⟨h1, h2, h3, h4⟩
    refine ⟨h1, h2, h3, fun i hi => ?_⟩
    obtain ⟨a, b, c, e, f⟩ := h4 i hi
    exact ⟨a, b, okL_is.1 ⟨c, e⟩, f⟩
  · rintro ⟨h1, h2, h3, h4⟩
    refine ⟨h1, h2, h3, fun i hi => ?_⟩
    obtain ⟨a, b, c, f⟩ := h4 i hi
    exact ⟨a, b, (okL_is.2 c).1, (okL_is.2 c).2, f⟩
/-- The names of a list that belong to a place. -/
def hf (q p : Nat) (l : List Nm) : List Nm := l.filter fun x => decide (low (nh x.nm) q = p)
theorem ok_half {q p q' p' : Nat} {l : List Nm} (h : okL q p l) : okL q' p' (hf q' p' l) := by
  refine ⟨Nat.le_trans (List.length_filter_le _ _) h.1, List.Pairwise.filter _ h.2.1, fun x hx => ?_⟩
  obtain ⟨h1, h2⟩ := List.mem_filter.1 hx
  obtain ⟨a, b, -⟩ := h.2.2 x h1
  exact ⟨a, b, by simpa using h2⟩
theorem low_succ (i q : Nat) : low i (q + 1) = low i q + 2 ^ q * (i / 2 ^ q % 2) := Nat.mod_pow_succ
theorem low_two (i q : Nat) : low i (q + 1) = low i q ∨ low i (q + 1) = low i q + 2 ^ q := by
  rw [low_succ]
  rcases Nat.mod_two_eq_zero_or_one (i / 2 ^ q) with h | h <;> rw [h] <;> simp
/-- What slots see behind a cut. -/
def vC (B : Nat → Bk) (q p : Nat) (l : List Nm) (i : Nat) : Bk := if low i q = p then (if low i (q + 1) = p then ⟨((q + 1 : Nat) : Int), hf (q + 1) p l⟩ else ⟨((q + 1 : Nat) : Int), hf (q + 1) (p + 2 ^ q) l⟩) else B i
theorem vC_in {B : Nat → Bk} {q p : Nat} {l : List Nm} {i : Nat} (h : low i q = p) : vC B q p l i = ⟨((q + 1 : Nat) : Int), hf (q + 1) (low i (q + 1)) l⟩ := by
  unfold vC
  rw [if_pos h]
  rcases low_two i q with e | e
  · rw [if_pos (e.trans h), e, h]
  · have := Nat.two_pow_pos q
    rw [if_neg (by omega), e, h]
theorem vC_out {B : Nat → Bk} {q p : Nat} {l : List Nm} {i : Nat} (h : ¬ low i q = p) : vC B q p l i = B i := by unfold vC; rw [if_neg h]
theorem gv_cut {dp : Int} {n : Nat} {B : Nat → Bk} (h : GV dp n B) {i0 q : Nat} (h0 : i0 < n) (hq : (B i0).dp = (q : Int)) (hlt : (q : Int) < dp) : GV dp n (vC B q (low i0 q) (B i0).ns) := by
  rw [gv_is] at h ⊢
  obtain ⟨h1, h2, h3, h4⟩ := h
  obtain ⟨-, -, k1, k2⟩ := h4 i0 h0
  have hqn : (B i0).dp.toNat = q := by omega
  rw [hqn] at k1 k2
  refine ⟨h1, h2, h3, fun i hi => ?_⟩
  by_cases e : low i q = low i0 q
  · rw [vC_in e]
    refine ⟨by simp only; omega, by simp only; omega, by simp only [Int.toNat_natCast]; exact ok_half k1, fun j hj ej => ?_⟩
    simp only [Int.toNat_natCast] at ej
    have e' : low j q = low i0 q := by rw [← e, ← low_low (n := j) (Nat.le_succ q), ← low_low (n := i) (Nat.le_succ q), ej]
    rw [vC_in e', ej]
  · rw [vC_out e]
    obtain ⟨a, b, c, f⟩ := h4 i hi
    refine ⟨a, b, c, fun j hj ej => ?_⟩
    have hB := f j hj ej
    have e' : ¬ low j q = low i0 q := fun x => by
      have := k2 j hj x.symm
      rw [hB] at this
      rw [this, hqn] at ej
      exact e (ej.trans x)
    rw [vC_out e', hB]
/-- What slots see when they are doubled. -/
theorem gv_dbl {dp : Int} {n : Nat} {B : Nat → Bk} (h : GV dp n B) (hlt : dp < 8) : GV (dp + 1) (n + n) (fun i => B (low i dp.toNat)) := by
  rw [gv_is] at h ⊢
  obtain ⟨h1, h2, h3, h4⟩ := h
  have hp : (dp + 1).toNat = dp.toNat + 1 := by omega
  refine ⟨by omega, by omega, by rw [hp, Nat.pow_succ, h3]; omega, fun i hi => ?_⟩
  have hi' : low i dp.toNat < n := by rw [h3]; exact low_lt _ _
  obtain ⟨a, b, c, f⟩ := h4 _ hi'
  rw [low_low (by omega)] at c f
  refine ⟨a, by omega, c, fun j hj ej => f _ (by rw [h3]; exact low_lt _ _) ?_⟩
  rw [low_low (by omega)]
  exact ej
end Go.Proofs.Ytfmgaenedkjmkaa.Hd
