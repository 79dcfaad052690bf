import Derived.Test.YtfphffbclpmobaaM4
/- Open vaults, pure: which are good. -/
namespace Go.Proofs.Ytfphffbclpmobaa
open Go.ChangeShapes Go.WideShapes Go.ChangeAt Go.RowKit
set_option linter.unusedVariables false
open Hd

attribute [local go_sem] Oper.semAt_some

/-- How often a text stands in a list. -/
def cB (x : ByteArray) : List ByteArray → Nat
  | [] => 0
  | t :: l => (if t = x then 1 else 0) + cB x l
/-- The map of stocks behind so many pieces, and how many entries it has. -/
def g1 (L : List Nm) : Nat → SG × Nat
  | 0 => (fun _ => none, 0)
  | k + 1 => (upG (g1 L k).1 (gm L k).nm (some ((k : Int), 0)), if ((g1 L k).1 (gm L k).nm).isSome then (g1 L k).2 else (g1 L k).2 + 1)
/-- Behind so many files too. -/
def adF (s : SG × Nat) (L : List Nm) (F : List (List Int)) : Nat → SG × Nat
  | 0 => s
  | j + 1 => adL (adF s L F j) (txs L (gf F j))
/-- An open vault's stocks. -/
def oG (u : Va) : SG × Nat := adF (g1 u.pc u.pc.length) u.pc u.fs u.fs.length
/-- The last piece with a text. -/
def lastI (L : List Nm) : Nat → ByteArray → Option Nat
  | 0, _ => none
  | k + 1, x => if (gm L k).nm = x then some k else lastI L k x
theorem g1_is (L : List Nm) (x : ByteArray) : ∀ k, (g1 L k).1 x = (lastI L k x).map fun i => ((i : Int), (0 : Int)) := by
  intro k
  induction k with
  | zero => rfl
  | succ k ih =>
    rw [g1, lastI]
    simp only [upG]
    by_cases e : x = (gm L k).nm
    · rw [if_pos e, if_pos e.symm]; rfl
    · rw [if_neg e, if_neg (fun h => e h.symm)]; exact ih
theorem lastI_some {L : List Nm} {k i : Nat} {x : ByteArray} (h : lastI L k x = some i) : i < k ∧ (gm L i).nm = x ∧ ∀ j, i < j → j < k → (gm L j).nm ≠ x := by
  induction k with
  | zero => cases h
  | succ k ih =>
    rw [lastI] at h
    split at h
    · rename_i e
      simp at h
      subst h
      exact ⟨by omega, e, fun j h1 h2 => by omega⟩
    · rename_i e
      obtain ⟨h1, h2, h3⟩ := ih h
      refine ⟨by omega, h2, fun j g1 g2 => ?_⟩
      by_cases q : j = k
      · subst q; exact e
      · exact h3 j g1 (by omega)
theorem lastI_ex {L : List Nm} {k i : Nat} (h : i < k) : ∃ j, lastI L k (gm L i).nm = some j ∧ i ≤ j := by
  induction k with
  | zero => omega
  | succ k ih =>
    rw [lastI]
    split
    · exact ⟨k, rfl, by omega⟩
    · rename_i e
      by_cases q : i = k
      · subst q; exact absurd rfl e
      · exact ih (by omega)
theorem adL_present : ∀ (l : List ByteArray) (s : SG × Nat), (∀ t, t ∈ l → (s.1 t).isSome = true) → (adL s l).2 = s.2 ∧ ∀ x, (adL s l).1 x = (s.1 x).map fun p => (p.1, p.2 + (cB x l : Int)) := by
  intro l
  induction l with
  | nil =>
    intro s _
    refine ⟨rfl, fun x => ?_⟩
    show s.1 x = _
    cases s.1 x <;> simp [cB]
  | cons t l ih =>
    intro s h
    obtain ⟨⟨p, q⟩, hpq⟩ := Option.isSome_iff_exists.1 (h t (by simp))
    have e : ad1 s t = (upG s.1 t (some (p, q + 1)), s.2) := by unfold ad1; rw [hpq]
    have h' : ∀ t', t' ∈ l → ((ad1 s t).1 t').isSome = true := fun t' ht' => by
      rw [e]
      simp only [upG]
      split
      · rfl
      · exact h t' (by simp [ht'])
    obtain ⟨h1, h2⟩ := ih (ad1 s t) h'
    refine ⟨by rw [show adL s (t :: l) = adL (ad1 s t) l from rfl, h1, e], fun x => ?_⟩
    rw [show adL s (t :: l) = adL (ad1 s t) l from rfl, h2, e]
    simp only [upG]
    by_cases q1 : x = t
    · subst q1
      rw [if_pos rfl, hpq, cB, if_pos rfl]
      simp
      omega
    · rw [if_neg q1, cB, if_neg (fun h => q1 h.symm), Nat.zero_add]
/-- How many texts of the first files are like one. -/
def tcF (L : List Nm) (F : List (List Int)) : Nat → ByteArray → Nat
  | 0, _ => 0
  | j + 1, x => tcF L F j x + cB x (txs L (gf F j))
theorem txs_mem {L : List Nm} {l : List Int} {t : ByteArray} (hl : fOk L.length l) (h : t ∈ txs L l) : ∃ i, i < L.length ∧ (gm L i).nm = t := by
  unfold txs at h
  rw [List.mem_map] at h
  obtain ⟨x, hx, rfl⟩ := h
  obtain ⟨i, hi, rfl⟩ := List.mem_iff_getElem.1 hx
  have := hl.1 i hi
  rw [gi_eq hi] at this
  exact ⟨_, by omega, rfl⟩
theorem adF_is (L : List Nm) (F : List (List Int)) : ∀ j, j ≤ F.length → (∀ i, i < j → fOk L.length (gf F i)) → (adF (g1 L L.length) L F j).2 = (g1 L L.length).2 ∧ ∀ x, (adF (g1 L L.length) L F j).1 x = (lastI L L.length x).map fun i => ((i : Int), (tcF L F j x : Int)) := by
  intro j
  induction j with
  | zero =>
    intro _ _
    refine ⟨rfl, fun x => ?_⟩
    rw [adF, g1_is]
    rfl
  | succ j ih =>
    intro hj hf
    obtain ⟨h1, h2⟩ := ih (by omega) (fun i hi => hf i (by omega))
    rw [adF]
    obtain ⟨h3, h4⟩ := adL_present (txs L (gf F j)) (adF (g1 L L.length) L F j) (fun t ht => by
      obtain ⟨i, hi, rfl⟩ := txs_mem (hf j (by omega)) ht
      obtain ⟨i', e, -⟩ := lastI_ex (L := L) hi
      rw [h2, e]
      rfl)
    refine ⟨by rw [h3, h1], fun x => ?_⟩
    rw [h4, h2, tcF]
    cases lastI L L.length x <;> simp
/-- No two pieces alike. -/
def Dis (L : List Nm) : Prop := ∀ i j, j < i → i < L.length → (gm L j).nm ≠ (gm L i).nm
theorem count_txs {L : List Nm} (hd : Dis L) {i : Nat} (hi : i < L.length) : ∀ l : List Int, (∀ x, x ∈ l → 0 ≤ x ∧ x < L.length) → cB (gm L i).nm (txs L l) = l.count (i : Int) := by
  intro l
  induction l with
  | nil => intro _; rfl
  | cons x l ih =>
    intro h
    have hx := h x (by simp)
    have e := ih (fun y hy => h y (by simp [hy]))
    show cB (gm L i).nm ((gm L x.toNat).nm :: txs L l) = _
    by_cases q : x = (i : Int)
    · subst q
      rw [Int.toNat_natCast, List.count_cons_self, cB, if_pos rfl, e]
      omega
    · rw [List.count_cons_of_ne q, cB, e, if_neg, Nat.zero_add]
      intro hh
      have hne : x.toNat ≠ i := by omega
      rcases Nat.lt_or_gt_of_ne hne with h1 | h1
      · exact hd i x.toNat h1 hi hh
      · exact hd x.toNat i h1 (by omega) hh.symm
theorem fOk_mem {n : Nat} {l : List Int} (h : fOk n l) : ∀ x, x ∈ l → 0 ≤ x ∧ x < n := fun x hx => by
  obtain ⟨i, hi, rfl⟩ := List.mem_iff_getElem.1 hx
  have := h.1 i hi
  rwa [gi_eq hi] at this
theorem tcF_tf {L : List Nm} (hd : Dis L) {F : List (List Int)} {i : Nat} (hi : i < L.length) : ∀ j, j ≤ F.length → (∀ r, r < j → fOk L.length (gf F r)) → tcF L F j (gm L i).nm = tf F j i := by
  intro j
  induction j with
  | zero => intro _ _; rfl
  | succ j ih =>
    intro hj hf
    rw [tcF, tf, ih (by omega) (fun r hr => hf r (by omega)), count_txs hd hi _ (fOk_mem (hf j (by omega)))]
theorem open_good {u : Va} (hf : ∀ j, j < u.fs.length → fOk u.pc.length (gf u.fs j)) : (∀ i, i < u.pc.length → kOk (oG u).1 u.pc i) ↔ ∀ i, i < u.pc.length → pOk u i := by
  have hA := (adF_is u.pc u.fs u.fs.length (Nat.le_refl _) hf).2
  constructor
  · intro h
    have hL : ∀ i, i < u.pc.length → lastI u.pc u.pc.length (gm u.pc i).nm = some i ∧ (tcF u.pc u.fs u.fs.length (gm u.pc i).nm : Int) = (gm u.pc i).fl := fun i hi => by
      have h1 := (h i hi).2.2
      rw [oG, hA] at h1
      obtain ⟨j, e, -⟩ := lastI_ex (L := u.pc) hi
      rw [e] at h1 ⊢
      simp at h1
      obtain ⟨h1, h2⟩ := h1
      have : j = i := by omega
      rw [this]
      exact ⟨rfl, h2⟩
    have hd : Dis u.pc := fun i j hji hi e => by
      have := (lastI_some (hL j (by omega)).1).2.2 i hji hi
      exact this e.symm
    intro i hi
    obtain ⟨h1, h2, -⟩ := h i hi
    refine ⟨h1, fun j hj => hd i j hj hi, ?_, h2⟩
    rw [← (hL i hi).2, tcF_tf hd hi _ (Nat.le_refl _) hf]
  · intro h
    have hd : Dis u.pc := fun i j hji hi => (h i hi).2.1 j hji
    intro i hi
    obtain ⟨h1, h2, h3, h4⟩ := h i hi
    refine ⟨h1, h4, ?_⟩
    rw [oG, hA]
    obtain ⟨j, e, hij⟩ := lastI_ex (L := u.pc) hi
    have hj := lastI_some e
    have : j = i := by
      rcases Nat.lt_or_ge i j with q | q
      · exact absurd hj.2.1.symm (hd j i q hj.1)
      · omega
    rw [e, this, tcF_tf hd hi _ (Nat.le_refl _) hf, h3]
    rfl
theorem Qs.g1 (L : List Nm) (k : Nat) : Qs (Go.Proofs.Ytfphffbclpmobaa.g1 L k).1 0 := by
  intro x p q h
  rw [g1_is] at h
  cases e : lastI L k x with
  | none => rw [e] at h; cases h
  | some i => rw [e] at h; simp at h; omega
theorem g1_len (L : List Nm) : ∀ k, (g1 L k).2 ≤ k := by
  intro k
  induction k with
  | zero => exact Nat.le_refl _
  | succ k ih => rw [g1]; simp only; split <;> omega
end Go.Proofs.Ytfphffbclpmobaa
