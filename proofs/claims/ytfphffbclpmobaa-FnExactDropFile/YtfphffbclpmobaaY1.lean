import Derived.Test.YtfphffbclpmobaaX1
/- Sums over the pieces of a good vault. -/
namespace Go.Proofs.Ytfphffbclpmobaa
open Go.ChangeShapes Go.WideShapes Go.ChangeAt Go.RowKit
set_option linter.unusedVariables false
open Hd

attribute [local go_sem] Oper.semAt_some

/-- A sum over the first so many. -/
def sm (f : Nat → Nat) : Nat → Nat
  | 0 => 0
  | k + 1 => sm f k + f k
theorem sm_congr {f g : Nat → Nat} : ∀ n, (∀ i, i < n → f i = g i) → sm f n = sm g n := by
  intro n
  induction n with
  | zero => intro _; rfl
  | succ n ih => intro h; rw [sm, sm, ih (fun i hi => h i (by omega)), h n (by omega)]
theorem sm_zero : ∀ n, sm (fun _ => 0) n = 0 := by
  intro n
  induction n with
  | zero => rfl
  | succ n ih => rw [sm, ih]
theorem sm_add (f g : Nat → Nat) : ∀ n, sm (fun i => f i + g i) n = sm f n + sm g n := by
  intro n
  induction n with
  | zero => rfl
  | succ n ih => rw [sm, sm, sm, ih]; omega
theorem sm_one {f : Nat → Nat} {k : Nat} : ∀ n, k < n → sm (fun i => if i = k then f i else 0) n = f k := by
  intro n
  induction n with
  | zero => intro h; omega
  | succ n ih =>
    intro h
    rw [sm]
    by_cases e : n = k
    · subst e
      rw [if_pos rfl, sm_congr n (g := fun _ => 0) (fun i hi => if_neg (by omega)), sm_zero, Nat.zero_add]
    · rw [if_neg e, ih (by omega), Nat.add_zero]
theorem sm_le {f : Nat → Nat} {M : Nat} : ∀ n, (∀ i, i < n → f i ≤ M) → sm f n ≤ n * M := by
  intro n
  induction n with
  | zero => intro _; simp [sm]
  | succ n ih =>
    intro h
    have := ih (fun i hi => h i (by omega))
    have := h n (by omega)
    rw [sm, Nat.succ_mul]
    omega
theorem sm_step {f g : Nat → Nat} {k : Nat} {n : Nat} (hk : k < n) (h1 : f k = 0) (h2 : ∀ i, i < n → i ≠ k → g i = f i) : sm g n = sm f n + g k := by
  have e := sm_add f (fun i => if i = k then g i else 0) n
  rw [sm_one (f := g) n hk] at e
  rw [← e]
  refine sm_congr n (fun i hi => ?_)
  by_cases q : i = k
  · subst q; simp [h1]
  · simp [q, h2 i hi q]
/-- How many bytes pieces have, and how many texts of files have. -/
def pz (u : Va) (i : Nat) : Nat := (gm u.pc i).nm.size
def kz (u : Va) : Nat := sm (pz u) u.pc.length
def az (u : Va) : Nat := sm (fun i => pz u i * tf u.fs u.fs.length i) u.pc.length
theorem cz_sum {L : List Nm} : ∀ (l : List Int), (∀ x, x ∈ l → 0 ≤ x ∧ x < L.length) → cz (txs L l) l.length = sm (fun i => (gm L i).nm.size * l.count (i : Int)) L.length := by
  have key : ∀ (l : List Int) (k : Nat), k ≤ l.length → (∀ x, x ∈ l → 0 ≤ x ∧ x < L.length) → cz (txs L l) k = sm (fun i => (gm L i).nm.size * pn l k i) L.length := by
    intro l k
    induction k with
    | zero =>
      intro _ _
      rw [cz, sm_congr _ (g := fun _ => 0) (fun i _ => by rw [pn_zero, Nat.mul_zero]), sm_zero]
    | succ k ih =>
      intro hk h
      rw [cz, ih (by omega) h, txs_at _ (by omega)]
      have hx := h (gi l k) (by rw [gi_eq (by omega)]; exact List.getElem_mem _)
      obtain ⟨x, hx0⟩ : ∃ x : Nat, gi l k = (x : Int) := ⟨(gi l k).toNat, by omega⟩
      rw [hx0] at hx ⊢
      rw [Int.toNat_natCast, ← sm_one (f := fun i => (gm L i).nm.size) (k := x) L.length (by omega), ← sm_add]
      refine sm_congr _ (fun i hi => ?_)
      rw [pn_succ (by omega), hx0]
      by_cases e : i = x
      · subst e; simp [Nat.mul_add]
      · have : ¬ ((x : Int) = (i : Int)) := by omega
        simp [e, this]
  intro l h
  rw [key l l.length (Nat.le_refl _) h]
  exact sm_congr _ (fun i _ => by rw [pn_all])
/-- How many bytes the first files have. -/
def fz (u : Va) : Nat → Nat
  | 0 => 0
  | j + 1 => fz u j + cz (txs u.pc (gf u.fs j)) (txs u.pc (gf u.fs j)).length
theorem fz_is {u : Va} (hg : GV u) : ∀ j, j ≤ u.fs.length → fz u j = sm (fun i => pz u i * tf u.fs j i) u.pc.length := by
  intro j
  induction j with
  | zero =>
    intro _
    rw [fz, sm_congr _ (g := fun _ => 0) (fun i _ => by rw [tf, Nat.mul_zero]), sm_zero]
  | succ j ih =>
    intro hj
    rw [fz, ih (by omega), txs_len, cz_sum _ (fOk_mem (hg.2.1 j (by omega))), ← sm_add]
    refine sm_congr _ (fun i _ => ?_)
    show _ = pz u i * (tf u.fs j i + (gf u.fs j).count (i : Int))
    rw [Nat.mul_add]
    rfl
theorem good_dis {u : Va} (hg : GV u) : Dis u.pc := fun i j hji hi => (hg.2.2 i hi).2.1 j hji
/-- What a good vault's map of stocks tells. -/
theorem good_at {u : Va} (hg : GV u) {i : Nat} (hi : i < u.pc.length) : (oG u).1 (gm u.pc i).nm = some ((i : Int), (gm u.pc i).fl) := ((open_good hg.2.1).2 hg.2.2 i hi).2.2
theorem good_in {u : Va} (hg : GV u) {x : ByteArray} (h : ((oG u).1 x).isSome = true) : ∃ i, i < u.pc.length ∧ (gm u.pc i).nm = x := by
  rw [oG, (adF_is u.pc u.fs u.fs.length (Nat.le_refl _) hg.2.1).2] at h
  cases e : lastI u.pc u.pc.length x with
  | none => rw [e] at h; cases h
  | some i => exact ⟨i, (lastI_some e).1, (lastI_some e).2.1⟩
end Go.Proofs.Ytfphffbclpmobaa
