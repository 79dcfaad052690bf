import Derived.Test.YtdbmdblghlfjfaaP3
/- Pieces cut at a block of the file. -/
namespace Go.Proofs.Ytdbmdblghlfjfaa.Mp
set_option linter.unusedVariables false

/-- How many pieces begin ahead of a block, from the first on. -/
def lbF (t : Int) : List Pc → Nat
  | [] => 0
  | p :: l => if p.f < t then lbF t l + 1 else 0
theorem lbF_le (t : Int) : ∀ l, lbF t l ≤ l.length
  | [] => by simp [lbF]
  | p :: l => by
    unfold lbF
    split
    · have := lbF_le t l; simp; omega
    · simp
theorem lbF_first {t : Int} : ∀ {l : List Pc} {k : Nat}, k ≤ l.length → (∀ i, i < k → (gp l i).f < t) → (k < l.length → ¬ (gp l k).f < t) → lbF t l = k
  | [], k, hk, _, _ => by simp at hk; subst hk; rfl
  | p :: l, 0, _, _, h => by
    have := h (by simp)
    simp [gp] at this
    simp [lbF]
    omega
  | p :: l, k + 1, hk, h1, h2 => by
    have h0 := h1 0 (by omega)
    simp [gp] at h0
    have ih := lbF_first (t := t) (l := l) (k := k) (by simpa using hk) (fun i hi => by have := h1 (i + 1) (by omega); simpa [gp] using this) (fun hk' => by have := h2 (by simpa using hk'); simpa [gp] using this)
    simp [lbF, h0, ih]
theorem lbF_lt {t : Int} : ∀ {l : List Pc} {i : Nat}, i < lbF t l → (gp l i).f < t
  | [], i, h => by simp [lbF] at h
  | p :: l, 0, h => by
    unfold lbF at h
    split at h
    · simpa [gp]
    · omega
  | p :: l, i + 1, h => by
    unfold lbF at h
    split at h
    · have := lbF_lt (t := t) (l := l) (i := i) (by omega)
      simpa [gp] using this
    · omega
theorem lbF_ge {t : Int} : ∀ {l : List Pc}, lbF t l < l.length → ¬ (gp l (lbF t l)).f < t
  | [], h => by simp at h
  | p :: l, h => by
    unfold lbF at h ⊢
    split
    · next hp =>
      rw [if_pos hp] at h
      have := lbF_ge (t := t) (l := l) (by simpa using h)
      simpa [gp] using this
    · next hp => simpa [gp] using hp
def lft (t : Int) (p : Pc) : Pc := ⟨p.f, t - p.f, p.a, p.z⟩
def rgt (t : Int) (p : Pc) : Pc := ⟨t, p.n - (t - p.f), p.a + (t - p.f), p.z⟩
/-- What of a piece lies ahead of a block, and what does not. -/
def ahd (t : Int) (p : Pc) : List Pc := if p.f + p.n ≤ t then [p] else if p.f < t then [lft t p] else []
def bhd (t : Int) (p : Pc) : List Pc := if p.f + p.n ≤ t then [] else if p.f < t then [rgt t p] else [p]
def cutA (t : Int) (l : List Pc) : List Pc := l.flatMap (ahd t)
def cutB (t : Int) (l : List Pc) : List Pc := l.flatMap (bhd t)
/-- Pieces as said that rise in the file and do not overlap there. -/
def Rs (l : List Pc) : Prop := (∀ p, p ∈ l → pok p) ∧ l.Pairwise fun p q => p.f + p.n ≤ q.f
theorem all_ahead {t : Int} : ∀ {l : List Pc}, (∀ p, p ∈ l → p.f + p.n ≤ t) → cutA t l = l ∧ cutB t l = []
  | [], _ => ⟨rfl, rfl⟩
  | p :: l, h => by
    have ih := all_ahead (t := t) (l := l) (fun q hq => h q (by simp [hq]))
    have hp := h p (by simp)
    unfold cutA cutB at *
    rw [List.flatMap_cons, List.flatMap_cons, ih.1, ih.2]
    simp [ahd, bhd, hp]
theorem all_behind {t : Int} : ∀ {l : List Pc}, (∀ p, p ∈ l → ¬ p.f < t ∧ 1 ≤ p.n) → cutA t l = [] ∧ cutB t l = l
  | [], _ => ⟨rfl, rfl⟩
  | p :: l, h => by
    have ih := all_behind (t := t) (l := l) (fun q hq => h q (by simp [hq]))
    have hp := h p (by simp)
    have h1 : ¬ p.f + p.n ≤ t := by omega
    unfold cutA cutB at *
    rw [List.flatMap_cons, List.flatMap_cons, ih.1, ih.2]
    simp [ahd, bhd, h1, hp.1]
theorem cutA_app (t : Int) (l m : List Pc) : cutA t (l ++ m) = cutA t l ++ cutA t m := by simp [cutA]
theorem cutB_app (t : Int) (l m : List Pc) : cutB t (l ++ m) = cutB t l ++ cutB t m := by simp [cutB]
theorem Rs.lt {l : List Pc} (h : Rs l) {i j : Nat} (hij : i < j) (hj : j < l.length) : (gp l i).f + (gp l i).n ≤ (gp l j).f := by
  have := List.pairwise_iff_getElem.1 h.2 i j (by omega) hj hij
  rwa [gp_eq (by omega), gp_eq hj]
theorem Rs.ok {l : List Pc} (h : Rs l) {i : Nat} (hi : i < l.length) : pok (gp l i) := h.1 _ (gp_mem hi)
theorem mem_take_gp {l : List Pc} {k : Nat} {p : Pc} (h : p ∈ l.take k) : ∃ i, i < k ∧ i < l.length ∧ p = gp l i := by
  obtain ⟨i, hi, rfl⟩ := List.getElem_of_mem h
  simp at hi
  exact ⟨i, by omega, by omega, by rw [gp_eq (by omega)]; simp⟩
theorem mem_drop_gp {l : List Pc} {k : Nat} {p : Pc} (h : p ∈ l.drop k) : ∃ i, k ≤ i ∧ i < l.length ∧ p = gp l i := by
  obtain ⟨i, hi, rfl⟩ := List.getElem_of_mem h
  simp at hi
  exact ⟨k + i, by omega, by omega, by rw [gp_eq (by omega)]; simp⟩
theorem drop_behind {l : List Pc} (h : Rs l) {t : Int} : ∀ p, p ∈ l.drop (lbF t l) → ¬ p.f < t ∧ 1 ≤ p.n := by
  intro p hp
  obtain ⟨i, h1, h2, rfl⟩ := mem_drop_gp hp
  have hok := h.ok h2
  have h0 := lbF_ge (t := t) (l := l) (by omega)
  have hk := h.ok (i := lbF t l) (by omega)
  unfold pok at hok hk
  refine ⟨?_, by omega⟩
  by_cases e : i = lbF t l
  · rw [e]; exact h0
  · have := h.lt (i := lbF t l) (j := i) (by omega) h2
    omega
theorem cut_clean {l : List Pc} (h : Rs l) {t : Int} (hk : lbF t l = 0 ∨ (gp l (lbF t l - 1)).f + (gp l (lbF t l - 1)).n ≤ t) : cutA t l = l.take (lbF t l) ∧ cutB t l = l.drop (lbF t l) := by
  have hle := lbF_le t l
  have h1 := all_behind (t := t) (drop_behind h)
  have h2 := all_ahead (t := t) (l := l.take (lbF t l)) (fun p hp => by
    obtain ⟨i, hi, hl, rfl⟩ := mem_take_gp hp
    rcases hk with hk | hk
    · omega
    · by_cases e : i = lbF t l - 1
      · rw [e]; exact hk
      · have := h.lt (i := i) (j := lbF t l - 1) (by omega) (by omega)
        have := lbF_lt (t := t) (l := l) (i := lbF t l - 1) (by omega)
        omega)
  have e : cutA t (l.take (lbF t l) ++ l.drop (lbF t l)) = l.take (lbF t l) ∧ cutB t (l.take (lbF t l) ++ l.drop (lbF t l)) = l.drop (lbF t l) := by
    rw [cutA_app, cutB_app, h1.1, h1.2, h2.1, h2.2]
    simp
  rwa [List.take_append_drop] at e
theorem cut_half {l : List Pc} (h : Rs l) {t : Int} {k : Nat} (hk : lbF t l = k + 1) (hc : t < (gp l k).f + (gp l k).n) : cutA t l = l.take k ++ [lft t (gp l k)] ∧ cutB t l = rgt t (gp l k) :: l.drop (k + 1) := by
  have hle := lbF_le t l
  have hkl : k < l.length := by omega
  have hlt := lbF_lt (t := t) (l := l) (i := k) (by omega)
  have h1 := all_behind (t := t) (drop_behind h)
  rw [hk] at h1
  have h2 := all_ahead (t := t) (l := l.take k) (fun p hp => by
    obtain ⟨i, hi, hl, rfl⟩ := mem_take_gp hp
    have := h.lt (i := i) (j := k) (by omega) (by omega)
    omega)
  have hx : ¬ (gp l k).f + (gp l k).n ≤ t := by omega
  have e0 : l = l.take k ++ [gp l k] ++ l.drop (k + 1) := by
    rw [← take_gp hkl, List.take_append_drop]
  have ea : cutA t [gp l k] = [lft t (gp l k)] := by simp [cutA, ahd, hx, hlt]
  have eb : cutB t [gp l k] = [rgt t (gp l k)] := by simp [cutB, bhd, hx, hlt]
  have e : cutA t (l.take k ++ [gp l k] ++ l.drop (k + 1)) = l.take k ++ [lft t (gp l k)] ∧ cutB t (l.take k ++ [gp l k] ++ l.drop (k + 1)) = rgt t (gp l k) :: l.drop (k + 1) := by
    rw [cutA_app, cutA_app, cutB_app, cutB_app, h1.1, h1.2, h2.1, h2.2, ea, eb]
    simp
  rwa [← e0] at e
theorem GM.rs {l : List Pc} (h : GM l) : Rs l := by
  refine ⟨h.apart.1, ?_⟩
  rw [List.pairwise_iff_getElem]
  intro i j hi hj hij
  have := rise_lt h.2 hij hj
  rwa [gp_eq hi, gp_eq hj] at this
end Go.Proofs.Ytdbmdblghlfjfaa.Mp
