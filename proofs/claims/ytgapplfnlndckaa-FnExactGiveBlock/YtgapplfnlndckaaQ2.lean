import Derived.Test.YtgapplfnlndckaaQ1
/- What holds while a block comes together with its buddies, and what GiveBlock answers. -/
namespace Go.Proofs.Ytgapplfnlndckaa
open Go.ChangeShapes Go.WideShapes Go.ChangeAt Go.RowKit
set_option linter.unusedVariables false
open Room

/-- Two blocks apart. -/
def apa (x y : Ex) : Prop := fin x ≤ y.1 ∨ fin y ≤ x.1
theorem apa_of_dis {F U : List Ex} (h : dis F U) {x y : Ex} (hx : x ∈ F) (hy : y ∈ U) : apa x y := by
  have := h x hx y hy
  unfold apa
  omega
theorem apa_lst {e m : Int} {l : List Ex} (h : lst e m l = true) {x y : Ex} (hx : x ∈ l) (hy : y ∈ l) (hne : x ≠ y) : apa x y := by
  obtain ⟨i, hi, rfl⟩ := List.getElem_of_mem hx
  obtain ⟨j, hj, rfl⟩ := List.getElem_of_mem hy
  rcases Nat.lt_trichotomy i j with q | q | q
  · left; have := rise_at h hi hj q; rwa [gx_eq hi] at this
  · subst q; exact absurd rfl hne
  · right; have := rise_at h hj hi q; rwa [gx_eq hj] at this
/-- What holds behind each step. -/
structure Gi (b : Int) (F U : List Ex) (x0 : Ex) (L : List Ex) (x : Ex) : Prop where
  bl : isB x = true
  en : fin x ≤ pw b
  so : So ltP L
  sub : ∀ y, y ∈ L → y ∈ F
  ap : ∀ y, y ∈ L → apa y x
  us : ∀ u, u ∈ U → u ≠ x0 → apa u x
theorem gi_start {b : Int} {F U : List Ex} (G : Gd b F U) {x0 : Ex} (h : x0 ∈ U) : Gi b F U x0 F x0 :=
  have h1 := lst_mem G.lu h
  ⟨h1.1, by unfold fin; omega, lst_so G.lf, fun _ h => h, fun y hy => apa_of_dis G.ds hy h, fun u hu hne => apa_lst G.lu hu h hne⟩
theorem up_range {x : Ex} (h : isB x = true) : (up x).1 ≤ x.1 ∧ (up x).1 ≤ (bud x).1 ∧ fin (up x) = (up x).1 + 2 * ln x ∧ ((up x).1 = x.1 ∧ (bud x).1 = x.1 + ln x ∨ (up x).1 = (bud x).1 ∧ x.1 = (bud x).1 + ln x) := by
  obtain ⟨o, c, rfl, ho, hc⟩ := half_nat h
  have hb := bud_at h
  have hl : ln (((2 ^ o * c : Nat) : Int), (o : Int)) = pw (o : Int) := rfl
  have hp := pw_pos (o : Int)
  have e1 : fin (up (((2 ^ o * c : Nat) : Int), (o : Int))) = (up (((2 ^ o * c : Nat) : Int), (o : Int))).1 + 2 * pw (o : Int) := by
    rw [up_nat]
    simp only [fin, ln]
    rw [pw_succ]
  rw [hl] at hb ⊢
  rw [e1]
  unfold up
  simp only at hb ⊢
  obtain ⟨B, hB⟩ : ∃ B, (bud (((2 ^ o * c : Nat) : Int), (o : Int))).1 = B := ⟨_, rfl⟩
  obtain ⟨A, hA⟩ : ∃ A, ((2 ^ o * c : Nat) : Int) = A := ⟨_, rfl⟩
  rw [hB] at hb ⊢
  rw [hA] at hb ⊢
  clear hB hA e1 hl h
  rcases hb with hb | hb
  · rw [if_pos (by omega)]
    exact ⟨by omega, by omega, trivial, .inl ⟨rfl, hb⟩⟩
  · rw [if_neg (by omega)]
    exact ⟨by omega, by omega, trivial, .inr ⟨rfl, by omega⟩⟩
theorem up_B {x : Ex} {b : Int} (h : isB x = true) (hb8 : b ≤ 8) (hlt : x.2 < b) : isB (up x) = true := by
  obtain ⟨o, c, rfl, ho, hc⟩ := half_nat h
  rw [up_nat]
  have e : 2 ^ (o + 1) * (c / 2) ≤ 2 ^ o * c := by rw [Nat.pow_succ, Nat.mul_assoc]; exact Nat.mul_le_mul_left _ (by omega)
  simp only at hlt
  refine isB_iff.2 ⟨by simp only; omega, by simp only; omega, by simp only; omega, by simp only; omega, ?_⟩
  simp only [ln, pw, Int.toNat_natCast]
  exact_mod_cast Nat.mul_mod_right _ _
theorem gi_lt {b : Int} {F U : List Ex} (G : Gd b F U) {x0 : Ex} {L : List Ex} {x : Ex} (h : Gi b F U x0 L x) (hm : bud x ∈ L) : x.2 < b ∧ okB x = true := by
  have h1 := lst_mem G.lf (h.sub _ hm)
  have hb := bud_at h.bl
  have h2 := isB_iff.1 h.bl
  have hen := h.en
  have hln : ln (bud x) = ln x := rfl
  have hlt : x.2 < b := by
    apply pw_lt _ h2.1
    have e : ln x = pw x.2 := rfl
    unfold fin at hen
    omega
  refine ⟨hlt, ?_⟩
  have := G.b8
  simp only [okB, h.bl, h1.1, Bool.true_and, Bool.and_true, decide_eq_true_eq]
  omega
theorem gi_step {b : Int} {F U : List Ex} (G : Gd b F U) {x0 : Ex} {L : List Ex} {x : Ex} (h : Gi b F U x0 L x) (hm : bud x ∈ L) : Gi b F U x0 (rm L (bud x)) (up x) := by
  have hF := h.sub _ hm
  have h1 := lst_mem G.lf hF
  obtain ⟨r1, r2, r3, r4⟩ := up_range h.bl
  have hlt := (gi_lt G h hm).1
  have hln : ln (bud x) = ln x := rfl
  have hen := h.en
  have hp := ln_pos x
  refine ⟨up_B h.bl G.b8 hlt, by rw [r3]; unfold fin at hen; omega, so_rm h.so, fun y hy => h.sub y (mem_rm.1 hy).1, fun y hy => ?_, fun u hu hne => ?_⟩
  · obtain ⟨q1, q2⟩ := mem_rm.1 hy
    have a1 := h.ap y q1
    have a2 := apa_lst G.lf (h.sub y q1) hF q2
    have hy := ln_pos y
    unfold apa at *
    rw [r3]
    unfold fin at *
    omega
  · have a1 := h.us u hu hne
    have a2 := apa_of_dis G.ds hF hu
    have hy := ln_pos u
    unfold apa at *
    rw [r3]
    unfold fin at *
    omega
/-- The map's kinds beside the lists. -/
def Kd (U : List Ex) (x0 : Ex) (L : List Ex) (g : Ex → Int) : Prop := ∀ y, FitX y → (g y = 1 ↔ y ∈ L) ∧ (g y = 2 ↔ y ∈ U ∧ y ≠ x0)
theorem kd_start {b : Int} {F U : List Ex} (G : Gd b F U) {x0 : Ex} (h : x0 ∈ U) : Kd U x0 F (upd (kg F U) x0 0) := fun y hy => by
  have hdj : ∀ z, z ∈ F → z ∉ U := fun z hz hu => G.ds z hz z hu (by have := ln_pos z; unfold fin; omega)
  by_cases e : y = x0
  · subst e
    have : y ∉ F := fun q => hdj y q h
    simp [upd, this]
  · simp only [upd, if_neg e, kg]
    by_cases hu : y ∈ U
    · have : y ∉ F := fun q => hdj y q hu
      simp [hu, this, e]
    · by_cases hf : y ∈ F <;> simp [hu, hf]
theorem kd_step {U : List Ex} {x0 : Ex} {L : List Ex} {g : Ex → Int} (h : Kd U x0 L g) {z : Ex} (hz : FitX z) (hm : z ∈ L) : Kd U x0 (rm L z) (upd g z 0) := fun y hy => by
  by_cases e : y = z
  · subst e
    have h1 := h y hy
    have h2 : g y = 1 := h1.1.2 hm
    have h3 : ¬ (y ∈ U ∧ y ≠ x0) := fun q => by have := h1.2.2 q; omega
    have e0 : upd g y 0 y = 0 := by simp [upd]
    rw [e0, mem_rm]
    exact ⟨⟨fun q => by omega, fun q => absurd rfl q.2⟩, ⟨fun q => by omega, fun q => absurd q h3⟩⟩
  · simp only [upd, if_neg e, mem_rm]
    have h1 := h y hy
    exact ⟨⟨fun q => ⟨h1.1.1 q, e⟩, fun q => h1.1.2 q.1⟩, h1.2⟩
section
variable {b : Int} {F U : List Ex} (G : Gd b F U) {x0 : Ex} {L : List Ex} {x : Ex} (h : Gi b F U x0 L x) {g : Ex → Int} (k : Kd U x0 L g)
include G h k
theorem gv_free (y : Ex) : y ∈ put x L ↔ FitX y ∧ upd g x 1 y = 1 := by
  rw [mem_put]
  by_cases e : y = x
  · subst e
    have e0 : upd g y 1 y = 1 := by simp [upd]
    rw [e0]
    exact ⟨fun _ => ⟨fit_B h.bl, rfl⟩, fun _ => .inl rfl⟩
  · simp only [upd, if_neg e]
    constructor
    · rintro (q | q)
      · exact absurd q e
      · have hf := G.fitF y (h.sub y q)
        exact ⟨hf, (k y hf).1.2 q⟩
    · rintro ⟨q1, q2⟩
      exact .inr ((k y q1).1.1 q2)
theorem gv_used {i : Nat} (hi : i < U.length) (hx : gx U i = x0) (y : Ex) : y ∈ without U i ↔ FitX y ∧ upd g x 1 y = 2 := by
  rw [mem_without hi (lst_so G.lu), hx]
  by_cases e : y = x
  · subst e
    have e0 : upd g y 1 y = 1 := by simp [upd]
    rw [e0]
    constructor
    · rintro ⟨q1, q2⟩
      have := h.us y q1 q2
      have hp := ln_pos y
      unfold apa fin at this
      omega
    · rintro ⟨_, q⟩
      omega
  · simp only [upd, if_neg e]
    constructor
    · intro q
      have hf := G.fitU y q.1
      exact ⟨hf, (k y hf).2.2 q⟩
    · rintro ⟨q1, q2⟩
      exact (k y q1).2.1 q2
end
theorem gv_so {b : Int} {F U : List Ex} {x0 : Ex} {L : List Ex} {x : Ex} (h : Gi b F U x0 L x) : So ltP (put x L) :=
  so_put h.so fun y hy e => by
    have := h.ap y hy
    have hp := ln_pos y
    have hq := ln_pos x
    unfold apa fin at this
    omega
/-- The used block at a place. -/
def Fa (U : List Ex) (t : Int) (k : Nat) : Prop := k < U.length ∧ (gx U k).1 = t ∧ ∀ j, j < k → (gx U j).1 ≠ t
theorem fa_one {U : List Ex} {t : Int} {k j : Nat} (h : Fa U t k) (h' : Fa U t j) : k = j := by
  rcases Nat.lt_trichotomy k j with q | q | q
  · exact absurd h.2.1 (h'.2.2 k q)
  · exact q
  · exact absurd h'.2.1 (h.2.2 j q)
open Classical in
noncomputable def ub (U : List Ex) (t : Int) : Option Nat := if h : ∃ k, Fa U t k then some h.choose else none
theorem ub_some {U : List Ex} {t : Int} {k : Nat} (h : Fa U t k) : ub U t = some k := by
  have h' : ∃ k, Fa U t k := ⟨k, h⟩
  unfold ub
  rw [dif_pos h', fa_one h'.choose_spec h]
theorem ub_none {U : List Ex} {t : Int} (h : ∀ i, i < U.length → (gx U i).1 ≠ t) : ub U t = none := by
  unfold ub
  rw [dif_neg]
  rintro ⟨k, h1, h2, _⟩
  exact h k h1 h2
/-- What GiveBlock answers. -/
noncomputable def gvA (b : Int) (F U : List Ex) (t : Int) : Ans :=
  if good b F U = true then
    match ub U t with
    | some i => ⟨b, put (gv (b - (gx U i).2).toNat F (gx U i)).2 (gv (b - (gx U i).2).toNat F (gx U i)).1, without U i, 0, true⟩
    | none => noA
  else noA
def AnsG (B : Nat) (w' : World) (A : Ans) (e : Ending) : Prop := ∃ v, e = .returned (.tuple #[v, .bool A.r]) ∧ FreeAt B w' v A.b A.F A.U
theorem rm_len {l : List Ex} {y : Ex} : (rm l y).length ≤ l.length := List.length_filter_le _ _
theorem gv_len : ∀ {n : Nat} {L : List Ex} {x : Ex}, (gv n L x).1.length ≤ L.length
  | 0, L, x => Nat.le_refl _
  | n + 1, L, x => by
    rw [gv]
    split
    · exact Nat.le_trans gv_len rm_len
    · exact Nat.le_refl _
end Go.Proofs.Ytgapplfnlndckaa
