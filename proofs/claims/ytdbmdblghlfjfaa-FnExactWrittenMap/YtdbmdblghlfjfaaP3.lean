import Derived.Test.YtdbmdblghlfjfaaP2
import Derived.Test.YtdbmdblghlfjfaaP1
/- Extents put in order by place, and joined. -/
namespace Go.Proofs.Ytdbmdblghlfjfaa.Mp
set_option linter.unusedVariables false

/-- Where pieces lie. -/
def dvs (l : List Pc) : List Ex := l.map fun p => (p.a, p.n)
/-- An extent put ahead of the first that is not ahead of it. -/
def insX (x : Ex) : List Ex → List Ex
  | [] => [x]
  | y :: l => if y.1 < x.1 then y :: insX x l else x :: y :: l
def sortX (l : List Ex) : List Ex := l.foldl (fun s x => insX x s) []
def exAt (l : List Ex) (i : Nat) : Ex := l.getD i (0, 0)
theorem insX_cut {x : Ex} : ∀ {s : List Ex} {j : Nat}, j ≤ s.length → (∀ i, i < j → (exAt s i).1 < x.1) → (j < s.length → ¬ (exAt s j).1 < x.1) → insX x s = s.take j ++ x :: s.drop j
  | [], j, hj, _, _ => by simp at hj; subst hj; rfl
  | y :: s, 0, _, _, h => by
    have := h (by simp)
    simp [exAt] at this
    simp [insX]
    intro h'
    omega
  | y :: s, j + 1, hj, h1, h2 => by
    have h0 := h1 0 (by omega)
    simp [exAt] at h0
    have ih := insX_cut (x := x) (s := s) (j := j) (by simpa using hj) (fun i hi => by have := h1 (i + 1) (by omega); simpa [exAt] using this) (fun hj' => by have := h2 (by simpa using hj'); simpa [exAt] using this)
    simp [insX, h0, ih]
theorem mem_insX {x y : Ex} : ∀ {s : List Ex}, y ∈ insX x s ↔ y = x ∨ y ∈ s
  | [] => by simp [insX]
  | z :: s => by
    unfold insX
    split
    · simp only [List.mem_cons, mem_insX (s := s)]
      constructor
      · rintro (h | h | h)
        · exact .inr (.inl h)
        · exact .inl h
        · exact .inr (.inr h)
      · rintro (h | h | h)
        · exact .inr (.inl h)
        · exact .inl h
        · exact .inr (.inr h)
    · simp
theorem len_insX {x : Ex} : ∀ {s : List Ex}, (insX x s).length = s.length + 1
  | [] => rfl
  | z :: s => by
    unfold insX
    split
    · simp [len_insX (s := s)]
    · simp
theorem so_insX {x : Ex} : ∀ {s : List Ex}, So ltP s → (∀ y, y ∈ s → y.1 ≠ x.1) → So ltP (insX x s)
  | [], _, _ => by simp [insX, So]
  | z :: s, h, hne => by
    rw [So.cons] at h
    have hz := hne z (by simp)
    unfold insX
    split
    · next hlt =>
      rw [So.cons]
      refine ⟨fun y hy => ?_, so_insX h.2 (fun y hy => hne y (by simp [hy]))⟩
      rcases mem_insX.1 hy with rfl | hy
      · exact ltP_iff.2 hlt
      · exact h.1 y hy
    · next hlt =>
      rw [So.cons]
      refine ⟨fun y hy => ?_, So.cons.2 h⟩
      rw [ltP_iff]
      rcases List.mem_cons.1 hy with rfl | hy
      · omega
      · have := ltP_iff.1 (h.1 y hy)
        omega
theorem sortX_snoc (l : List Ex) (x : Ex) : sortX (l ++ [x]) = insX x (sortX l) := by simp [sortX]
theorem rev_ind {P : List Ex → Prop} (h0 : P []) (h1 : ∀ l x, P l → P (l ++ [x])) (l : List Ex) : P l := by
  have h : ∀ m : List Ex, P m.reverse := fun m => by
    induction m with
    | nil => exact h0
    | cons x m ih => rw [List.reverse_cons]; exact h1 _ _ ih
  have := h l.reverse
  rwa [List.reverse_reverse] at this
theorem mem_sortX {y : Ex} (l : List Ex) : y ∈ sortX l ↔ y ∈ l := by
  refine rev_ind (P := fun l => y ∈ sortX l ↔ y ∈ l) (by simp [sortX]) (fun l x ih => ?_) l
  rw [sortX_snoc, mem_insX, ih, List.mem_append, List.mem_singleton]
  exact or_comm
theorem len_sortX (l : List Ex) : (sortX l).length = l.length := by
  refine rev_ind (P := fun l => (sortX l).length = l.length) rfl (fun l x ih => ?_) l
  rw [sortX_snoc, len_insX, ih]; simp
theorem so_sortX (l : List Ex) : (l.Pairwise fun x y => x.1 ≠ y.1) → So ltP (sortX l) := by
  refine rev_ind (P := fun l => (l.Pairwise fun x y => x.1 ≠ y.1) → So ltP (sortX l)) (fun _ => by simp [sortX, So]) (fun l x ih h => ?_) l
  rw [List.pairwise_append] at h
  rw [sortX_snoc]
  exact so_insX (ih h.1) (fun y hy => h.2.2 y ((mem_sortX l).1 hy) x (by simp))
/-- An extent joined with the last one where it goes on. -/
def jst (acc : List Ex) (x : Ex) : List Ex :=
  match acc.getLast? with
  | none => [x]
  | some y => if y.1 + y.2 = x.1 then acc.dropLast ++ [(y.1, y.2 + x.2)] else acc ++ [x]
theorem jst_nil (x : Ex) : jst [] x = [x] := rfl
theorem jst_yes {l : List Ex} {x y : Ex} (h : y.1 + y.2 = x.1) : jst (l ++ [y]) x = l ++ [(y.1, y.2 + x.2)] := by simp [jst, h]
theorem jst_no {l : List Ex} {x y : Ex} (h : ¬ y.1 + y.2 = x.1) : jst (l ++ [y]) x = l ++ [y] ++ [x] := by simp [jst, h]
def jnX (l : List Ex) : List Ex := l.foldl jst []
theorem jnX_snoc (l : List Ex) (x : Ex) : jnX (l ++ [x]) = jst (jnX l) x := by simp [jnX]
def okX (x : Ex) : Prop := 0 ≤ x.1 ∧ 0 ≤ x.2 ∧ x.1 + x.2 ≤ 400
theorem cut_last (l : List Ex) : l = [] ∨ ∃ m y, l = m ++ [y] := by
  rcases List.eq_nil_or_concat l with h | ⟨m, y, h⟩
  · exact .inl h
  · exact .inr ⟨m, y, by rw [h]; simp⟩
theorem jst_ok {acc : List Ex} {x : Ex} (h : ∀ y, y ∈ acc → okX y) (hx : okX x) : ∀ y, y ∈ jst acc x → okX y := by
  rcases cut_last acc with rfl | ⟨m, z, rfl⟩
  · intro y hy
    rw [jst_nil] at hy
    simp at hy
    subst hy
    exact hx
  · by_cases e : z.1 + z.2 = x.1
    · rw [jst_yes e]
      intro y hy
      rcases List.mem_append.1 hy with hy | hy
      · exact h y (by simp [hy])
      · simp at hy
        subst hy
        have := h z (by simp)
        unfold okX at *
        simp only
        omega
    · rw [jst_no e]
      intro y hy
      rcases List.mem_append.1 hy with hy | hy
      · exact h y hy
      · simp at hy
        subst hy
        exact hx
theorem len_jst {acc : List Ex} {x : Ex} : (jst acc x).length ≤ acc.length + 1 := by
  rcases cut_last acc with rfl | ⟨m, z, rfl⟩
  · rw [jst_nil]; simp
  · by_cases e : z.1 + z.2 = x.1
    · rw [jst_yes e]; simp
    · rw [jst_no e]; simp
theorem len_jnX (l : List Ex) : (jnX l).length ≤ l.length := by
  refine rev_ind (P := fun l => (jnX l).length ≤ l.length) (by simp [jnX]) (fun l x ih => ?_) l
  rw [jnX_snoc]
  have := len_jst (acc := jnX l) (x := x)
  simp
  omega
theorem jnX_ok (l : List Ex) : (∀ y, y ∈ l → okX y) → ∀ y, y ∈ jnX l → okX y := by
  refine rev_ind (P := fun l => (∀ y, y ∈ l → okX y) → ∀ y, y ∈ jnX l → okX y) (fun _ y hy => by simp [jnX] at hy) (fun l x ih h => ?_) l
  rw [jnX_snoc]
  exact jst_ok (ih (fun y hy => h y (by simp [hy]))) (h x (by simp))
/-- Where pieces lie, in order and joined. -/
def plX (l : List Pc) : List Ex := jnX (sortX (dvs l))
theorem len_plX (l : List Pc) : (plX l).length ≤ l.length := by
  have := len_jnX (sortX (dvs l))
  rw [len_sortX] at this
  simpa [plX, dvs] using this
/-- Pieces as said of which no two lie on one block of the device. -/
def Apart (l : List Pc) : Prop := (∀ p, p ∈ l → pok p) ∧ l.Pairwise fun p q => ovD p q = false
theorem dvs_ne {l : List Pc} (h : Apart l) : (dvs l).Pairwise fun x y => x.1 ≠ y.1 := by
  unfold dvs
  rw [List.pairwise_map]
  refine List.Pairwise.imp_of_mem (fun {p q} hp hq ho => ?_) h.2
  have h1 := h.1 p hp
  have h2 := h.1 q hq
  unfold pok at h1 h2
  unfold ovD at ho
  simp at ho
  simp only
  intro e
  have := ho (by omega)
  omega
theorem dvs_ok {l : List Pc} (h : ∀ p, p ∈ l → pok p) : ∀ y, y ∈ dvs l → okX y := by
  intro y hy
  obtain ⟨p, hp, rfl⟩ := List.mem_map.1 hy
  have := h p hp
  unfold pok at this
  unfold okX
  simp only
  omega
theorem sort_ok {l : List Pc} (h : ∀ p, p ∈ l → pok p) : ∀ y, y ∈ sortX (dvs l) → okX y := fun y hy => dvs_ok h y ((mem_sortX _).1 hy)
theorem GM.apart {l : List Pc} (h : GM l) : Apart l := by
  refine ⟨fun p hp => ?_, ?_⟩
  · obtain ⟨i, hi, rfl⟩ := List.getElem_of_mem hp
    have := (h.2 i hi).1
    rwa [gp_eq hi] at this
  · rw [List.pairwise_iff_getElem]
    intro i j hi hj hij
    have := (h.2 j hj).2.2 i hij
    rwa [gp_eq hi, gp_eq hj] at this
end Go.Proofs.Ytdbmdblghlfjfaa.Mp
