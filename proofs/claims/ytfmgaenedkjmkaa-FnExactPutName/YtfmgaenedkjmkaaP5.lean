import Derived.Test.YtfmgaenedkjmkaaP4
/- Names put one behind the other in their order, of no program. -/
namespace Go.Proofs.Ytfmgaenedkjmkaa.Hd
set_option linter.unusedVariables false

/-- A name put into a row that rises. -/
def putL (l : List Nm) (x : Nm) (k : Nat) : List Nm := l.take k ++ [x] ++ l.drop (bif hasN l x.nm k then k + 1 else k)
abbrev So (l : List Nm) : Prop := l.Pairwise fun a b => les a.nm b.nm = true
theorem so_ris {l : List Nm} : So l ↔ Ris l := by
  constructor
  · intro h i hi h0
    have := List.pairwise_iff_getElem.1 h (i - 1) i (by omega) hi (by omega)
    rw [gm_eq (by omega), gm_eq hi]
    exact this
  · intro h
    refine List.pairwise_iff_getElem.2 fun i j hi hj hij => ?_
    have := ris_lt h hij hj
    rwa [gm_eq hi, gm_eq hj] at this
theorem so_uniq : ∀ {l m : List Nm}, So l → So m → (∀ x, x ∈ l ↔ x ∈ m) → l = m
  | [], [], _, _, _ => rfl
  | [], y :: m, _, _, h => absurd ((h y).2 (List.mem_cons_self ..)) (by simp)
  | x :: l, [], _, _, h => absurd ((h x).1 (List.mem_cons_self ..)) (by simp)
  | x :: l, y :: m, hl, hm, h => by
    have hl := List.pairwise_cons.1 hl
    have hm := List.pairwise_cons.1 hm
    have hxy : x = y := by
      rcases List.mem_cons.1 ((h x).1 (List.mem_cons_self ..)) with e | e
      · exact e
      · rcases List.mem_cons.1 ((h y).2 (List.mem_cons_self ..)) with e' | e'
        · exact e'.symm
        · have h1 := hm.1 x e
          have h2 := hl.1 y e'
          rw [les_asym h1] at h2
          cases h2
    subst hxy
    have key : ∀ z, z ∈ l ↔ z ∈ m := by
      intro z
      constructor
      · intro hz
        rcases List.mem_cons.1 ((h z).1 (List.mem_cons_of_mem _ hz)) with e | e
        · subst e
          have := hl.1 z hz
          rw [les_irr] at this
          cases this
        · exact e
      · intro hz
        rcases List.mem_cons.1 ((h z).2 (List.mem_cons_of_mem _ hz)) with e | e
        · subst e
          have := hm.1 z hz
          rw [les_irr] at this
          cases this
        · exact e
    rw [so_uniq hl.2 hm.2 key]
/-- A name that is not there yet, put in its place. -/
theorem put_new {l : List Nm} {x : Nm} {k : Nat} (hs : So l) (hk : AtN l x.nm k) (hx : ∀ y, y ∈ l → y.nm ≠ x.nm) : hasN l x.nm k = false ∧ So (putL l x k) ∧ (∀ y, y ∈ putL l x k ↔ y = x ∨ y ∈ l) ∧ (putL l x k).length = l.length + 1 := by
  have hh : hasN l x.nm k = false := by
    unfold hasN
    by_cases h : k < l.length
    · have := hx (gm l k) (by rw [gm_eq h]; exact List.getElem_mem h)
      simp [this]
    · simp [h]
  have he : putL l x k = l.take k ++ [x] ++ l.drop k := by unfold putL; rw [hh]; rfl
  have hm := at_mono (so_ris.1 hs) hk
  refine ⟨hh, ?_, fun y => ?_, ?_⟩
  · rw [he, So, List.pairwise_append, List.pairwise_append]
    refine ⟨⟨hs.take, List.pairwise_singleton _ _, fun a ha b hb => ?_⟩, hs.drop, fun a ha b hb => ?_⟩
    · obtain rfl : b = x := by simpa using hb
      obtain ⟨i, hi, rfl⟩ := List.getElem_of_mem ha
      have hi' : i < k ∧ i < l.length := by simp at hi; omega
      have := hm i hi'.2
      rw [decide_eq_true hi'.1, gm_eq hi'.2] at this
      simpa using this
    · obtain ⟨j, hj, rfl⟩ := List.getElem_of_mem hb
      have hj' : k + j < l.length := by simp at hj; omega
      have hb' : (l.drop k)[j] = l[k + j] := by simp
      rw [hb']
      rcases List.mem_append.1 ha with ha | ha
      · obtain ⟨i, hi, rfl⟩ := List.getElem_of_mem ha
        have hi' : i < k ∧ i < l.length := by simp at hi; omega
        have := List.pairwise_iff_getElem.1 hs i (k + j) hi'.2 hj' (by omega)
        simpa using this
      · obtain rfl : a = x := by simpa using ha
        have h1 := hm (k + j) hj'
        rw [decide_eq_false (by omega), gm_eq hj'] at h1
        rcases les_tri a.nm (l[k + j]).nm with h | h | h
        · exact h
        · exact absurd h.symm (hx _ (List.getElem_mem hj'))
        · rw [h1] at h; cases h
  · rw [he]
    simp only [List.mem_append, List.mem_singleton]
    constructor
    · rintro ((h | h) | h)
      · exact .inr (List.mem_of_mem_take h)
      · exact .inl h
      · exact .inr (List.mem_of_mem_drop h)
    · rintro (h | h)
      · exact .inl (.inr h)
      · rw [← List.take_append_drop k l] at h
        rcases List.mem_append.1 h with h | h
        · exact .inl (.inl h)
        · exact .inr h
  · rw [he]
    have := hk.1
    simp
    omega
/-- All names of the first buckets. -/
def alN (L : List Bk) (k : Nat) : List Nm := (L.take k).flatMap Bk.ns
theorem alN_succ {L : List Bk} {k : Nat} (h : k < L.length) : alN L (k + 1) = alN L k ++ (gb L k).ns := by
  unfold alN
  rw [List.take_succ_eq_append_getElem h, List.flatMap_append, gb_eq h]
  simp
theorem alN_len {L : List Bk} (k : Nat) (h : ∀ i, i < L.length → (gb L i).ns.length ≤ 4) (hk : k ≤ L.length) : (alN L k).length ≤ 4 * k := by
  induction k with
  | zero => simp [alN]
  | succ k ih =>
    rw [alN_succ (by omega), List.length_append]
    have := h k (by omega)
    have := ih (by omega)
    omega
theorem mem_ns {l : List Nm} {y : Nm} (h : y ∈ l) : ∃ i, i < l.length ∧ gm l i = y := by
  obtain ⟨i, hi, rfl⟩ := List.getElem_of_mem h
  exact ⟨i, hi, gm_eq hi⟩
theorem mem_alN {L : List Bk} {k : Nat} (hk : k ≤ L.length) {y : Nm} (h : y ∈ alN L k) : ∃ i, i < k ∧ y ∈ (gb L i).ns := by
  induction k with
  | zero => simp [alN] at h
  | succ k ih =>
    rw [alN_succ (by omega)] at h
    rcases List.mem_append.1 h with h | h
    · obtain ⟨i, h1, h2⟩ := ih (by omega) h
      exact ⟨i, by omega, h2⟩
    · exact ⟨k, by omega, h⟩
/-- A name lies in one bucket alone. -/
theorem good_one {d : Dr} (h : GS d) {i j : Nat} (hi : i < d.bs.length) (hj : j < d.bs.length) {x y : Nm} (hx : x ∈ (gb d.bs i).ns) (hy : y ∈ (gb d.bs j).ns) (e : x.nm = y.nm) : i = j := by
  obtain ⟨p, hp, rfl⟩ := mem_ns hx
  obtain ⟨q, hq, rfl⟩ := mem_ns hy
  have h1 := ((h.2.2.2.1 i hi).1 p hp).2.2.2
  have h2 := ((h.2.2.2.1 j hj).1 q hq).2.2.2
  rw [e, h2] at h1
  omega
theorem alN_ne {d : Dr} (h : GS d) : ∀ k, k ≤ d.bs.length → (alN d.bs k).Pairwise fun x y => x.nm ≠ y.nm := by
  intro k
  induction k with
  | zero => intro _; simp [alN]
  | succ k ih =>
    intro hk
    rw [alN_succ (by omega), List.pairwise_append]
    refine ⟨ih (by omega), ?_, fun x hx y hy e => ?_⟩
    · exact (so_ris.2 (good_names h (j := k) (by omega)).2).imp fun q e => by rw [e, les_irr] at q; cases q
    · obtain ⟨i, h1, h2⟩ := mem_alN (by omega) hx
      have := good_one h (i := i) (j := k) (by omega) (by omega) h2 hy e
      omega
theorem alN_new {d : Dr} (h : GS d) {k q : Nat} (hk : k < d.bs.length) (hq : q < (gb d.bs k).ns.length) : ∀ y, y ∈ alN d.bs k ++ (gb d.bs k).ns.take q → y.nm ≠ (gm (gb d.bs k).ns q).nm := by
  intro y hy e
  rcases List.mem_append.1 hy with hy | hy
  · obtain ⟨i, h1, h2⟩ := mem_alN (by omega) hy
    have := good_one h (i := i) (j := k) (by omega) hk h2 (by rw [gm_eq hq]; exact List.getElem_mem hq) e
    omega
  · obtain ⟨p, hp, rfl⟩ := List.getElem_of_mem hy
    have hp' : p < q ∧ p < (gb d.bs k).ns.length := by simp at hp; omega
    have := ris_lt (good_names h hk).2 hp'.1 hq
    rw [gm_eq hp'.2] at this
    have e' : ((gb d.bs k).ns.take q)[p] = (gb d.bs k).ns[p]'hp'.2 := by simp
    rw [e'] at e
    rw [e, les_irr] at this
    cases this
end Go.Proofs.Ytfmgaenedkjmkaa.Hd
