import Derived.Test.YtdbmdblghlfjfaaP7
/- What is joined of pieces that rise and lie apart is good. -/
namespace Go.Proofs.Ytdbmdblghlfjfaa
open Mp
set_option linter.unusedVariables false

/-- One lies ahead of another, and apart on the device. -/
def Ris (p q : Pc) : Prop := p.f + p.n ≤ q.f ∧ ovD p q = false
theorem ov_join {y x q : Pc} (hg : goes y x = true) (hq : 1 ≤ q.n) (h1 : ovD y q = false) (h2 : ovD x q = false) : ovD (⟨y.f, y.n + x.n, y.a, y.z⟩ : Pc) q = false := by
  have g := goes_iff.1 hg
  unfold ovD at *
  simp at *
  omega
theorem ov_join' {y x q : Pc} (hg : goes y x = true) (hq : 1 ≤ q.n) (h1 : ovD q y = false) (h2 : ovD q x = false) : ovD q (⟨y.f, y.n + x.n, y.a, y.z⟩ : Pc) = false := by
  rw [ovD_comm] at *
  exact ov_join hg hq h1 h2
theorem jn_gd : ∀ l : List Pc, (∀ p, p ∈ l → pok p) → l.Pairwise Ris → Gd (jnP l) ∧ ∀ x, pok x → (∀ p, p ∈ l → Ris p x) → ∀ y, y ∈ jnP l → Ris y x := by
  refine rev_indP (P := fun l => (∀ p, p ∈ l → pok p) → l.Pairwise Ris → Gd (jnP l) ∧ ∀ x, pok x → (∀ p, p ∈ l → Ris p x) → ∀ y, y ∈ jnP l → Ris y x) (fun _ _ => ⟨⟨by simp [jnP], by simp [jnP]⟩, by simp [jnP]⟩) (fun l x ih hok hp => ?_)
  have hx := hok x (by simp)
  rw [List.pairwise_append] at hp
  obtain ⟨g, cov⟩ := ih (fun p h => hok p (by simp [h])) hp.1
  have hlx : ∀ p, p ∈ l → Ris p x := fun p h => hp.2.2 p h x (by simp)
  have cx := cov x hx hlx
  have hok2 := jnP_ok (l ++ [x]) hok
  rw [jnP_snoc] at *
  have hx1 : 1 ≤ x.n := by unfold pok at hx; omega
  rcases cut_lastP (jnP l) with e | ⟨m, z, e⟩
  · rw [e, jstP_nil] at hok2 ⊢
    refine ⟨⟨hok2, by simp⟩, fun q hq h y hy => ?_⟩
    simp at hy
    subst hy
    exact h y (by simp)
  · rw [e] at g cx cov hok2 ⊢
    have gp := g.2
    rw [List.pairwise_append] at gp
    have hz := g.1 z (by simp)
    have rz := cx z (by simp)
    cases hg : goes z x with
    | true =>
      rw [jstP_yes hg] at hok2 ⊢
      refine ⟨⟨hok2, ?_⟩, fun q hq h y hy => ?_⟩
      · rw [List.pairwise_append]
        refine ⟨gp.1, by simp, fun y hy u hu => ?_⟩
        simp at hu
        subst hu
        have r1 := gp.2.2 y hy z (by simp)
        have r2 := cx y (by simp [hy])
        have hy1 := g.1 y (by simp [hy])
        refine ⟨r1.1, ov_join' hg (by unfold pok at hy1; omega) r1.2.1 r2.2, ?_⟩
        cases hgy : goes y (⟨z.f, z.n + x.n, z.a, z.z⟩ : Pc) with
        | false => rfl
        | true =>
          have := goes_iff.1 hgy
          have : goes y z = true := goes_iff.2 this
          rw [r1.2.2] at this
          cases this
      · rcases List.mem_append.1 hy with hy | hy
        · exact cov q hq (fun p hp => h p (by simp [hp])) y (by simp [hy])
        · simp at hy
          subst hy
          have r1 := cov q hq (fun p hp => h p (by simp [hp])) z (by simp)
          have r2 := h x (by simp)
          have hg' := goes_iff.1 hg
          refine ⟨?_, ov_join hg (by unfold pok at hq; omega) r1.2 r2.2⟩
          have := r2.1
          simp only
          omega
    | false =>
      rw [jstP_no hg] at hok2 ⊢
      refine ⟨⟨hok2, ?_⟩, fun q hq h y hy => ?_⟩
      · rw [List.pairwise_append]
        refine ⟨g.2, by simp, fun y hy u hu => ?_⟩
        simp at hu
        subst hu
        have r := cx y hy
        refine ⟨r.1, r.2, ?_⟩
        rcases List.mem_append.1 hy with hy | hy
        · have r1 := gp.2.2 y hy z (by simp)
          cases hgy : goes y u with
          | false => rfl
          | true =>
            have := goes_iff.1 hgy
            unfold pok at hz
            have := r1.1
            have := rz.1
            omega
        · simp at hy
          subst hy
          exact hg
      · rcases List.mem_append.1 hy with hy | hy
        · exact cov q hq (fun p hp => h p (by simp [hp])) y hy
        · simp at hy
          subst hy
          exact h y (by simp)
/-- A piece put where it begins. -/
def putP (l : List Pc) (p : Pc) : List Pc := l.take (lbF p.f l) ++ [p] ++ l.drop (lbF p.f l)
theorem len_putP {l : List Pc} {p : Pc} : (putP l p).length = l.length + 1 := by
  have := lbF_le p.f l
  unfold putP
  simp
  omega
theorem put_clean {l : List Pc} {p : Pc} (h : Rs l) (hp : pok p) (ho : ∀ q, q ∈ l → ovF p q = false) : cutA p.f l ++ [p] ++ cutB p.f l = putP l p := by
  have hk : lbF p.f l = 0 ∨ (gp l (lbF p.f l - 1)).f + (gp l (lbF p.f l - 1)).n ≤ p.f := by
    by_cases h0 : lbF p.f l = 0
    · exact .inl h0
    · right
      have hle := lbF_le p.f l
      have h1 := lbF_lt (t := p.f) (l := l) (i := lbF p.f l - 1) (by omega)
      have h2 := ho _ (gp_mem (l := l) (i := lbF p.f l - 1) (by omega))
      unfold pok at hp
      unfold ovF at h2
      simp at h2
      omega
  obtain ⟨e1, e2⟩ := cut_clean h hk
  rw [e1, e2]
  rfl
theorem put_ris {l : List Pc} {p : Pc} (h : Gd l) (hp : pok p) (ho : ∀ q, q ∈ l → mts p q = false) : (∀ q, q ∈ putP l p → pok q) ∧ (putP l p).Pairwise Ris := by
  have hle := lbF_le p.f l
  have hov : ∀ q, q ∈ l → ovF p q = false ∧ ovD p q = false := fun q hq => by
    have := ho q hq
    unfold mts at this
    simpa using this
  have hr := h.2
  rw [← List.take_append_drop (lbF p.f l) l, List.pairwise_append] at hr
  refine ⟨fun q hq => ?_, ?_⟩
  · unfold putP at hq
    rcases List.mem_append.1 hq with hq | hq
    · rcases List.mem_append.1 hq with hq | hq
      · exact h.1 q (List.mem_of_mem_take hq)
      · simp at hq
        subst hq
        exact hp
    · exact h.1 q (List.mem_of_mem_drop hq)
  · unfold putP
    rw [List.pairwise_append, List.pairwise_append]
    refine ⟨⟨hr.1.imp fun q => ⟨q.1, q.2.1⟩, by simp, fun x hx y hy => ?_⟩, hr.2.1.imp fun q => ⟨q.1, q.2.1⟩, fun x hx y hy => ?_⟩
    · simp at hy
      subst hy
      obtain ⟨i, hi, hl, rfl⟩ := mem_take_gp hx
      have h1 := lbF_lt (t := y.f) (l := l) (i := i) hi
      have h2 := hov _ (gp_mem hl)
      refine ⟨?_, by rw [ovD_comm]; exact h2.2⟩
      have h3 := h2.1
      unfold pok at hp
      unfold ovF at h3
      simp at h3
      omega
    · rcases List.mem_append.1 hx with hx | hx
      · have := hr.2.2 x hx y hy
        exact ⟨this.1, this.2.1⟩
      · simp at hx
        subst hx
        obtain ⟨i, hi, hl, rfl⟩ := mem_drop_gp hy
        have h1 := drop_behind h.rs (t := x.f) (gp l i) hy
        have h2 := hov _ (gp_mem hl)
        refine ⟨?_, h2.2⟩
        have h3 := h2.1
        unfold pok at hp
        unfold ovF at h3
        simp at h3
        omega
theorem put_gd {l : List Pc} {p : Pc} (h : Gd l) (hp : pok p) (ho : ∀ q, q ∈ l → mts p q = false) : Gd (jnP (putP l p)) := by
  obtain ⟨h1, h2⟩ := put_ris h hp ho
  exact (jn_gd _ h1 h2).1
end Go.Proofs.Ytdbmdblghlfjfaa
