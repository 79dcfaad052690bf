import Derived.Test.YtdbmdblghlfjfaaP5
import Derived.Test.YtdbmdblghlfjfaaB2
/- Pieces joined where one goes on; what is cut out of a good list is good. -/
namespace Go.Proofs.Ytdbmdblghlfjfaa
open Mp
set_option linter.unusedVariables false

/-- A piece joined with the last one where it goes on. -/
def jstP (acc : List Pc) (x : Pc) : List Pc :=
  match acc.getLast? with
  | none => [x]
  | some y => if goes y x then acc.dropLast ++ [⟨y.f, y.n + x.n, y.a, y.z⟩] else acc ++ [x]
theorem jstP_nil (x : Pc) : jstP [] x = [x] := rfl
theorem jstP_yes {l : List Pc} {x y : Pc} (h : goes y x = true) : jstP (l ++ [y]) x = l ++ [⟨y.f, y.n + x.n, y.a, y.z⟩] := by simp [jstP, h]
theorem jstP_no {l : List Pc} {x y : Pc} (h : goes y x = false) : jstP (l ++ [y]) x = l ++ [y] ++ [x] := by simp [jstP, h]
def jnP (l : List Pc) : List Pc := l.foldl jstP []
theorem jnP_snoc (l : List Pc) (x : Pc) : jnP (l ++ [x]) = jstP (jnP l) x := by simp [jnP]
theorem cut_lastP (l : List Pc) : l = [] ∨ ∃ m y, l = m ++ [y] := by
  rcases List.eq_nil_or_concat l with h | ⟨m, y, h⟩
  · exact .inl h
  · exact .inr ⟨m, y, by rw [h]; simp⟩
theorem goes_iff {p q : Pc} : goes p q = true ↔ p.f + p.n = q.f ∧ p.a + p.n = q.a ∧ p.z = q.z := by simp [goes]
theorem join_ok {y x : Pc} (hy : pok y) (hx : pok x) (h : goes y x = true) : pok ⟨y.f, y.n + x.n, y.a, y.z⟩ := by
  have := goes_iff.1 h
  unfold pok at *
  simp only
  omega
theorem jstP_ok {acc : List Pc} {x : Pc} (h : ∀ y, y ∈ acc → pok y) (hx : pok x) : ∀ y, y ∈ jstP acc x → pok y := by
  rcases cut_lastP acc with rfl | ⟨m, z, rfl⟩
  · intro y hy
    rw [jstP_nil] at hy
    simp at hy
    subst hy
    exact hx
  · cases e : goes z x
    · rw [jstP_no e]
      intro y hy
      rcases List.mem_append.1 hy with hy | hy
      · exact h y hy
      · simp at hy
        subst hy
        exact hx
    · rw [jstP_yes e]
      intro y hy
      rcases List.mem_append.1 hy with hy | hy
      · exact h y (by simp [hy])
      · simp at hy
        subst hy
        exact join_ok (h z (by simp)) hx e
theorem len_jstP {acc : List Pc} {x : Pc} : (jstP acc x).length ≤ acc.length + 1 := by
  rcases cut_lastP acc with rfl | ⟨m, z, rfl⟩
  · rw [jstP_nil]; simp
  · cases e : goes z x
    · rw [jstP_no e]; simp
    · rw [jstP_yes e]; simp
theorem rev_indP {P : List Pc → Prop} (h0 : P []) (h1 : ∀ l x, P l → P (l ++ [x])) (l : List Pc) : P l := by
  have h : ∀ m : List Pc, P m.reverse := fun m => by
    induction m with
    | nil => exact h0
    | cons x m ih => rw [List.reverse_cons]; exact h1 _ _ ih
  have := h l.reverse
  rwa [List.reverse_reverse] at this
theorem len_jnP (l : List Pc) : (jnP l).length ≤ l.length := by
  refine rev_indP (P := fun l => (jnP l).length ≤ l.length) (by simp [jnP]) (fun l x ih => ?_) l
  rw [jnP_snoc]
  have := len_jstP (acc := jnP l) (x := x)
  simp
  omega
theorem jnP_ok (l : List Pc) : (∀ y, y ∈ l → pok y) → ∀ y, y ∈ jnP l → pok y := by
  refine rev_indP (P := fun l => (∀ y, y ∈ l → pok y) → ∀ y, y ∈ jnP l → pok y) (fun _ y hy => by simp [jnP] at hy) (fun l x ih h => ?_) l
  rw [jnP_snoc]
  exact jstP_ok (ih (fun y hy => h y (by simp [hy]))) (h x (by simp))
/-- One lies ahead of another, apart on the device, and does not go on with it. -/
def Rel (p q : Pc) : Prop := p.f + p.n ≤ q.f ∧ ovD p q = false ∧ goes p q = false
def Gd (l : List Pc) : Prop := (∀ p, p ∈ l → pok p) ∧ l.Pairwise Rel
theorem gm_gd {l : List Pc} : GM l ↔ l.length ≤ 40 ∧ Gd l := by
  constructor
  · intro h
    refine ⟨h.1, h.apart.1, ?_⟩
    rw [List.pairwise_iff_getElem]
    intro i j hi hj hij
    have h1 := rise_lt h.2 hij hj
    have h2 := (h.2 j hj).2.2 i hij
    have h3 := (h.2 i hi).1
    refine ⟨by rwa [gp_eq hi, gp_eq hj] at h1, by rwa [gp_eq hi, gp_eq hj] at h2, ?_⟩
    by_cases e : i + 1 = j
    · subst e
      have := ((h.2 (i + 1) hj).2.1 (by omega)).2
      rw [show i + 1 - 1 = i from rfl, gp_eq hi, gp_eq hj] at this
      exact this
    · have k1 := rise_lt h.2 (j := i) (i := i + 1) (by omega) (by omega)
      have k2 := rise_lt h.2 (j := i + 1) (i := j) (by omega) hj
      have k3 := (h.2 (i + 1) (by omega)).1
      unfold pok at k3
      rw [gp_eq hi] at k1
      rw [gp_eq hj] at k2
      cases hg : goes l[i] l[j]
      · rfl
      · have := goes_iff.1 hg
        omega
  · rintro ⟨h1, h2, h3⟩
    refine ⟨h1, fun i hi => ⟨h2 _ (gp_mem hi), fun h0 => ?_, fun j hj => ?_⟩⟩
    · have := List.pairwise_iff_getElem.1 h3 (i - 1) i (by omega) hi (by omega)
      rw [gp_eq (by omega), gp_eq hi]
      exact ⟨this.1, this.2.2⟩
    · have := List.pairwise_iff_getElem.1 h3 j i (by omega) hi hj
      rw [gp_eq (by omega), gp_eq hi]
      exact this.2.1
theorem fold_gd : ∀ {m acc : List Pc}, (acc ++ m).Pairwise Rel → m.foldl jstP acc = acc ++ m
  | [], acc, _ => by simp
  | x :: m, acc, h => by
    have e : jstP acc x = acc ++ [x] := by
      rcases cut_lastP acc with rfl | ⟨k, z, rfl⟩
      · rfl
      · have : goes z x = false := by
          rw [List.append_assoc, List.pairwise_append] at h
          have := h.2.1
          rw [List.singleton_append, List.pairwise_cons] at this
          exact (this.1 x (by simp)).2.2
        rw [jstP_no this]
    rw [List.foldl_cons, e, fold_gd (by simpa using h)]
    simp
theorem jnP_gd {l : List Pc} (h : Gd l) : jnP l = l := by
  have := fold_gd (m := l) (acc := []) (by simpa using h.2)
  simpa [jnP] using this
/-- A part of a piece. -/
def Sub (q p : Pc) : Prop := 1 ≤ q.n ∧ p.f ≤ q.f ∧ q.f + q.n ≤ p.f + p.n ∧ q.a - q.f = p.a - p.f ∧ q.z = p.z
theorem Sub.refl {p : Pc} (h : pok p) : Sub p p := by unfold pok at h; unfold Sub; simp; omega
theorem Sub.ok {q p : Pc} (h : Sub q p) (hp : pok p) : pok q := by unfold Sub at h; unfold pok at *; omega
theorem rel_sub {p q p' q' : Pc} (h : Rel p q) (h1 : Sub p' p) (h2 : Sub q' q) (hp : pok p) (hq : pok q) : Rel p' q' := by
  unfold Rel at *
  obtain ⟨k1, k2, k3⟩ := h
  unfold Sub at h1 h2
  unfold pok at hp hq
  refine ⟨by omega, ?_, ?_⟩
  · unfold ovD at *
    simp at *
    omega
  · cases hg : goes p' q'
    · rfl
    · have g1 := goes_iff.1 hg
      have : goes p q = true := goes_iff.2 ⟨by omega, by omega, by rw [← h1.2.2.2.2, g1.2.2, h2.2.2.2.2]⟩
      rw [this] at k3
      cases k3
theorem flat_gd {h : Pc → List Pc} (hs : ∀ p, pok p → (∀ q, q ∈ h p → Sub q p) ∧ (h p).Pairwise Rel) : ∀ {l : List Pc}, Gd l → Gd (l.flatMap h) ∧ ∀ q, q ∈ l.flatMap h → ∃ p, p ∈ l ∧ Sub q p
  | [], _ => ⟨⟨by simp, by simp⟩, by simp⟩
  | p :: l, hg => by
    obtain ⟨g1, g2⟩ := hg
    rw [List.pairwise_cons] at g2
    have hp := g1 p (by simp)
    obtain ⟨ih, ih2⟩ := flat_gd hs (l := l) ⟨fun q hq => g1 q (by simp [hq]), g2.2⟩
    obtain ⟨s1, s2⟩ := hs p hp
    have hmem : ∀ q, q ∈ h p ++ l.flatMap h → ∃ r, r ∈ p :: l ∧ Sub q r := fun q hq => by
      rcases List.mem_append.1 hq with hq | hq
      · exact ⟨p, by simp, s1 q hq⟩
      · obtain ⟨r, hr, k⟩ := ih2 q hq
        exact ⟨r, by simp [hr], k⟩
    rw [List.flatMap_cons]
    refine ⟨⟨fun q hq => ?_, ?_⟩, hmem⟩
    · obtain ⟨r, hr, k⟩ := hmem q hq
      exact k.ok (g1 r hr)
    · rw [List.pairwise_append]
      refine ⟨s2, ih.2, fun x hx y hy => ?_⟩
      obtain ⟨r, hr, k⟩ := ih2 y hy
      exact rel_sub (g2.1 r hr) (s1 x hx) k hp (g1 r (by simp [hr]))
theorem Gd.rs {l : List Pc} (h : Gd l) : Rs l := ⟨h.1, h.2.imp fun q => q.1⟩
theorem Gd.apart {l : List Pc} (h : Gd l) : Apart l := ⟨h.1, h.2.imp fun q => q.2.1⟩
theorem lft_sub {t : Int} {p : Pc} (hp : pok p) (h1 : p.f < t) (h2 : ¬ p.f + p.n ≤ t) : Sub (lft t p) p := by unfold pok at hp; unfold Sub lft; simp; omega
theorem rgt_sub {t : Int} {p : Pc} (hp : pok p) (h1 : p.f < t) (h2 : ¬ p.f + p.n ≤ t) : Sub (rgt t p) p := by unfold pok at hp; unfold Sub rgt; simp; omega
theorem ahd_sub {t : Int} {p : Pc} (hp : pok p) : (∀ q, q ∈ ahd t p → Sub q p ∧ q.f + q.n ≤ t) ∧ (ahd t p).Pairwise Rel := by
  unfold ahd
  by_cases h1 : p.f + p.n ≤ t
  · rw [if_pos h1]
    refine ⟨fun q hq => ?_, by simp⟩
    simp at hq
    subst hq
    exact ⟨Sub.refl hp, h1⟩
  · rw [if_neg h1]
    by_cases h2 : p.f < t
    · rw [if_pos h2]
      refine ⟨fun q hq => ?_, by simp⟩
      simp at hq
      subst hq
      exact ⟨lft_sub hp h2 h1, by simp only [lft]; omega⟩
    · rw [if_neg h2]
      simp
theorem bhd_sub {t : Int} {p : Pc} (hp : pok p) : (∀ q, q ∈ bhd t p → Sub q p ∧ t ≤ q.f) ∧ (bhd t p).Pairwise Rel := by
  unfold bhd
  by_cases h1 : p.f + p.n ≤ t
  · rw [if_pos h1]
    simp
  · rw [if_neg h1]
    by_cases h2 : p.f < t
    · rw [if_pos h2]
      refine ⟨fun q hq => ?_, by simp⟩
      simp at hq
      subst hq
      exact ⟨rgt_sub hp h2 h1, by simp [rgt]⟩
    · rw [if_neg h2]
      refine ⟨fun q hq => ?_, by simp⟩
      simp at hq
      subst hq
      exact ⟨Sub.refl hp, by omega⟩
theorem Gd.cutA {t : Int} {l : List Pc} (h : Gd l) : Gd (Mp.cutA t l) := (flat_gd (fun p hp => ⟨fun q hq => ((ahd_sub hp).1 q hq).1, (ahd_sub hp).2⟩) h).1
theorem Gd.cutB {t : Int} {l : List Pc} (h : Gd l) : Gd (Mp.cutB t l) := (flat_gd (fun p hp => ⟨fun q hq => ((bhd_sub hp).1 q hq).1, (bhd_sub hp).2⟩) h).1
end Go.Proofs.Ytdbmdblghlfjfaa
