import Derived.Test.YtdbmdblghlfjfaaX1
import Derived.Test.YtdbmdblghlfjfaaP4
/- Holes: what the specification tells, and what the program tells of what lies ahead. -/
namespace Go.Proofs.Ytdbmdblghlfjfaa
open Mp
set_option linter.unusedVariables false

/-- The holes from one block on, as the specification tells them. -/
def holS (t : Int) : Int → List Pc → List Ex
  | at', [] => if at' < t then [(at', t - at')] else []
  | at', p :: l => (if at' < min p.f t then [(at', min p.f t - at')] else []) ++ holS t (p.f + p.n) l
/-- .. as the program tells them. -/
def holI (t : Int) : Int → List Pc → List Ex
  | fr, [] => btw fr t
  | fr, p :: l => btw fr p.f ++ holI t (p.f + p.n) l
theorem Rs.tl {p : Pc} {l : List Pc} (h : Rs (p :: l)) : Rs l ∧ (∀ q, q ∈ l → p.f + p.n ≤ q.f) ∧ pok p := by
  obtain ⟨h1, h2⟩ := h
  rw [List.pairwise_cons] at h2
  exact ⟨⟨fun q hq => h1 q (by simp [hq]), h2.2⟩, h2.1, h1 p (by simp)⟩
theorem holS_none {t : Int} : ∀ {l : List Pc} {at' : Int}, Rs l → (∀ p, p ∈ l → at' ≤ p.f) → t ≤ at' → holS t at' l = []
  | [], at', _, _, h => by simp [holS]; omega
  | p :: l, at', hs, ha, h => by
    obtain ⟨h1, h2, h3⟩ := Rs.tl hs
    have := ha p (by simp)
    unfold pok at h3
    have ih := holS_none (t := t) (l := l) (at' := p.f + p.n) h1 h2 (by omega)
    unfold holS
    rw [ih, if_neg (by omega)]
    rfl
theorem btw_if {f t : Int} (h : f ≤ t) : btw f t = if f < t then [(f, t - f)] else [] := by
  unfold btw
  by_cases e : f = t
  · rw [if_pos e, if_neg (by omega)]
  · rw [if_neg e, if_pos (by omega)]
theorem hol_eq {t : Int} : ∀ {l : List Pc} {at' : Int}, Rs l → (∀ p, p ∈ l → at' ≤ p.f) → at' ≤ t → holS t at' l = holI t at' (cutA t l)
  | [], at', _, _, h => by
    show holS t at' [] = btw at' t
    rw [btw_if h]; rfl
  | p :: l, at', hs, ha, h => by
    obtain ⟨h1, h2, h3⟩ := Rs.tl hs
    have hp := ha p (by simp)
    unfold pok at h3
    have ec : cutA t (p :: l) = ahd t p ++ cutA t l := by simp [cutA]
    by_cases c1 : p.f + p.n ≤ t
    · have ih := hol_eq (t := t) (l := l) (at' := p.f + p.n) h1 h2 c1
      have em : min p.f t = p.f := by omega
      rw [ec, show ahd t p = [p] by simp [ahd, c1]]
      show (if at' < min p.f t then [(at', min p.f t - at')] else []) ++ holS t (p.f + p.n) l = btw at' p.f ++ holI t (p.f + p.n) (cutA t l)
      rw [em, ih, btw_if hp]
    · have hb := all_behind (t := t) (l := l) (fun q hq => by
        have h4 := h2 q hq
        have h5 := h1.1 q hq
        unfold pok at h5
        exact ⟨by omega, by omega⟩)
      have hn := holS_none (t := t) (l := l) (at' := p.f + p.n) h1 h2 (by omega)
      rw [ec, hb.1, List.append_nil]
      show (if at' < min p.f t then [(at', min p.f t - at')] else []) ++ holS t (p.f + p.n) l = _
      rw [hn, List.append_nil]
      by_cases c2 : p.f < t
      · have em : min p.f t = p.f := by omega
        rw [em, show ahd t p = [lft t p] by simp [ahd, c1, c2]]
        show _ = btw at' p.f ++ btw (p.f + (t - p.f)) t
        rw [show p.f + (t - p.f) = t by omega, show btw t t = [] from if_pos rfl, List.append_nil, btw_if hp]
      · have em : min p.f t = t := by omega
        rw [em, show ahd t p = [] by simp [ahd, c1, c2]]
        show _ = btw at' t
        rw [btw_if h]
theorem len_holS {t : Int} : ∀ {l : List Pc} {at' : Int}, (holS t at' l).length ≤ l.length + 1
  | [], at' => by unfold holS; split <;> simp
  | p :: l, at' => by
    have ih := len_holS (t := t) (l := l) (at' := p.f + p.n)
    unfold holS
    rw [List.length_append, List.length_cons]
    split <;> simp <;> omega
/-- Pieces cut are as said, and rise. -/
theorem ahd_ok {t : Int} {p q : Pc} (hp : pok p) (h : q ∈ ahd t p) : pok q ∧ p.f ≤ q.f ∧ q.f + q.n ≤ p.f + p.n ∧ q.f + q.n ≤ max t (p.f) := by
  unfold ahd at h
  unfold pok at *
  split at h
  · simp at h; subst h; omega
  · split at h
    · simp at h; subst h; simp only [lft]; omega
    · simp at h
theorem cutA_rs {t : Int} : ∀ {l : List Pc}, Rs l → Rs (cutA t l) ∧ ∀ q, q ∈ cutA t l → ∃ p, p ∈ l ∧ p.f ≤ q.f ∧ q.f + q.n ≤ p.f + p.n
  | [], _ => ⟨⟨by simp [cutA], by simp [cutA]⟩, by simp [cutA]⟩
  | p :: l, h => by
    obtain ⟨h1, h2, h3⟩ := Rs.tl h
    obtain ⟨ih1, ih2⟩ := cutA_rs (t := t) h1
    have ec : cutA t (p :: l) = ahd t p ++ cutA t l := by simp [cutA]
    rw [ec]
    refine ⟨⟨fun q hq => ?_, ?_⟩, fun q hq => ?_⟩
    · rcases List.mem_append.1 hq with hq | hq
      · exact (ahd_ok h3 hq).1
      · exact ih1.1 q hq
    · rw [List.pairwise_append]
      refine ⟨?_, ih1.2, fun x hx y hy => ?_⟩
      · unfold ahd; split <;> (try split) <;> simp
      · obtain ⟨q, hq, k1, k2⟩ := ih2 y hy
        have := h2 q hq
        have := (ahd_ok h3 hx).2.2.1
        omega
    · rcases List.mem_append.1 hq with hq | hq
      · exact ⟨p, by simp, (ahd_ok h3 hq).2.1, (ahd_ok h3 hq).2.2.1⟩
      · obtain ⟨r, hr, k⟩ := ih2 q hq
        exact ⟨r, by simp [hr], k⟩
end Go.Proofs.Ytdbmdblghlfjfaa
