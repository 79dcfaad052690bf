import Derived.Test.YtdbmdblghlfjfaaP6
/- What is left of pieces of which a stretch is cut, and what is cut. -/
namespace Go.Proofs.Ytdbmdblghlfjfaa
open Mp
set_option linter.unusedVariables false

def loP (f : Int) (p : Pc) : Int := if p.f < f then f else p.f
def hiP (e : Int) (p : Pc) : Int := if e < p.f + p.n then e else p.f + p.n
/-- What of a piece lies without a stretch, and what within. -/
def outP (f e : Int) (p : Pc) : List Pc := if hiP e p ≤ loP f p then [p] else (if p.f < loP f p then [⟨p.f, loP f p - p.f, p.a, p.z⟩] else []) ++ (if hiP e p < p.f + p.n then [⟨hiP e p, p.f + p.n - hiP e p, p.a + hiP e p - p.f, p.z⟩] else [])
def innP (f e : Int) (p : Pc) : List Pc := if hiP e p ≤ loP f p then [] else [⟨loP f p, hiP e p - loP f p, p.a + loP f p - p.f, p.z⟩]
def outL (f e : Int) (l : List Pc) : List Pc := l.flatMap (outP f e)
def innL (f e : Int) (l : List Pc) : List Pc := l.flatMap (innP f e)
theorem pc_eq {p q : Pc} (h1 : p.f = q.f) (h2 : p.n = q.n) (h3 : p.a = q.a) (h4 : p.z = q.z) : p = q := by
  obtain ⟨a, b, c, d⟩ := p
  obtain ⟨a', b', c', d'⟩ := q
  simp only at *
  subst h1 h2 h3 h4
  rfl
theorem inn_cut {f e : Int} {p : Pc} (hp : pok p) (hfe : f ≤ e) : (bhd f p).flatMap (ahd e) = innP f e p := by
  unfold pok at hp
  unfold bhd innP loP hiP
  by_cases h1 : p.f + p.n ≤ f
  · rw [if_pos h1, if_pos (by split <;> split <;> omega)]
    rfl
  · rw [if_neg h1]
    by_cases h2 : p.f < f
    · rw [if_pos h2, if_pos h2]
      simp only [List.flatMap_cons, List.flatMap_nil, List.append_nil]
      unfold ahd
      have er : (rgt f p).f + (rgt f p).n = p.f + p.n := by simp only [rgt]; omega
      rw [er, show (rgt f p).f = f from rfl]
      by_cases h3 : p.f + p.n ≤ e
      · rw [if_pos h3, if_neg (show ¬ e < p.f + p.n by omega), if_neg (by omega)]
        congr 1
        exact pc_eq rfl (by simp only [rgt]; omega) (by simp only [rgt]; omega) rfl
      · rw [if_neg h3, if_pos (show e < p.f + p.n by omega)]
        by_cases h4 : f < e
        · rw [if_pos h4, if_neg (by omega)]
          congr 1
          exact pc_eq rfl rfl (by simp only [rgt, lft]; omega) rfl
        · rw [if_neg h4, if_pos (by omega)]
    · rw [if_neg h2, if_neg h2]
      simp only [List.flatMap_cons, List.flatMap_nil, List.append_nil]
      unfold ahd
      by_cases h3 : p.f + p.n ≤ e
      · rw [if_pos h3, if_neg (show ¬ e < p.f + p.n by omega), if_neg (by omega)]
        congr 1
        exact pc_eq rfl (by simp only; omega) (by simp only; omega) rfl
      · rw [if_neg h3, if_pos (show e < p.f + p.n by omega)]
        by_cases h4 : p.f < e
        · rw [if_pos h4, if_neg (by omega)]
          congr 1
          exact pc_eq rfl rfl (by simp only [lft]; omega) rfl
        · rw [if_neg h4, if_pos (by omega)]
theorem out_cut {f e : Int} {p : Pc} (hp : pok p) (hfe : f < e) : outP f e p = ahd f p ++ (bhd f p).flatMap (bhd e) := by
  unfold pok at hp
  unfold bhd ahd outP loP hiP
  by_cases h1 : p.f + p.n ≤ f
  · rw [if_pos h1, if_pos (by split <;> split <;> omega), if_pos h1]
    rfl
  · rw [if_neg h1, if_neg h1]
    by_cases h2 : p.f < f
    · rw [if_pos h2, if_pos h2, if_pos h2, if_pos h2]
      simp only [List.flatMap_cons, List.flatMap_nil, List.append_nil]
      have er : (rgt f p).f + (rgt f p).n = p.f + p.n := by simp only [rgt]; omega
      rw [er, show (rgt f p).f = f from rfl]
      by_cases h3 : p.f + p.n ≤ e
      · rw [if_pos h3, if_neg (show ¬ e < p.f + p.n by omega), if_neg (by omega), if_neg (by omega)]
        rfl
      · rw [if_neg h3, if_pos (show e < p.f + p.n by omega), if_neg (by omega), if_pos hfe, if_pos (by omega)]
        congr 2
        exact pc_eq rfl (by simp only [rgt]; omega) (by simp only [rgt]; omega) rfl
    · rw [if_neg h2, if_neg h2, if_neg h2]
      simp only [List.flatMap_cons, List.flatMap_nil, List.append_nil, List.nil_append]
      rw [if_neg (show ¬ p.f < p.f by omega)]
      by_cases h3 : p.f + p.n ≤ e
      · rw [if_pos h3, if_neg (show ¬ e < p.f + p.n by omega), if_neg (by omega), if_neg (by omega)]
        rfl
      · rw [if_neg h3, if_pos (show e < p.f + p.n by omega)]
        by_cases h4 : p.f < e
        · rw [if_pos h4, if_neg (by omega), if_pos (by omega)]
          show [_] = [_]
          congr 1
          exact pc_eq rfl (by simp only [rgt]; omega) (by simp only [rgt]; omega) rfl
        · rw [if_neg h4, if_pos (by omega)]
theorem innL_cut {f e : Int} (hfe : f ≤ e) : ∀ {l : List Pc}, (∀ p, p ∈ l → pok p) → cutA e (cutB f l) = innL f e l
  | [], _ => rfl
  | p :: l, h => by
    have ih := innL_cut hfe (l := l) (fun q hq => h q (by simp [hq]))
    have e1 : cutA e (cutB f (p :: l)) = (bhd f p).flatMap (ahd e) ++ cutA e (cutB f l) := by simp [cutA, cutB]
    rw [e1, ih, inn_cut (h p (by simp)) hfe]
    simp [innL]
theorem outL_cut {f e : Int} (hfe : f < e) : ∀ {l : List Pc}, Rs l → cutA f l ++ cutB e (cutB f l) = outL f e l
  | [], _ => rfl
  | p :: l, h => by
    obtain ⟨h1, h2, h3⟩ := Rs.tl h
    have ih := outL_cut hfe (l := l) h1
    have e1 : cutA f (p :: l) = ahd f p ++ cutA f l := by simp [cutA]
    have e2 : cutB e (cutB f (p :: l)) = (bhd f p).flatMap (bhd e) ++ cutB e (cutB f l) := by simp [cutB]
    have e3 : outL f e (p :: l) = outP f e p ++ outL f e l := by simp [outL]
    rw [e1, e2, e3, out_cut h3 hfe, ← ih]
    by_cases hb : (bhd f p).flatMap (bhd e) = []
    · rw [hb]
      simp
    · have hend : e < p.f + p.n := by
        unfold pok at h3
        by_cases c : e < p.f + p.n
        · exact c
        · exfalso
          apply hb
          unfold bhd
          split
          · rfl
          · split
            · simp only [List.flatMap_cons, List.flatMap_nil, List.append_nil]
              rw [if_pos (by simp only [rgt]; omega)]
            · simp only [List.flatMap_cons, List.flatMap_nil, List.append_nil]
              rw [if_pos (by omega)]
      have ha := all_behind (t := f) (l := l) (fun q hq => by
        have k1 := h2 q hq
        have k2 := h1.1 q hq
        unfold pok at k2
        exact ⟨by omega, by omega⟩)
      rw [ha.1]
      simp
theorem outP_sub {f e : Int} {p : Pc} (hp : pok p) (hfe : f ≤ e) : (∀ q, q ∈ outP f e p → Sub q p) ∧ (outP f e p).Pairwise Rel := by
  have hp' := hp
  unfold pok at hp
  unfold outP
  by_cases h1 : hiP e p ≤ loP f p
  · rw [if_pos h1]
    refine ⟨fun q hq => ?_, by simp⟩
    simp at hq
    subst hq
    exact Sub.refl hp'
  · rw [if_neg h1]
    have hl : p.f ≤ loP f p := by unfold loP; split <;> omega
    have hh : hiP e p ≤ p.f + p.n := by unfold hiP; split <;> omega
    refine ⟨fun q hq => ?_, ?_⟩
    · rcases List.mem_append.1 hq with hq | hq
      · split at hq
        · simp at hq
          subst hq
          unfold Sub
          simp
          omega
        · simp at hq
      · split at hq
        · simp at hq
          subst hq
          unfold Sub
          simp
          omega
        · simp at hq
    · rw [List.pairwise_append]
      refine ⟨by split <;> simp, by split <;> simp, fun x hx y hy => ?_⟩
      split at hx
      · split at hy
        · simp at hx hy
          subst hx hy
          unfold Rel ovD
          refine ⟨by simp only; omega, by simp; omega, ?_⟩
          cases hg : goes (⟨p.f, loP f p - p.f, p.a, p.z⟩ : Pc) ⟨hiP e p, p.f + p.n - hiP e p, p.a + hiP e p - p.f, p.z⟩
          · rfl
          · have := goes_iff.1 hg
            simp only at this
            omega
        · simp at hy
      · simp at hx
theorem outL_gd {f e : Int} (hfe : f ≤ e) {l : List Pc} (h : Gd l) : Gd (outL f e l) := (flat_gd (fun p hp => outP_sub hp hfe) h).1
theorem innP_sub {f e : Int} {p : Pc} (hp : pok p) : (∀ q, q ∈ innP f e p → Sub q p) ∧ (innP f e p).Pairwise Rel := by
  unfold pok at hp
  unfold innP
  by_cases h1 : hiP e p ≤ loP f p
  · rw [if_pos h1]
    simp
  · rw [if_neg h1]
    have hl : p.f ≤ loP f p := by unfold loP; split <;> omega
    have hh : hiP e p ≤ p.f + p.n := by unfold hiP; split <;> omega
    refine ⟨fun q hq => ?_, by simp⟩
    simp at hq
    subst hq
    unfold Sub
    simp
    omega
theorem innL_gd {f e : Int} {l : List Pc} (h : Gd l) : Gd (innL f e l) := (flat_gd (fun p hp => innP_sub hp) h).1
theorem len_innL {f e : Int} (l : List Pc) : (innL f e l).length ≤ l.length := by
  unfold innL
  induction l with
  | nil => simp
  | cons p l ih =>
    rw [List.flatMap_cons, List.length_append, List.length_cons]
    have : (innP f e p).length ≤ 1 := by unfold innP; split <;> simp
    omega
theorem len_outL {f e : Int} (l : List Pc) : (outL f e l).length ≤ l.length * 2 := by
  unfold outL
  induction l with
  | nil => simp
  | cons p l ih =>
    rw [List.flatMap_cons, List.length_append, List.length_cons]
    have : (outP f e p).length ≤ 2 := by
      unfold outP
      split
      · simp
      · rw [List.length_append]
        split <;> split <;> simp
    omega
theorem outL_none {f : Int} {l : List Pc} : outL f f l = l := by
  unfold outL
  induction l with
  | nil => rfl
  | cons p l ih =>
    rw [List.flatMap_cons, ih]
    have : outP f f p = [p] := by
      unfold outP
      rw [if_pos]
      unfold loP hiP
      split <;> split <;> omega
    rw [this]
    rfl
theorem cutB_twice {f : Int} {l : List Pc} (h : ∀ p, p ∈ l → pok p) : cutB f (cutB f l) = cutB f l := by
  refine (all_behind (t := f) (l := cutB f l) (fun q hq => ?_)).2
  unfold cutB at hq
  obtain ⟨p, hp, hq⟩ := List.mem_flatMap.1 hq
  have h1 := (bhd_sub (t := f) (h p hp)).1 q hq
  have h2 := h1.1
  unfold Sub at h2
  exact ⟨by omega, h2.1⟩
theorem join_back {f : Int} {l : List Pc} (h : Gd l) : jnP (cutA f l ++ cutB f l) = l := by
  by_cases hk : lbF f l = 0 ∨ (gp l (lbF f l - 1)).f + (gp l (lbF f l - 1)).n ≤ f
  · obtain ⟨e1, e2⟩ := cut_clean h.rs hk
    rw [e1, e2, List.take_append_drop]
    exact jnP_gd h
  · obtain ⟨k, ek⟩ : ∃ k, lbF f l = k + 1 := ⟨lbF f l - 1, by omega⟩
    rw [ek] at hk
    simp only [Nat.add_sub_cancel] at hk
    have hc : f < (gp l k).f + (gp l k).n := by omega
    obtain ⟨e1, e2⟩ := cut_half h.rs ek hc
    have hle := lbF_le f l
    have hkl : k < l.length := by omega
    have ga := h.cutA (t := f)
    have j1 := jnP_gd ga
    rw [e1] at j1
    rw [e1, e2]
    unfold jnP at *
    rw [List.foldl_append, j1, List.foldl_cons]
    have hg : goes (lft f (gp l k)) (rgt f (gp l k)) = true := goes_iff.2 ⟨by simp only [lft, rgt]; omega, by simp only [lft, rgt], rfl⟩
    rw [jstP_yes hg]
    have ep : (⟨(lft f (gp l k)).f, (lft f (gp l k)).n + (rgt f (gp l k)).n, (lft f (gp l k)).a, (lft f (gp l k)).z⟩ : Pc) = gp l k := pc_eq rfl (by simp only [lft, rgt]; omega) rfl rfl
    rw [ep, ← take_gp hkl]
    have hf := fold_gd (m := l.drop (k + 1)) (acc := l.take (k + 1)) (by rw [List.take_append_drop]; exact h.2)
    rw [List.take_append_drop] at hf
    exact hf
/-- What the program joins again is what the specification leaves. -/
theorem punch_eq {f e : Int} (hfe : f ≤ e) {l : List Pc} (h : Gd l) : jnP (cutA f l ++ cutB e (cutB f l)) = outL f e l := by
  by_cases hlt : f < e
  · rw [outL_cut hlt h.rs]
    exact jnP_gd (outL_gd hfe h)
  · obtain rfl : f = e := by omega
    rw [cutB_twice h.1, outL_none]
    exact join_back h
end Go.Proofs.Ytdbmdblghlfjfaa
