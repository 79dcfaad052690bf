import Derived.Test.YtienhdlhlddemaaG1
/- Pure: a picture taken, and what is closed. -/
namespace Go.Proofs.Ytienhdlhlddemaa.Hd
set_option linter.unusedVariables false

/-- One who has a cell more. -/
def oneMore (L : List Ce) (k : Int) : List Ce := if k < 0 then L else L.set k.toNat ⟨(gc L k.toNat).ct + 1, (gc L k.toNat).lf, (gc L k.toNat).kd⟩
/-- The cells that are met, as often as they are. -/
def clo (L : List Ce) (m : List Int) : List Ce := (List.range L.length).map fun i => if 0 < gi m i then ⟨gi m i, (gc L i).lf, (gc L i).kd⟩ else ce0
theorem clo_len (L : List Ce) (m : List Int) : (clo L m).length = L.length := by simp [clo]
theorem clo_at {L : List Ce} {m : List Int} {i : Nat} (h : i < L.length) : gc (clo L m) i = if 0 < gi m i then ⟨gi m i, (gc L i).lf, (gc L i).kd⟩ else ce0 := by simp [clo, gc, h]
theorem oneMore_len (L : List Ce) (k : Int) : (oneMore L k).length = L.length := by unfold oneMore; split <;> simp
theorem oneMore_at {L : List Ce} {q i : Nat} (hq : q < L.length) : gc (oneMore L (q : Int)) i = if q = i then ⟨(gc L q).ct + 1, (gc L q).lf, (gc L q).kd⟩ else gc L i := by
  unfold oneMore
  rw [if_neg (by omega), Int.toNat_natCast]
  by_cases e : q = i
  · subst e
    rw [if_pos rfl]
    simp [gc, hq]
  · rw [if_neg e]
    simp [gc, e]
theorem ce_ext {L M : List Ce} (hl : L.length = M.length) (h : ∀ i, i < L.length → gc L i = gc M i) : L = M := by
  apply List.ext_getElem hl
  intro i h1 h2
  have := h i h1
  rwa [gc_eq h1, gc_eq h2] at this
theorem gi_ct {L : List Ce} {i : Nat} (h : i < L.length) : gi (L.map (·.ct)) i = (gc L i).ct := by simp [gi, gc, h]
/-- What is met, with one root more. -/
theorem met_more {c : Co} (hg : gI c = true) (p : Nat) (hp : p < c.rs.length) :
    met c (c.rs ++ [gi c.rs p]) = if gi c.rs p = -1 then c.cs.map (·.ct) else (c.cs.map (·.ct)).set (gi c.rs p).toNat ((gc c.cs (gi c.rs p).toNat).ct + 1) := by
  obtain ⟨-, hok, hro, hm⟩ := gI_parts hg
  obtain ⟨-, -, -, hl1, hl3⟩ := gI_few' hg
  have ho := hro (gi c.rs p) (by rw [gi_eq hp]; exact List.getElem_mem _)
  have e : met c (c.rs ++ [gi c.rs p]) = mt c.cs c.lv.toNat (met c c.rs) (gi c.rs p) := by
    unfold met
    rw [List.foldl_append]
    rfl
  rw [e, hm]
  clear e
  generalize gi c.rs p = k at *
  obtain ⟨l, hl⟩ : ∃ l, c.lv.toNat = l + 1 := ⟨c.lv.toNat - 1, by omega⟩
  rw [hl] at ho ⊢
  by_cases hk : k = -1
  · subst hk
    rw [mt_m1, if_pos rfl]
  · rw [if_neg hk]
    rcases isO_succ.1 ho with h | ⟨hr, hct, -, -⟩
    · exact absurd h hk
    · obtain ⟨q, rfl⟩ : ∃ q : Nat, k = q := ⟨k.toNat, by have := hr.1; omega⟩
      rw [Int.toNat_natCast] at hct ⊢
      have hq : q < c.cs.length := by have := hr.2; omega
      rw [mt_nat (by simpa using hq), gi_ct hq, if_neg (by omega)]
/-- A picture taken: closing gives back each cell, one more at the root. -/
theorem take_clo {c : Co} (hg : gI c = true) (p : Nat) (hp : p < c.rs.length) : clo c.cs (met c (c.rs ++ [gi c.rs p])) = oneMore c.cs (gi c.rs p) := by
  have hM := met_more hg p hp
  obtain ⟨-, hok, hro, hm⟩ := gI_parts hg
  obtain ⟨-, -, -, hl1, hl3⟩ := gI_few' hg
  have ho := hro (gi c.rs p) (by rw [gi_eq hp]; exact List.getElem_mem _)
  rw [hM]
  clear hM
  generalize gi c.rs p = k at *
  have free : ∀ i, i < c.cs.length → (gc c.cs i).ct = 0 → gc c.cs i = ce0 := fun i hi h0 => by
    have h1 := hok i hi
    unfold okC at h1
    rw [if_pos h0] at h1
    simp at h1
    generalize gc c.cs i = x at *
    obtain ⟨ct, lf, kd⟩ := x
    simp only at h0 h1
    obtain ⟨e1, rfl⟩ := h1
    subst h0
    have : lf = ⟨#[]⟩ := e1
    subst this
    rfl
  refine ce_ext (by rw [clo_len, oneMore_len]) (fun i hi => ?_)
  rw [clo_len] at hi
  rw [clo_at hi]
  have hc0 := gI_ct hg i hi
  by_cases hk : k = -1
  · subst hk
    have h1 : oneMore c.cs (-1) = c.cs := by unfold oneMore; rw [if_pos (by omega)]
    rw [if_pos rfl, gi_ct hi, h1]
    by_cases h0 : (gc c.cs i).ct = 0
    · rw [if_neg (by omega), free i hi h0]
    · rw [if_pos (by omega)]
  · rw [if_neg hk]
    obtain ⟨l, hl⟩ : ∃ l, c.lv.toNat = l + 1 := ⟨c.lv.toNat - 1, by omega⟩
    rw [hl] at ho
    rcases isO_succ.1 ho with h | ⟨hr, hct, -, -⟩
    · exact absurd h hk
    · obtain ⟨q, rfl⟩ : ∃ q : Nat, k = q := ⟨k.toNat, by have := hr.1; omega⟩
      rw [Int.toNat_natCast] at hct ⊢
      have hq : q < c.cs.length := by have := hr.2; omega
      rw [oneMore_at hq]
      by_cases e : q = i
      · subst e
        rw [if_pos rfl, gi_set (by simpa using hq), if_pos (by omega)]
      · rw [if_neg e, gi_set_ne e, gi_ct hi]
        by_cases h0 : (gc c.cs i).ct = 0
        · rw [if_neg (by omega), free i hi h0]
        · rw [if_pos (by omega)]
end Go.Proofs.Ytienhdlhlddemaa.Hd
