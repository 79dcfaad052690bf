import Derived.Test.YtienhdlhlddemaaTJ
import Derived.Test.YtienhdlhlddemaaTG
import Derived.Test.YtienhdlhlddemaaF1
import Derived.Test.YtienhdlhlddemaaV8
/- impl.TakePicture. -/
namespace Go.Proofs.Ytienhdlhlddemaa
open Go.ChangeShapes Go.WideShapes Go.ChangeAt Go.RowKit
set_option linter.unusedVariables false
open Hd

attribute [local go_sem] Oper.semAt_some

def zCo : Co := ⟨[], [], 0⟩
theorem zCo_own {w : World} {B C : Nat} (h : B ≤ C) : Fk.WOwn w B C zk zCo :=
  ⟨none, 0, .slice none 0 0, C, B, C, rfl, Nat.le_refl _, Nat.le_refl _, Nat.le_refl _, .inr (Nat.le_refl _), IB.nil, fun h => absurd rfl h⟩
/-- What TakePicture tells. -/
def tkD (c : Co) (x : Int) : Co := if tkB c x = true then tkV c x.toNat else zCo
theorem tk_pos {c : Co} (hg : gI c = true) {p : Nat} (hp : p < c.rs.length) : ∀ i, i < c.cs.length → 0 < gi ((c.rs ++ [gi c.rs p]).foldl (mt c.cs c.lv.toNat) (zer c.cs.length)) i → (gc c.cs i).ct ≠ 0 := fun i hi h => by
  have hM := met_more hg p hp
  unfold met at hM
  rw [hM] at h
  by_cases hk : gi c.rs p = -1
  · rw [if_pos hk, gi_ct hi] at h
    omega
  · rw [if_neg hk] at h
    rcases gI_root hg hp with h1 | ⟨q, h1, h2⟩
    · exact absurd h1 hk
    · rw [h1] at h
      simp only [Int.toNat_natCast] at h
      by_cases e : q = i
      · subst e
        obtain ⟨-, hok, hro, hm⟩ := gI_parts hg
        obtain ⟨-, -, -, hl1, hl3⟩ := gI_few' hg
        have ho := hro (gi c.rs p) (by rw [gi_eq hp]; exact List.getElem_mem _)
        obtain ⟨l, hl⟩ : ∃ l, c.lv.toNat = l + 1 := ⟨c.lv.toNat - 1, by omega⟩
        rw [hl, h1] at ho
        rcases isO_succ.1 ho with h | ⟨-, hct, -, -⟩
        · omega
        · simpa using hct
      · rw [gi_set_ne e, gi_ct hi] at h
        omega
end Go.Proofs.Ytienhdlhlddemaa
