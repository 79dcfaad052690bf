import Derived.Test.YtfmgaenedkjmkaaGc
/- The specification: a bucket of one's own exchanged in place. -/
namespace Go.Proofs.Ytfmgaenedkjmkaa
open Go.ChangeShapes Go.WideShapes Go.ChangeAt Go.RowKit
set_option linter.unusedVariables false
open Hd

attribute [local go_sem] Oper.semAt_some

theorem GB.put {w : World} {B gB m cap k g : Nat} {N : List Bk} {kb : Nat → Nat} {dp : Int} {l : List Nm} {p : Value} (h : GB w B (.slice (some ⟨gB, 0, none⟩) m cap) N kb) (hm : N.length = m) (hk : k < m) (hp : NB w B w.heap.size p l g) (hg : l ≠ [] → ∀ r, r < m → r ≠ k → (gb N r).ns ≠ [] → kb r ≠ g) :
    GB ((w.setCell ⟨gB, k * 2, none⟩ (.int .i64 dp)).setCell ⟨gB, k * 2 + 1, none⟩ p) B (.slice (some ⟨gB, 0, none⟩) m cap) (N.set k ⟨dp, l⟩) (kbPut kb k g) := by
  obtain ⟨⟨xs, ho, hx⟩, hd⟩ := h
  obtain ⟨h1, h2⟩ := ho
  rcases h2 with ⟨e1, -⟩ | ⟨g', cap', cur, e1, hb, hcB, hc, hmx, hcs, htk⟩
  · cases e1
  simp only [Value.slice.injEq, Option.some.injEq, Addr.mk.injEq] at e1
  obtain ⟨⟨rfl, -⟩, -, rfl⟩ := e1
  have o := ((Out.refl gB (gB + 1) w).setCell (Nat.le_refl _) (Nat.lt_succ_self _) (k * 2) (.int .i64 dp)).setCell (Nat.le_refl _) (Nat.lt_succ_self _) (k * 2 + 1) p
  have hl : (N.set k (⟨dp, l⟩ : Bk)).length = N.length := by simp
  have hsz : m * 2 ≤ cur.size := by rw [hcs]; exact Nat.mul_le_mul_right _ (by omega)
  have hxl : xs.length = m * 2 := by rw [h1, hm]
  have keep : ∀ {p : Value} {l : List Nm} {g : Nat}, NB w B w.heap.size p l g → NB ((w.setCell ⟨gB, k * 2, none⟩ (.int .i64 dp)).setCell ⟨gB, k * 2 + 1, none⟩ p) B ((w.setCell ⟨gB, k * 2, none⟩ (.int .i64 dp)).setCell ⟨gB, k * 2 + 1, none⟩ p).heap.size p l g := fun {p l g} h => by
    have o' := ((Out.refl gB (gB + 1) w).setCell (Nat.le_refl _) (Nat.lt_succ_self _) (k * 2) (.int .i64 dp)).setCell (Nat.le_refl _) (Nat.lt_succ_self _) (k * 2 + 1) p
    refine (h.out o' fun hn => ?_).mono (Nat.le_refl _) o'.size
    obtain ⟨-, -, c1, e1⟩ := h.type hn
    by_cases e : g = gB
    · rw [e, hcB] at e1
      simp at e1
    · omega
  have keep2 : ∀ {p' : Value} {l' : List Nm} {g' : Nat}, NB w B w.heap.size p' l' g' → NB ((w.setCell ⟨gB, k * 2, none⟩ (.int .i64 dp)).setCell ⟨gB, k * 2 + 1, none⟩ p) B ((w.setCell ⟨gB, k * 2, none⟩ (.int .i64 dp)).setCell ⟨gB, k * 2 + 1, none⟩ p).heap.size p' l' g' := fun {p' l' g'} h => by
    refine (h.out o fun hn => ?_).mono (Nat.le_refl _) o.size
    obtain ⟨-, -, c1, e1⟩ := h.type hn
    by_cases e : g' = gB
    · rw [e, hcB] at e1
      simp at e1
    · omega
  refine ⟨⟨(xs.set (k * 2) (.int .i64 dp)).set (k * 2 + 1) p, ⟨by rw [hl]; simpa using h1, .inr ⟨gB, cap, (cur.setIfInBounds (k * 2) (.int .i64 dp)).setIfInBounds (k * 2 + 1) p, by rw [hl, hm], hb, block_set (block_set hcB), by rw [hl]; exact hc, hmx, by simpa using hcs, ?_⟩⟩, fun i hi => ?_⟩, fun r r' hr hr' hne n1 n2 => ?_⟩
  · rw [hl]
    rw [← htk]
    apply List.ext_getElem?
    intro j
    simp only [Array.toList_setIfInBounds]
    rw [List.getElem?_take]
    by_cases hj : j < N.length * 2
    · rw [if_pos hj]
      simp only [List.getElem?_set, List.length_set, List.length_take, List.getElem?_take, if_pos hj, Array.length_toList]
      have a1 : k * 2 + 1 < cur.size := by omega
      have a2 : k * 2 < cur.size := by omega
      have a3 : k * 2 + 1 < min (N.length * 2) cur.size := by omega
      have a4 : k * 2 < min (N.length * 2) cur.size := by omega
      simp only [if_pos a1, if_pos a2, if_pos a3, if_pos a4]
    · rw [if_neg hj, List.getElem?_eq_none]
      simp
      omega
  · rw [hl] at hi
    by_cases e : i = k
    · subst e
      rw [kbPut_0]
      have eg : gb (N.set i ⟨dp, l⟩) i = ⟨dp, l⟩ := by rw [gb_set (by omega), if_pos rfl]
      rw [eg]
      exact ⟨by rw [List.getElem?_set_ne (by omega), List.getElem?_set_self (by omega)], p, by rw [List.getElem?_set_self (by simp; omega)], keep2 hp⟩
    · have eg : gb (N.set k ⟨dp, l⟩) i = gb N i := by rw [gb_set (by omega), if_neg e]
      obtain ⟨k0, p', k1, k3⟩ := hx i hi
      rw [kbPut_ne _ _ _ e, eg]
      exact ⟨by rw [List.getElem?_set_ne (by omega), List.getElem?_set_ne (by omega)]; exact k0, p', by rw [List.getElem?_set_ne (by omega), List.getElem?_set_ne (by omega)]; exact k1, keep2 k3⟩
  · rw [hl] at hr hr'
    rw [gb_set (by omega)] at n1 n2
    by_cases a1 : r = k
    · by_cases a2 : r' = k
      · omega
      · rw [if_pos a1] at n1
        rw [if_neg a2] at n2
        rw [a1, kbPut_0, kbPut_ne _ _ _ a2]
        exact (hg n1 r' (by omega) a2 n2).symm
    · rw [if_neg a1] at n1
      by_cases a2 : r' = k
      · rw [if_pos a2] at n2
        rw [a2, kbPut_0, kbPut_ne _ _ _ a1]
        exact hg n2 r (by omega) a1 n1
      · rw [if_neg a2] at n2
        rw [kbPut_ne _ _ _ a1, kbPut_ne _ _ _ a2]
        exact hd r r' hr hr' hne n1 n2
end Go.Proofs.Ytfmgaenedkjmkaa
