import Derived.Test.YtfmgaenedkjmkaaC4
/- A directory of one's own, as the specification copies it. -/
namespace Go.Proofs.Ytfmgaenedkjmkaa
open Go.ChangeShapes Go.WideShapes Go.ChangeAt Go.RowKit
set_option linter.unusedVariables false
open Hd

attribute [local go_sem] Oper.semAt_some

theorem own_row {w : World} {B : Nat} {e : TypeId} {size n : Nat} {v : Value} {xs : List Value} (h : w.ownsRow B e size v n xs) (g : Nat) (hg : v.ownBlock = some g) : B ≤ g ∧ ∃ cs, w.heap[g]? = some (.cells cs e (0, 0)) := by
  rcases h.2 with ⟨rfl, -⟩ | ⟨g', cap, cur, rfl, hb, hc, -⟩
  · cases hg
  · cases hg
    exact ⟨hb, cur, hc⟩
theorem own_empty (w : World) (e : TypeId) (size : Nat) : (w.alloc (.cells #[] e)).ownsRow w.heap.size e size (.slice (some ⟨w.heap.size, 0, none⟩) 0 0) 0 [] := ⟨by simp, .inr ⟨w.heap.size, 0, #[], rfl, Nat.le_refl _, al1 _ _, Nat.le_refl _, Nat.zero_le _, by simp, by simp⟩⟩
/-- A row of buckets that may be appended to; each row of names that is not empty lies in a block of its own. -/
def GB (w : World) (B : Nat) (v : Value) (N : List Bk) (kb : Nat → Nat) : Prop :=
  (∃ xs, w.ownsRow B 63 2 v N.length xs ∧ ∀ i, i < N.length → xs[i * 2]? = some (.int .i64 (gb N i).dp) ∧ ∃ p, xs[i * 2 + 1]? = some p ∧ NB w B w.heap.size p (gb N i).ns (kb i)) ∧
  ∀ r r', r < N.length → r' < N.length → r ≠ r' → (gb N r).ns ≠ [] → (gb N r').ns ≠ [] → kb r ≠ kb r'
theorem GB.nil (w : World) (B : Nat) (kb : Nat → Nat) : GB w B (.slice none 0 0) [] kb := ⟨⟨[], ⟨rfl, .inl ⟨rfl, rfl⟩⟩, fun i hi => absurd hi (by simp)⟩, fun r r' h => absurd h (by simp)⟩
theorem NB.type {w : World} {B C : Nat} {v : Value} {l : List Nm} {g : Nat} (h : NB w B C v l g) (hn : l ≠ []) : B ≤ g ∧ g < C ∧ ∃ cs, w.heap[g]? = some (.cells cs 36 (0, 0)) := by
  obtain ⟨a, c, -, -, hr⟩ := h
  obtain ⟨-, h1, h2, cs, h4, -⟩ := hr hn
  exact ⟨h1, h2, cs, h4⟩
theorem GB.row {w : World} {B : Nat} {v : Value} {N : List Bk} {kb : Nat → Nat} (h : GB w B v N kb) {r : Nat} (hr : r < N.length) (hn : (gb N r).ns ≠ []) : B ≤ kb r ∧ kb r < w.heap.size ∧ ∃ cs, w.heap[kb r]? = some (.cells cs 36 (0, 0)) := by
  obtain ⟨⟨xs, -, hx⟩, -⟩ := h
  obtain ⟨-, p, -, h1⟩ := hx r hr
  exact h1.type hn
theorem GB.below {w w' : World} {B : Nat} {v : Value} {N : List Bk} {kb : Nat → Nat} (h : GB w B v N kb) (hb : Below w.heap.size w w') : GB w' B v N kb := by
  obtain ⟨⟨xs, ho, hx⟩, hd⟩ := h
  exact ⟨⟨xs, owns_below ho hb, fun i hi => by obtain ⟨h0, p, h1, h2⟩ := hx i hi; exact ⟨h0, p, h1, (h2.below hb).mono (Nat.le_refl _) hb.size⟩⟩, hd⟩
theorem gb_app_lt {N M : List Bk} {i : Nat} (h : i < N.length) : gb (N ++ M) i = gb N i := by simp [gb, List.getElem?_append_left h]
theorem gb_app_eq (N : List Bk) (x : Bk) : gb (N ++ [x]) N.length = x := by simp [gb]
/-- A bucket more. -/
theorem GB.snoc {w w' : World} {B : Nat} {v v' : Value} {N : List Bk} {kb : Nat → Nat} {xs : List Value} {dp : Int} {l : List Nm} {p : Value} {g : Nat}
    (ho0 : w.ownsRow B 63 2 v N.length xs) (hx : ∀ i, i < N.length → xs[i * 2]? = some (.int .i64 (gb N i).dp) ∧ ∃ p, xs[i * 2 + 1]? = some p ∧ NB w B w.heap.size p (gb N i).ns (kb i))
    (hd : ∀ r r', r < N.length → r' < N.length → r ≠ r' → (gb N r).ns ≠ [] → (gb N r').ns ≠ [] → kb r ≠ kb r')
    (ho : w'.ownsRow B 63 2 v' (N.length + 1) (xs ++ [.int .i64 dp, p])) (hg : w.grownBy w' v.ownBlock) (h1 : NB w B w.heap.size p l g)
    (d1 : l ≠ [] → ∀ r, r < N.length → (gb N r).ns ≠ [] → kb r ≠ g) : GB w' B v' (N ++ [⟨dp, l⟩]) (kbPut kb N.length g) := by
  have hxl : xs.length = N.length * 2 := ho0.1
  have keep : ∀ {p : Value} {l : List Nm} {g : Nat}, NB w B w.heap.size p l g → NB w' B w'.heap.size p l g := fun {p l g} h => by
    refine (h.same fun hn hl => hg.block _ hl fun e => ?_).mono (Nat.le_refl _) hg.size
    obtain ⟨-, -, c1, e1⟩ := h.type hn
    obtain ⟨-, c2, e2⟩ := own_row ho0 _ e.symm
    rw [e1] at e2
    simp at e2
  have hl : (N ++ [(⟨dp, l⟩ : Bk)]).length = N.length + 1 := by simp
  refine ⟨⟨xs ++ [.int .i64 dp, p], by rw [hl]; exact ho, fun i hi => ?_⟩, ?_⟩
  · rw [hl] at hi
    by_cases e : i = N.length
    · subst e
      rw [gb_app_eq]
      refine ⟨?_, p, ?_, ?_⟩
      · rw [List.getElem?_append_right (by omega), hxl]; simp
      · rw [List.getElem?_append_right (by omega), hxl, show N.length * 2 + 1 - N.length * 2 = 1 by omega]; rfl
      · rw [kbPut_0]; exact keep h1
    · obtain ⟨k0, p', k1, k3⟩ := hx i (by omega)
      rw [gb_app_lt (by omega), kbPut_ne _ _ _ e]
      exact ⟨by rw [List.getElem?_append_left (by omega)]; exact k0, p', by rw [List.getElem?_append_left (by omega)]; exact k1, keep k3⟩
  · intro r r' hr hr' hne n1 n2
    rw [hl] at hr hr'
    by_cases a1 : r = N.length
    · subst a1
      rw [gb_app_eq] at n1
      rw [gb_app_lt (by omega)] at n2
      rw [kbPut_0, kbPut_ne _ _ _ (Ne.symm hne)]
      exact (d1 n1 r' (by omega) n2).symm
    · rw [gb_app_lt (by omega)] at n1
      rw [kbPut_ne _ _ _ a1]
      by_cases b1 : r' = N.length
      · subst b1
        rw [gb_app_eq] at n2
        rw [kbPut_0]
        exact d1 n2 r (by omega) n1
      · rw [gb_app_lt (by omega)] at n2
        rw [kbPut_ne _ _ _ b1]
        exact hd r r' (by omega) (by omega) hne n1 n2
/-- What grew is a directory's row of buckets. -/
theorem GB.bown {w : World} {B gs : Nat} {v : Value} {N : List Bk} {kb : Nat → Nat} (h : GB w B v N kb) (hgs : ∀ c e, w.heap[gs]? = some (.cells c e (0, 0)) → e ≠ 63 ∧ e ≠ 36) : ∃ a c, v = .slice a N.length c ∧ N.length ≤ c ∧ BOwn w B w.heap.size gs a N := by
  have hrow := fun r => h.row (r := r)
  obtain ⟨⟨xs, ho, hx⟩, hd⟩ := h
  rcases ho.2 with ⟨rfl, h0⟩ | ⟨g, cap, cur, rfl, hb, hg, hc, hm, hcs, ht⟩
  · exact ⟨none, 0, by rw [h0], by omega, fun hn => absurd (List.eq_nil_of_length_eq_zero h0) hn⟩
  · refine ⟨_, cap, rfl, hc, fun _ => ⟨g, cur, kb, hb, box_lt hg, rfl, hg, by rw [hcs]; exact Nat.mul_le_mul_right 2 hc, fun i hi => ?_, fun e => ?_, fun r hr hn => ⟨fun e => ?_, fun e => ?_, fun r' hr' hn' => hd r' r (by omega) hr (by omega) hn' hn⟩⟩⟩
    · have at' : ∀ (j : Nat) (u : Value), xs[j]? = some u → cur[j]? = some u := fun j u hj => by
        rw [← ht, List.getElem?_take] at hj
        split at hj
        · simpa using hj
        · simp at hj
      obtain ⟨k0, p, k1, k3⟩ := hx i hi
      exact ⟨at' _ _ k0, p, at' _ _ k1, k3⟩
    · subst e
      exact (hgs _ _ hg).1 rfl
    · obtain ⟨-, -, c1, e1⟩ := hrow r hr hn
      rw [e, hg] at e1
      simp at e1
    · obtain ⟨-, -, c1, e1⟩ := hrow r hr hn
      rw [e] at e1
      exact (hgs _ _ e1).2 rfl
end Go.Proofs.Ytfmgaenedkjmkaa
