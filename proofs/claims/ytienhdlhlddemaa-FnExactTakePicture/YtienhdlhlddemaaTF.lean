import Derived.Test.YtienhdlhlddemaaTE
import Derived.Test.YtienhdlhlddemaaTB
/- The specification: what each step of a picture taken keeps. -/
namespace Go.Proofs.Ytienhdlhlddemaa
open Go.ChangeShapes Go.WideShapes Go.ChangeAt Go.RowKit
set_option linter.unusedVariables false
open Hd

theorem flat3_len {f : Nat → List Value} (hf : ∀ i, (f i).length = 3) : ∀ n, ((List.range n).flatMap f).length = n * 3
  | 0 => rfl
  | n + 1 => by rw [List.range_succ, List.flatMap_append, List.length_append, flat3_len hf n]; simp [hf]; omega
theorem flat3 {f : Nat → List Value} (hf : ∀ i, (f i).length = 3) : ∀ n i r, i < n → r < 3 → ((List.range n).flatMap f)[i * 3 + r]? = (f i)[r]?
  | 0, i, r, h, _ => absurd h (by omega)
  | n + 1, i, r, h, hr => by
    rw [List.range_succ, List.flatMap_append]
    by_cases e : i < n
    · rw [List.getElem?_append_left (by rw [flat3_len hf]; omega)]
      exact flat3 hf n i r e hr
    · have : i = n := by omega
      subst this
      rw [List.getElem?_append_right (by rw [flat3_len hf]; omega), flat3_len hf]
      simp
theorem cvs_len (L : List Ce) (ks : Nat → Option Addr × Nat) : (cvs L ks).length = L.length * 3 := flat3_len (fun _ => rfl) _
theorem cvs_at (L : List Ce) (ks : Nat → Option Addr × Nat) {i r : Nat} (hi : i < L.length) (hr : r < 3) : (cvs L ks)[i * 3 + r]? = [Value.int .i64 (gc L i).ct, .string (gc L i).lf, .slice (ks i).1 (gc L i).kd.length (ks i).2][r]? := flat3 (f := fun i => [Value.int .i64 (gc L i).ct, .string (gc L i).lf, .slice (ks i).1 (gc L i).kd.length (ks i).2]) (fun _ => rfl) _ _ _ hi hr
theorem cvs_more {L : List Ce} (ks : Nat → Option Addr × Nat) {q : Nat} (hq : q < L.length) : (cvs L ks).set (q * 3) (.int .i64 ((gc L q).ct + 1)) = cvs (oneMore L (q : Int)) ks := by
  apply List.ext_getElem?
  intro j
  by_cases hj : j < L.length * 3
  · have e : j = j / 3 * 3 + j % 3 := by omega
    have hr : j % 3 < 3 := Nat.mod_lt _ (by omega)
    have hi : j / 3 < L.length := by omega
    have h1 := cvs_at L ks hi hr
    have h2 := cvs_at (oneMore L (q : Int)) ks (i := j / 3) (by rw [oneMore_len]; exact hi) hr
    rw [← e] at h1 h2
    rw [h2, oneMore_at hq, List.getElem?_set]
    by_cases e1 : q * 3 = j
    · have e2 : q = j / 3 := by omega
      have e3 : j % 3 = 0 := by omega
      rw [if_pos e1, if_pos (by rw [cvs_len]; omega), if_pos e2, e3]
      rfl
    · rw [if_neg e1, h1]
      by_cases e2 : q = j / 3
      · rw [if_pos e2, e2]
        have e3 : j % 3 = 1 ∨ j % 3 = 2 := by omega
        rcases e3 with e3 | e3 <;> rw [e3] <;> rfl
      · rw [if_neg e2]
  · rw [List.getElem?_eq_none (by rw [List.length_set, cvs_len]; omega), List.getElem?_eq_none (by rw [cvs_len, oneMore_len]; omega)]
theorem IB.bel {w w' : World} {B M : Nat} {u : Value} {l : List Int} {g : Nat} (h : IB w B M u l g) (hb : Below M w w') : IB w' B M u l g := by
  obtain ⟨a, k, e1, hc, hr⟩ := h
  refine ⟨a, k, e1, hc, fun hn => ?_⟩
  obtain ⟨r1, r2, r3, cs, r4, r5⟩ := hr hn
  exact ⟨r1, r2, r3, cs, (hb.block g r3).trans r4, r5⟩
/-- A row of cells outlives the growth of a row of ints above the mark. -/
theorem OwnCk.grown {w w' : World} {B M n : Nat} {v v2 : Value} {L : List Ce} {xs : List Value} (h : OwnCk w B M v L) (ho : w.ownsRow M 3 1 v2 n xs) (hg : w.grownBy w' v2.ownBlock) (hM : M ≤ w.heap.size) : OwnCk w' B M v L := by
  obtain ⟨ks, h1, h2⟩ := h
  have hb : Below M w w' := grown_on (Below.refl _ _) hM ho hg
  refine ⟨ks, ⟨h1.1, ?_⟩, fun i hi => by obtain ⟨g, hg⟩ := h2 i hi; exact ⟨g, hg.bel hb⟩⟩
  rcases h1.2 with h3 | ⟨g, cap, cur, e1, hb1, hg1, h3⟩
  · exact .inl h3
  · refine .inr ⟨g, cap, cur, e1, hb1, box_grown hg1 hg (fun k hk e => ?_), h3⟩
    subst e
    rcases ho.2 with ⟨rfl, _⟩ | ⟨g', cap', cur', rfl, hb', hg', _⟩
    · simp [Value.ownBlock] at hk
    · simp [Value.ownBlock] at hk
      subst hk
      rw [hg1] at hg'
      simp at hg'
/-- One more at a cell. -/
theorem OwnCk.more {w : World} {B M n c q : Nat} {y : Option Addr} {L : List Ce} (h : OwnCk w B M (.slice y n c) L) (hn : L.length = n) (hq : q < n) :
    ∃ g, y = some ⟨g, 0, none⟩ ∧ B ≤ g ∧ (∃ cs, w.heap[g]? = some (.cells cs 42 (0, 0))) ∧ (w.cell? ⟨g, q * 3, none⟩ = some (.int .i64 (gc L q).ct) ∧ w.frozen? ⟨g, q * 3, none⟩ = false) ∧ OwnCk (w.setCell ⟨g, q * 3, none⟩ (.int .i64 ((gc L q).ct + 1))) B M (.slice y n c) (oneMore L (q : Int)) := by
  obtain ⟨ks, h1, h2⟩ := h
  rw [hn] at h1
  rcases h1.2 with ⟨e, h0⟩ | ⟨g, cap, cur, e, hb, hg, hc, hm, hcs, ht⟩
  · omega
  · simp only [Value.slice.injEq, true_and] at e
    obtain ⟨rfl, rfl⟩ := e
    have hk := cvs_at L ks (i := q) (r := 0) (by omega) (by omega)
    rw [Nat.add_zero, ← ht, List.getElem?_take, if_pos (by omega)] at hk
    have hk' : cur[q * 3]? = some (.int .i64 (gc L q).ct) := by simpa using hk
    have o8 : Out g (g + 1) w (w.setCell ⟨g, q * 3, none⟩ (.int .i64 ((gc L q).ct + 1))) := out_setCell _ _ _ _
    refine ⟨g, rfl, hb, ⟨cur, hg⟩, ⟨cell_of_block hg hk', free_of_block hg⟩, ks, ?_, fun i hi => ?_⟩
    · rw [oneMore_len, hn]
      refine ⟨by rw [cvs_len, oneMore_len, hn], .inr ⟨g, c, cur.setIfInBounds (q * 3) (.int .i64 ((gc L q).ct + 1)), rfl, hb, block_set hg, hc, hm, by simpa using hcs, ?_⟩⟩
      rw [← cvs_more ks (by omega), ← ht, Array.toList_setIfInBounds, List.take_set]
    · rw [oneMore_len] at hi
      obtain ⟨gg, hgg⟩ := h2 i hi
      have e1 : (gc (oneMore L (q : Int)) i).kd = (gc L i).kd := by
        rw [oneMore_at (by omega)]
        split
        · next e => rw [← e]
        · rfl
      rw [e1]
      exact ⟨gg, hgg.outC o8 hg (by decide)⟩
theorem OwnCk.ces {w : World} {B M : Nat} {v : Value} {L : List Ce} (h : OwnCk w B M v L) : ∃ a c, v = .slice a L.length c ∧ L.length ≤ c ∧ Ces w a L := by
  obtain ⟨ks, h1, h2⟩ := h
  rcases h1.2 with ⟨rfl, h0⟩ | ⟨g, cap, cur, rfl, hb, hg, hc, hm, hcs, ht⟩
  · have : L = [] := List.eq_nil_of_length_eq_zero h0
    subst this
    exact ⟨none, 0, rfl, Nat.le_refl _, Ces.nil⟩
  · refine ⟨_, cap, rfl, hc, fun hn => ⟨g, 0, rfl, fun i hi => ?_⟩⟩
    have key : ∀ r, r < 3 → cur[i * 3 + r]? = [Value.int .i64 (gc L i).ct, .string (gc L i).lf, .slice (ks i).1 (gc L i).kd.length (ks i).2][r]? := fun r hr => by
      have hk := cvs_at L ks hi hr
      rw [← ht, List.getElem?_take, if_pos (by omega)] at hk
      simpa using hk
    obtain ⟨gg, hgg⟩ := h2 i hi
    obtain ⟨a, c, e, h3, h4⟩ := hgg.ints
    simp only [Value.slice.injEq, true_and] at e
    rw [Nat.zero_add]
    refine ⟨(ks i).1, (ks i).2, cell_of_block hg (key 0 (by omega)), cell_of_block hg (key 1 (by omega)), cell_of_block hg (key 2 (by omega)), ?_, ?_⟩
    · rw [e.1]; exact h4
    · rw [e.2]; exact h3
end Go.Proofs.Ytienhdlhlddemaa
