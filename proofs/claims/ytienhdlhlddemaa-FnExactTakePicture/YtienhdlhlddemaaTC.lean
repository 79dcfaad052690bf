import Derived.Test.YtienhdlhlddemaaV7
/- The specification: a cow of one's own. -/
namespace Go.Proofs.Ytienhdlhlddemaa
open Go.ChangeShapes Go.WideShapes Go.ChangeAt Go.RowKit
set_option linter.unusedVariables false
open Hd

attribute [local go_sem] Oper.semAt_some

/-- The cells of a row, as values. -/
def cvs (L : List Ce) (ks : Nat → Option Addr × Nat) : List Value := (List.range L.length).flatMap fun i => [.int .i64 (gc L i).ct, .string (gc L i).lf, .slice (ks i).1 (gc L i).kd.length (ks i).2]
/-- A row of cells that may be appended to. -/
def OwnCe (w : World) (B : Nat) (v : Value) (L : List Ce) : Prop :=
  ∃ ks : Nat → Option Addr × Nat, w.ownsRow B 42 3 v L.length (cvs L ks) ∧ ∀ i, i < L.length → ∃ g, IB w 0 w.heap.size (.slice (ks i).1 (gc L i).kd.length (ks i).2) (gc L i).kd g
theorem OwnCe.nil (w : World) (B : Nat) : OwnCe w B (.slice none 0 0) [] := ⟨fun _ => (none, 0), ⟨rfl, .inl ⟨rfl, rfl⟩⟩, fun i hi => absurd hi (by simp)⟩
theorem OwnCe.below {w w' : World} {B : Nat} {v : Value} {L : List Ce} (h : OwnCe w B v L) (hb : Below w.heap.size w w') : OwnCe w' B v L := by
  obtain ⟨ks, h1, h2⟩ := h
  exact ⟨ks, owns_below h1 hb, fun i hi => by obtain ⟨g, hg⟩ := h2 i hi; exact ⟨g, (hg.below hb).mono (Nat.le_refl _) hb.size⟩⟩
theorem flat_congr {f g : Nat → List Value} : ∀ {l : List Nat}, (∀ i, i ∈ l → f i = g i) → l.flatMap f = l.flatMap g := by
  intro l
  induction l with
  | nil => intro _; rfl
  | cons k l ih => intro h; rw [List.flatMap_cons, List.flatMap_cons, h k (by simp), ih (fun i hi => h i (by simp [hi]))]
theorem cvs_snoc (L : List Ce) (x : Ce) (ks : Nat → Option Addr × Nat) (y : Option Addr × Nat) :
    cvs (L ++ [x]) (fun i => if i = L.length then y else ks i) = cvs L ks ++ [.int .i64 x.ct, .string x.lf, .slice y.1 x.kd.length y.2] := by
  unfold cvs
  rw [List.length_append, List.length_singleton, List.range_succ, List.flatMap_append]
  congr 1
  · refine flat_congr (fun i hi => ?_)
    rw [List.mem_range] at hi
    have : gc (L ++ [x]) i = gc L i := by simp [gc, List.getElem?_append_left hi]
    have e2 : ¬ i = L.length := by omega
    simp only [this, if_neg e2]
  · have : gc (L ++ [x]) L.length = x := by simp [gc]
    simp [this]
theorem OwnCe.snoc {w : World} {B : Nat} {v : Value} {L : List Ce} {x : Ce} {ks : Nat → Option Addr × Nat} {y : Option Addr × Nat} (h : w.ownsRow B 42 3 v (L.length + 1) (cvs L ks ++ [.int .i64 x.ct, .string x.lf, .slice y.1 x.kd.length y.2]))
    (h1 : ∀ i, i < L.length → ∃ g, IB w 0 w.heap.size (.slice (ks i).1 (gc L i).kd.length (ks i).2) (gc L i).kd g) (h2 : ∃ g, IB w 0 w.heap.size (.slice y.1 x.kd.length y.2) x.kd g) : OwnCe w B v (L ++ [x]) := by
  refine ⟨fun i => if i = L.length then y else ks i, ?_, fun i hi => ?_⟩
  · rw [cvs_snoc, List.length_append]
    exact h
  · rw [List.length_append, List.length_singleton] at hi
    by_cases e : i = L.length
    · subst e
      have : gc (L ++ [x]) L.length = x := by simp [gc]
      simp only [this, if_pos]
      exact h2
    · have : gc (L ++ [x]) i = gc L i := by simp [gc, List.getElem?_append_left (show i < L.length by omega)]
      simp only [this, if_neg e]
      exact h1 i (by omega)
theorem ints_src {w : World} {a : Option Addr} {l : List Int} (h : Ints w a l) : l.length = 0 ∨ ∃ ad, a = some ad ∧ ∀ j u, (l.map iv)[j]? = some u → w.cell? (ad.add j) = some u := by
  by_cases h0 : l.length = 0
  · exact .inl h0
  · obtain ⟨b, off, rfl, hc⟩ := h h0
    refine .inr ⟨_, rfl, fun j u hj => ?_⟩
    have hlt : j < l.length := by have := (List.getElem?_eq_some_iff.1 hj).1; simpa using this
    rw [addN, hc j hlt, ← hj]
    simp [gi, hlt]
theorem box_grown {w w' : World} {row : Option Nat} {b : Nat} {o : Obj} (h : w.heap[b]? = some o) (hg : w.grownBy w' row) (hne : ∀ k, row = some k → k ≠ b) : w'.heap[b]? = some o := by
  rw [hg.block b (box_lt h) (fun e => hne b e.symm rfl)]
  exact h
/-- A row of ints in a block of its own outlives the growth of a row of others. -/
theorem IB.grown {w w' : World} {B : Nat} {e : TypeId} {size n : Nat} {v : Value} {xs : List Value} {u : Value} {l : List Int} {g : Nat} (h : IB w 0 w.heap.size u l g) (ho : w.ownsRow B e size v n xs) (he : e ≠ 3) (hg : w.grownBy w' v.ownBlock) : IB w' 0 w'.heap.size u l g := by
  obtain ⟨a, c, e1, hc, hr⟩ := h
  refine ⟨a, c, e1, hc, fun hn => ?_⟩
  obtain ⟨r1, r2, r3, cs, r4, r5⟩ := hr hn
  have hne : ∀ k, v.ownBlock = some k → g ≠ k := fun k hk e2 => by
    subst e2
    rcases ho.2 with ⟨rfl, _⟩ | ⟨g', cap, cur, rfl, hb, hg', _⟩
    · simp [Value.ownBlock] at hk
    · simp [Value.ownBlock] at hk
      subst hk
      rw [r4] at hg'
      simp at hg'
      exact he hg'.2.symm
  have h4 := box_grown r4 hg (fun k hk => (hne k hk).symm)
  exact ⟨r1, r2, box_lt h4, cs, h4, r5⟩
end Go.Proofs.Ytienhdlhlddemaa
