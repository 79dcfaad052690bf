import Derived.Test.YtfmgaenedkjmkaaGa
/- The specification: a bucket more in the new order. -/
namespace Go.Proofs.Ytfmgaenedkjmkaa
open Go.ChangeShapes Go.WideShapes Go.ChangeAt Go.RowKit
set_option linter.unusedVariables false
open Hd

attribute [local go_sem] Oper.semAt_some

/-- What SoL.slot wants, behind a bucket that is met for the first time. -/
def SoP (d : Dr) (kb : Nat → Nat) (B Z gs P Q n m : Nat) (vB : Value) (wr : World) (vl : Value) (S : List Int) (l : List Bk) (pl : Nat → Int) (dn : Nat → Bool) (cS cP cQ : Array Value) (xs : List Value) (src : Nat → Nat) : Prop :=
  wr.heap[gs]? = some (.cells cS 3 (0, 0)) ∧ intsN n S cS ∧ wr.heap[P]? = some (.cells cP 3 (0, 0)) ∧ cP.size = m ∧ (∀ k, k < m → dn k = true → cP[k]? = some (iv (pl k))) ∧ wr.heap[Q]? = some (.cells cQ 4 (0, 0)) ∧ cQ.size = m ∧ (∀ k, k < m → cQ[k]? = some (.bool (dn k))) ∧ wr.ownsRow Z 63 2 vl l.length xs ∧
  (∀ i, i < l.length → xs[i * 2]? = some (.int .i64 (gb l i).dp) ∧ ∃ p, xs[i * 2 + 1]? = some p ∧ NB wr B wr.heap.size p (gb l i).ns (kb (src i))) ∧ (∀ r, r < l.length → src r < m ∧ dn (src r) = true ∧ gb l r = gb d.bs (src r)) ∧ (∀ r r', r < l.length → r' < l.length → src r = src r' → r = r') ∧ GB wr B vB d.bs kb
theorem SoL.push {d : Dr} {kb : Nat → Nat} {B Z gs P Q n m : Nat} {vB : Value} {wr : World} {kk : Nat} {vl : Value} {S : List Int} {l : List Bk} {pl : Nat → Int} {dn : Nat → Bool} {cS cP cQ : Array Value} {xs : List Value} {src : Nat → Nat} (h : SoL d kb B Z gs P Q n m vB wr kk vl S l pl dn cS cP cQ xs src) (hm : d.bs.length = m) (hZ : B ≤ Z) (hvB : ∀ g, vB.ownBlock = some g → g < Z) (hPg : P ≠ gs) (hQg : Q ≠ gs) (hPQ : P ≠ Q) {k : Nat} (hk : k < m) (hd : dn k = false)
    {W1 W2 W3 w5 : World} {p v5 : Value} (hW1 : W1 = wr.setCell ⟨Q, k, none⟩ (.bool true)) (hW2 : W2 = W1.setCell ⟨P, k, none⟩ (iv (l.length : Int))) (hb3 : Below W2.heap.size W2 W3) (hp : ∀ ys, wr.ownsRow B 63 2 vB d.bs.length ys → ys[k * 2 + 1]? = some p)
    (how : W3.ownsRow Z 63 2 vl l.length xs → w5.ownsRow Z 63 2 v5 (l.length + 1) (xs ++ [.int .i64 (gb d.bs k).dp, p])) (hg : W3.grownBy w5 vl.ownBlock) :
    SoP d kb B Z gs P Q n m vB w5 v5 S (l ++ [gb d.bs k]) (fun x => if x = k then (l.length : Int) else pl x) (fun x => if x = k then true else dn x) cS (cP.setIfInBounds k (iv (l.length : Int))) (cQ.setIfInBounds k (.bool true)) (xs ++ [.int .i64 (gb d.bs k).dp, p]) (fun r => if r = l.length then k else src r) := by
  have k1 : KeepT wr W1 := by rw [hW1]; exact KeepT.set h.hQ ⟨by decide, by decide⟩
  have o1 : Out Q (Q + 1) wr W1 := by rw [hW1]; exact out_setCell _ _ _ _
  have hP1 : W1.heap[P]? = some (.cells cP 3 (0, 0)) := box_out h.hP o1 (by omega)
  have hQ1 : W1.heap[Q]? = some (.cells (cQ.setIfInBounds k (.bool true)) 4 (0, 0)) := by rw [hW1]; exact block_set h.hQ
  have hS1 : W1.heap[gs]? = some (.cells cS 3 (0, 0)) := box_out h.hS o1 (by omega)
  have k2 : KeepT W1 W2 := by rw [hW2]; exact KeepT.set hP1 ⟨by decide, by decide⟩
  have o2 : Out P (P + 1) W1 W2 := by rw [hW2]; exact out_setCell _ _ _ _
  have hP2 : W2.heap[P]? = some (.cells (cP.setIfInBounds k (iv (l.length : Int))) 3 (0, 0)) := by rw [hW2]; exact block_set hP1
  have hQ2 := box_out hQ1 o2 (by omega)
  have hS2 := box_out hS1 o2 (by omega)
  have k3 : KeepT wr W3 := (k1.trans k2).trans (KeepT.below hb3)
  have hP3 := box_on hP2 hb3
  have hQ3 := box_on hQ2 hb3
  have hS3 := box_on hS2 hb3
  have ow3 : W3.ownsRow Z 63 2 vl l.length xs := owns_keepT h.ow k3
  have gd3 := h.gd.keepT k3
  have hnb : ∀ (g : Nat) (t : TypeId) (c : Array Value), W3.heap[g]? = some (.cells c t (0, 0)) → t ≠ 63 → w5.heap[g]? = some (.cells c t (0, 0)) := fun g t c hg3 ht => by
    rw [hg.block g (box_lt hg3) (fun e => by
      obtain ⟨-, c2, e2⟩ := own_row ow3 _ e.symm
      rw [hg3] at e2
      simp only [Option.some.injEq, Obj.cells.injEq] at e2
      exact ht e2.2.1)]
    exact hg3
  have gl3 := (h.gl hm hZ).keepT k3
  have ex3 : ∀ i, i < l.length → xs[i * 2]? = some (.int .i64 (gb l i).dp) ∧ ∃ p, xs[i * 2 + 1]? = some p ∧ NB W3 B W3.heap.size p (gb l i).ns (kb (src i)) := fun i hi => by
    obtain ⟨h0, p, h1, h2⟩ := h.ex i hi
    exact ⟨h0, p, h1, (h2.keepT k3).mono (Nat.le_refl _) k3.1⟩
  obtain ⟨⟨ys, hy, hyx⟩, hdy⟩ := h.gd
  obtain ⟨y0, p', y1, y2⟩ := hyx k (by omega)
  obtain rfl : p' = p := by have := hp ys hy; rw [y1] at this; exact Option.some.inj this
  have y3 : NB W3 B W3.heap.size p' (gb d.bs k).ns (kb k) := (y2.keepT k3).mono (Nat.le_refl _) k3.1
  have hne : ∀ r, r < l.length → src r ≠ k := fun r hr e => by have := (h.sc r hr).2.1; rw [e, hd] at this; cases this
  have sn := GB.snoc (N := l) (kb := fun r => kb (src r)) (dp := (gb d.bs k).dp) (l := (gb d.bs k).ns) (g := kb k) (owns_low ow3 hZ) ex3 gl3.2 (owns_low (how ow3) hZ) hg y3 (fun q r hr hq => by
    obtain ⟨a1, -, a3⟩ := h.sc r hr
    rw [a3] at hq
    exact hdy _ _ (by omega) (by omega) (hne r hr) hq q)
  have hl1 : (l ++ [gb d.bs k]).length = l.length + 1 := by simp
  refine ⟨hnb _ _ _ hS3 (by decide), h.iS, hnb _ _ _ hP3 (by decide), by simpa using h.zP, fun j hj hdj => ?_, hnb _ _ _ hQ3 (by decide), by simpa using h.zQ, fun j hj => ?_, by rw [hl1]; exact how ow3, ?_, fun r hr => ?_, fun r r' hr hr' e => ?_, gd3.grow ow3 hvB hg⟩
  · by_cases e : j = k
    · subst e
      rw [set_at (by rw [h.zP]; exact hj)]
      simp
    · simp only [if_neg e] at hdj ⊢
      rw [set_ne e]
      exact h.iP j hj hdj
  · by_cases e : j = k
    · subst e
      rw [set_at (by rw [h.zQ]; exact hj)]
      simp
    · simp only [if_neg e]
      rw [set_ne e]
      exact h.iQ j hj
  · obtain ⟨⟨zs, hz, hzx⟩, -⟩ := sn
    have hzz : zs = xs ++ [.int .i64 (gb d.bs k).dp, p'] := by
      have h5 := how ow3
      rcases hz.2 with ⟨e1, e2⟩ | ⟨g, cap, cur, e1, -, e3, -, -, -, e4⟩
      · simp at e2
      · rcases h5.2 with ⟨f1, f2⟩ | ⟨g', cap', cur', f1, -, f3, -, -, -, f4⟩
        · omega
        · rw [e1] at f1
          simp only [Value.slice.injEq, Option.some.injEq, Addr.mk.injEq] at f1
          obtain ⟨⟨rfl, -⟩, hl9, -⟩ := f1
          rw [e3] at f3
          simp only [Option.some.injEq, Obj.cells.injEq] at f3
          obtain ⟨rfl, -⟩ := f3
          rw [← e4, ← f4, hl9]
    rw [hzz] at hzx
    intro i hi
    rw [hl1] at hi
    obtain ⟨h0, p, h1, h2⟩ := hzx i (by simpa using hi)
    refine ⟨h0, p, h1, ?_⟩
    by_cases e : i = l.length
    · subst e
      rw [kbPut_0] at h2
      simpa using h2
    · rw [kbPut_ne _ _ _ e] at h2
      simpa [if_neg e] using h2
  · rw [hl1] at hr
    by_cases e : r = l.length
    · subst e
      simp only [if_true, gb_app_eq]
      exact ⟨hk, by simp, trivial⟩
    · obtain ⟨a1, a2, a3⟩ := h.sc r (by omega)
      simp only [if_neg e]
      exact ⟨a1, by simp [a2], by rw [gb_app_lt (by omega)]; exact a3⟩
  · rw [hl1] at hr hr'
    by_cases e1 : r = l.length
    · by_cases e2 : r' = l.length
      · omega
      · simp only [if_pos e1, if_neg e2] at e
        exact absurd e.symm (hne r' (by omega))
    · by_cases e2 : r' = l.length
      · simp only [if_neg e1, if_pos e2] at e
        exact absurd e (hne r (by omega))
      · simp only [if_neg e1, if_neg e2] at e
        exact h.ij r r' (by omega) (by omega) e
end Go.Proofs.Ytfmgaenedkjmkaa
