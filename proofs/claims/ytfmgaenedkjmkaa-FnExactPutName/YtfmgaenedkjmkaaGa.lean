import Derived.Test.YtfmgaenedkjmkaaC6
import Derived.Test.YtfmgaenedkjmkaaU7
/- The specification: a directory of one's own on its way: slots in a block, buckets in a row that may be appended to. -/
namespace Go.Proofs.Ytfmgaenedkjmkaa
open Go.ChangeShapes Go.WideShapes Go.ChangeAt Go.RowKit
set_option linter.unusedVariables false
open Hd

attribute [local go_sem] Oper.semAt_some

/-- What keeps all blocks of buckets and of names. -/
def KeepT (w w' : World) : Prop := w.heap.size ≤ w'.heap.size ∧ ∀ (g : Nat) (c : Array Value) (t : TypeId), w.heap[g]? = some (.cells c t (0, 0)) → t = 63 ∨ t = 36 → w'.heap[g]? = w.heap[g]?
theorem KeepT.refl (w : World) : KeepT w w := ⟨Nat.le_refl _, fun _ _ _ _ _ => rfl⟩
theorem KeepT.trans {w w' w'' : World} (h : KeepT w w') (h' : KeepT w' w'') : KeepT w w'' :=
  ⟨Nat.le_trans h.1 h'.1, fun g c t hg ht => by rw [h'.2 g c t (by rw [h.2 g c t hg ht]; exact hg) ht, h.2 g c t hg ht]⟩
theorem KeepT.below {w w' : World} (hb : Below w.heap.size w w') : KeepT w w' := ⟨hb.size, fun g c t hg _ => hb.block g (box_lt hg)⟩
theorem KeepT.set {w : World} {b o : Nat} {v : Value} {c0 : Array Value} {t0 : TypeId} (hB : w.heap[b]? = some (.cells c0 t0 (0, 0))) (ht : t0 ≠ 63 ∧ t0 ≠ 36) : KeepT w (w.setCell ⟨b, o, none⟩ v) :=
  ⟨by simp, fun g c t hg h => by
    have hne : g ≠ b := fun e => by
      rw [e, hB] at hg
      simp only [Option.some.injEq, Obj.cells.injEq] at hg
      rcases h with h | h
      · exact ht.1 (hg.2.1.trans h)
      · exact ht.2 (hg.2.1.trans h)
    exact (out_setCell w b o v).block g (box_lt hg) (by omega)⟩
theorem owns_keepT {w w' : World} {B n : Nat} {v : Value} {xs : List Value} (h : w.ownsRow B 63 2 v n xs) (hk : KeepT w w') : w'.ownsRow B 63 2 v n xs := by
  obtain ⟨h1, h2⟩ := h
  refine ⟨h1, ?_⟩
  rcases h2 with h2 | ⟨g, cap, cur, k1, k2, k3, k4⟩
  · exact .inl h2
  · exact .inr ⟨g, cap, cur, k1, k2, by rw [hk.2 g _ _ k3 (.inl rfl)]; exact k3, k4⟩
theorem NB.keepT {w w' : World} {B C : Nat} {v : Value} {l : List Nm} {g : Nat} (h : NB w B C v l g) (hk : KeepT w w') : NB w' B C v l g := by
  obtain ⟨a, c, e, hc, hr⟩ := h
  exact ⟨a, c, e, hc, fun hn => by obtain ⟨r1, r2, r3, cs, r4, r5⟩ := hr hn; exact ⟨r1, r2, r3, cs, by rw [hk.2 g _ _ r4 (.inr rfl)]; exact r4, r5⟩⟩
theorem GB.keepT {w w' : World} {B : Nat} {v : Value} {N : List Bk} {kb : Nat → Nat} (h : GB w B v N kb) (hk : KeepT w w') : GB w' B v N kb := by
  obtain ⟨⟨xs, ho, hx⟩, hd⟩ := h
  exact ⟨⟨xs, owns_keepT ho hk, fun i hi => by obtain ⟨h0, p, h1, h2⟩ := hx i hi; exact ⟨h0, p, h1, (h2.keepT hk).mono (Nat.le_refl _) hk.1⟩⟩, hd⟩
/-- Another row grows. -/
theorem GB.grow {w w' : World} {B Z n : Nat} {v u : Value} {N : List Bk} {kb : Nat → Nat} {ys : List Value} (h : GB w B v N kb) (hu : w.ownsRow Z 63 2 u n ys) (hv : ∀ g, v.ownBlock = some g → g < Z) (hg : w.grownBy w' u.ownBlock) : GB w' B v N kb := by
  obtain ⟨⟨xs, ho, hx⟩, hd⟩ := h
  refine ⟨⟨xs, ?_, fun i hi => ?_⟩, hd⟩
  · obtain ⟨h1, h2⟩ := ho
    refine ⟨h1, ?_⟩
    rcases h2 with h2 | ⟨g, cap, cur, k1, k2, k3, k4⟩
    · exact .inl h2
    · refine .inr ⟨g, cap, cur, k1, k2, ?_, k4⟩
      have hlt := hv g (by rw [k1]; rfl)
      rw [hg.block g (box_lt k3) (fun e => by have := (own_row hu _ e.symm).1; omega)]
      exact k3
  · obtain ⟨h0, p, h1, h2⟩ := hx i hi
    refine ⟨h0, p, h1, (h2.same fun hn hl => hg.block _ hl fun e => ?_).mono (Nat.le_refl _) hg.size⟩
    obtain ⟨-, -, c1, e1⟩ := h2.type hn
    obtain ⟨-, c2, e2⟩ := own_row hu _ e.symm
    rw [e1] at e2
    simp at e2
theorem owns_low {w : World} {B B' : Nat} {e : TypeId} {size n : Nat} {v : Value} {xs : List Value} (h : w.ownsRow B e size v n xs) (hB : B' ≤ B) : w.ownsRow B' e size v n xs := by
  obtain ⟨h1, h2⟩ := h
  refine ⟨h1, ?_⟩
  rcases h2 with h2 | ⟨g, cap, cur, k1, k2, k3⟩
  · exact .inl h2
  · exact .inr ⟨g, cap, cur, k1, Nat.le_trans hB k2, k3⟩
/-- A directory on its way. -/
def SpO (w : World) (B : Nat) (v : Value) (d : Dr) (kb : Nat → Nat) : Prop :=
  ∃ gs c cs vB, v = .agg #[.int .i64 d.dp, .slice (some ⟨gs, 0, none⟩) d.sl.length c, vB] ∧ d.sl.length ≤ c ∧ B ≤ gs ∧ w.heap[gs]? = some (.cells cs 3 (0, 0)) ∧ intsN d.sl.length d.sl cs ∧ GB w B vB d.bs kb
theorem SpO.down {w : World} {B : Nat} {v : Value} {d : Dr} {kb : Nat → Nat} (h : SpO w B v d kb) : DOwn w B w.heap.size v d := by
  obtain ⟨gs, c, cs, vB, rfl, h1, h2, h3, h4, h5⟩ := h
  obtain ⟨ax, c', rfl, hc', hbo⟩ := h5.bown (gs := gs) (fun c e hg => by
    rw [h3] at hg
    simp only [Option.some.injEq, Obj.cells.injEq] at hg
    obtain ⟨-, rfl, -⟩ := hg
    exact ⟨by decide, by decide⟩)
  exact ⟨_, ax, c', gs, rfl, hc', ⟨_, c, rfl, h1, fun _ => ⟨rfl, h2, box_lt h3, cs, h3, h4⟩⟩, hbo⟩
/-- The loop that puts buckets in their order. -/
structure SoL (d : Dr) (kb : Nat → Nat) (B Z gs P Q n m : Nat) (vB : Value) (wr : World) (kk : Nat) (vl : Value) (S : List Int) (l : List Bk) (pl : Nat → Int) (dn : Nat → Bool) (cS cP cQ : Array Value) (xs : List Value) (src : Nat → Nat) : Prop where
  sr : SrI d kk S l pl dn
  hS : wr.heap[gs]? = some (.cells cS 3 (0, 0))
  iS : intsN n S cS
  hP : wr.heap[P]? = some (.cells cP 3 (0, 0))
  zP : cP.size = m
  iP : ∀ k, k < m → dn k = true → cP[k]? = some (iv (pl k))
  hQ : wr.heap[Q]? = some (.cells cQ 4 (0, 0))
  zQ : cQ.size = m
  iQ : ∀ k, k < m → cQ[k]? = some (.bool (dn k))
  ow : wr.ownsRow Z 63 2 vl l.length xs
  ex : ∀ i, i < l.length → xs[i * 2]? = some (.int .i64 (gb l i).dp) ∧ ∃ p, xs[i * 2 + 1]? = some p ∧ NB wr B wr.heap.size p (gb l i).ns (kb (src i))
  sc : ∀ r, r < l.length → src r < m ∧ dn (src r) = true ∧ gb l r = gb d.bs (src r)
  ij : ∀ r r', r < l.length → r' < l.length → src r = src r' → r = r'
  gd : GB wr B vB d.bs kb
theorem SoL.gl {d : Dr} {kb : Nat → Nat} {B Z gs P Q n m : Nat} {vB : Value} {wr : World} {kk : Nat} {vl : Value} {S : List Int} {l : List Bk} {pl : Nat → Int} {dn : Nat → Bool} {cS cP cQ : Array Value} {xs : List Value} {src : Nat → Nat} (h : SoL d kb B Z gs P Q n m vB wr kk vl S l pl dn cS cP cQ xs src) (hm : d.bs.length = m) (hZ : B ≤ Z) : GB wr B vl l (fun r => kb (src r)) :=
  ⟨⟨xs, owns_low h.ow hZ, h.ex⟩, fun r r' hr hr' hne n1 n2 => by
    obtain ⟨a1, -, a3⟩ := h.sc r hr
    obtain ⟨b1, -, b3⟩ := h.sc r' hr'
    rw [a3] at n1
    rw [b3] at n2
    exact h.gd.2 _ _ (by omega) (by omega) (fun e => hne (h.ij r r' hr hr' e)) n1 n2⟩
theorem intsN_set {n i : Nat} {S : List Int} {c : Array Value} {x : Int} (h : intsN n S c) (hi : i < n) (hS : S.length = n) : intsN n (S.set i x) (c.setIfInBounds i (iv x)) := by
  intro j hj
  have hc := h i hi
  have hlt : i < c.size := by
    have := (Array.getElem?_eq_some_iff.1 hc).1
    exact this
  by_cases e : j = i
  · subst e
    rw [set_at hlt, gi_set (by omega), if_pos rfl]
  · rw [set_ne e, gi_set (by omega), if_neg e]
    exact h j hj
/-- A slot is written. -/
theorem SoL.slot {d : Dr} {kb : Nat → Nat} {B Z gs P Q n m : Nat} {vB : Value} {wr wq : World} {kk : Nat} {vl : Value} {S : List Int} {l : List Bk} {pl : Nat → Int} {dn : Nat → Bool} {cS cP cQ : Array Value} {xs : List Value} {src : Nat → Nat} {x : Int} {S' : List Int} (hq : wq.heap = wr.heap) (hS' : S' = S.set kk x) (hsr : SrI d (kk + 1) S' l pl dn) (hk : kk < n) (hn : S.length = n) (hPg : P ≠ gs) (hQg : Q ≠ gs)
    (hS : wr.heap[gs]? = some (.cells cS 3 (0, 0))) (iS : intsN n S cS) (hP : wr.heap[P]? = some (.cells cP 3 (0, 0))) (zP : cP.size = m) (iP : ∀ k, k < m → dn k = true → cP[k]? = some (iv (pl k))) (hQ : wr.heap[Q]? = some (.cells cQ 4 (0, 0))) (zQ : cQ.size = m) (iQ : ∀ k, k < m → cQ[k]? = some (.bool (dn k))) (ow : wr.ownsRow Z 63 2 vl l.length xs)
    (ex : ∀ i, i < l.length → xs[i * 2]? = some (.int .i64 (gb l i).dp) ∧ ∃ p, xs[i * 2 + 1]? = some p ∧ NB wr B wr.heap.size p (gb l i).ns (kb (src i))) (sc : ∀ r, r < l.length → src r < m ∧ dn (src r) = true ∧ gb l r = gb d.bs (src r)) (ij : ∀ r r', r < l.length → r' < l.length → src r = src r' → r = r') (gd : GB wr B vB d.bs kb) :
    SoL d kb B Z gs P Q n m vB (wq.setCell ⟨gs, kk, none⟩ (iv x)) (kk + 1) vl S' l pl dn (cS.setIfInBounds kk (iv x)) cP cQ xs src := by
  have hSq : wq.heap[gs]? = some (.cells cS 3 (0, 0)) := by rw [hq]; exact hS
  have k0 : KeepT wr wq := ⟨by rw [hq]; exact Nat.le_refl _, fun g c t hg _ => by rw [hq]⟩
  have k1 : KeepT wr (wq.setCell ⟨gs, kk, none⟩ (iv x)) := k0.trans (KeepT.set hSq ⟨by decide, by decide⟩)
  have o1 := out_setCell wq gs kk (iv x)
  refine ⟨hsr, block_set hSq, by rw [hS']; exact intsN_set iS hk hn, box_out (by rw [hq]; exact hP) o1 (by omega), zP, iP, box_out (by rw [hq]; exact hQ) o1 (by omega), zQ, iQ, owns_keepT ow k1, fun i hi => ?_, sc, ij, gd.keepT k1⟩
  obtain ⟨h0, p, h1, h2⟩ := ex i hi
  exact ⟨h0, p, h1, (h2.keepT k1).mono (Nat.le_refl _) k1.1⟩
end Go.Proofs.Ytfmgaenedkjmkaa
