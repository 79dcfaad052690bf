import Derived.Test.YtfphffbclpmobaaO1
import Derived.Test.YtfphffbclpmobaaG2
import Derived.Test.YtfphffbclpmobaaP6
/- Vaults that one holds and turns: what each step keeps. -/
namespace Go.Proofs.Ytfphffbclpmobaa
open Go.ChangeShapes Go.WideShapes Go.ChangeAt Go.RowKit
set_option linter.unusedVariables false
open Hd

attribute [local go_sem] Oper.semAt_some

/-- Whatever is not of this type stays. -/
def KeepNot (t0 : TypeId) (w w' : World) : Prop := ∀ (b : Nat) (c : Array Value) (t : TypeId), w.heap[b]? = some (.cells c t (0, 0)) → t ≠ t0 → w'.heap[b]? = some (.cells c t (0, 0))
theorem KeepNot.of_below {w w' : World} (h : Below w.heap.size w w') (t0 : TypeId) : KeepNot t0 w w' := fun b c t hb _ => box_on hb h
theorem KeepNot.of_out {w w' : World} {b : Nat} {c : Array Value} {t0 : TypeId} (h : Out b (b + 1) w w') (hb : w.heap[b]? = some (.cells c t0 (0, 0))) : KeepNot t0 w w' := fun b' c' t h' hne => by
  refine box_out h' h ?_
  have : b' ≠ b := fun e => by
    subst e
    rw [hb] at h'
    simp at h'
    exact hne h'.2.symm
  omega
theorem KeepNot.of_grown {w w' : World} {B : Nat} {t0 : TypeId} {size n : Nat} {v : Value} {xs : List Value} (h : w.ownsRow B t0 size v n xs) (hg : w.grownBy w' v.ownBlock) : KeepNot t0 w w' := fun b c t hb hne => by
  refine box_grown hb hg (fun k hk e => ?_)
  subst e
  rcases h.2 with ⟨rfl, _⟩ | ⟨g', cap, cur, rfl, hb', hg', _⟩
  · simp [Value.ownBlock] at hk
  · simp [Value.ownBlock] at hk
    subst hk
    rw [hg'] at hb
    simp at hb
    exact hne hb.2.symm
theorem KeepNot.trans {t0 : TypeId} {a b c : World} (h : KeepNot t0 a b) (k : KeepNot t0 b c) : KeepNot t0 a c := fun x c t hx hne => k _ _ _ (h _ _ _ hx hne) hne
theorem KeepNot.owns {w w' : World} {t0 : TypeId} (h : KeepNot t0 w w') {B : Nat} {e : TypeId} {size n : Nat} {v : Value} {xs : List Value} (ho : w.ownsRow B e size v n xs) (he : e ≠ t0) : w'.ownsRow B e size v n xs := by
  refine ⟨ho.1, ?_⟩
  rcases ho.2 with h2 | ⟨g, cap, cur, e1, hb, hg, h3⟩
  · exact .inl h2
  · exact .inr ⟨g, cap, cur, e1, hb, h _ _ _ hg he, h3⟩
/-- Files and rows of ints laid before stay, but this box. -/
def KeepF (W5 ws : World) (fb : Nat) : Prop := ∀ b : Nat, b ≠ fb → ∀ (c : Array Value) (t : TypeId), t = 44 ∨ t = 3 → W5.heap[b]? = some (.cells c t (0, 0)) → ws.heap[b]? = some (.cells c t (0, 0))
theorem KeepF.step {W5 ws w' : World} {fb : Nat} {t0 : TypeId} (h : KeepF W5 ws fb) (k : KeepNot t0 ws w') (h1 : 44 ≠ t0) (h2 : (3 : TypeId) ≠ t0) : KeepF W5 w' fb := fun b hb c t ht hc => k _ _ _ (h b hb c t ht hc) (by rcases ht with rfl | rfl; exact h1; exact h2)
/-- A vault and a file in boxes, its pieces and its parts in rows of one's own. -/
def PtI (w W5 ws : World) (s fb : Nat) (px : Option Addr) (pc : Nat) (qx : Option Addr) (qc : Nat) (fx : Option Addr) (nf fc : Nat) (P : List Nm) (Q : List Int) : Prop :=
  ws.heap[s]? = some (.cells #[.slice px P.length pc, .slice fx nf fc] 30 (0, 0)) ∧
  ws.heap[fb]? = some (.cells #[.slice qx Q.length qc] 44 (0, 0)) ∧
  OwnN ws w.heap.size (.slice px P.length pc) P ∧ OwnI ws W5.heap.size (.slice qx Q.length qc) Q ∧
  (∀ (b : Nat) (c : Array Value) (t : TypeId), b ≠ s → (t = 9 ∨ t = 30) → W5.heap[b]? = some (.cells c t (0, 0)) → ws.heap[b]? = some (.cells c t (0, 0))) ∧
  KeepF W5 ws fb ∧ Below w.heap.size w ws ∧ W5.heap.size ≤ ws.heap.size ∧ w.heap.size ≤ s ∧ w.heap.size ≤ fb ∧ fb < W5.heap.size ∧ w.heap.size ≤ W5.heap.size
section
variable {w W5 ws : World} {s fb : Nat} {px : Option Addr} {pc : Nat} {qx : Option Addr} {qc : Nat} {fx : Option Addr} {nf fc : Nat} {P : List Nm} {Q : List Int}
theorem PtI.below {w' : World} (h : PtI w W5 ws s fb px pc qx qc fx nf fc P Q) (hb : Below ws.heap.size ws w') : PtI w W5 w' s fb px pc qx qc fx nf fc P Q := by
  obtain ⟨h1, h2, h3, h4, h5, h6, h7, h8, h9, h10, h11, h12⟩ := h
  have k := KeepNot.of_below hb 0
  refine ⟨box_on h1 hb, box_on h2 hb, owns_below h3 hb, owns_below h4 hb, fun b c t hb' ht hc => box_on (h5 b c t hb' ht hc) hb, fun b hb' c t ht hc => box_on (h6 b hb' c t ht hc) hb, Below.comp h7 hb, Nat.le_trans h8 hb.size, h9, h10, h11, h12⟩
/-- A piece is put behind. -/
theorem PtI.piece {W6 w7 : World} {t : ByteArray} {v7 : Value} (h : PtI w W5 W6 s fb px pc qx qc fx nf fc P Q)
    (own7 : w7.ownsRow w.heap.size 46 2 v7 (P.length + 1) (cns P ++ [.string t, .int .i64 0])) (gr7 : W6.grownBy w7 (Value.slice px P.length pc).ownBlock) :
    ∃ y7 c7, v7 = .slice y7 (P.length + 1) c7 ∧ (w7.cell? ⟨s, 0, none⟩ = some (.slice px P.length pc) ∧ w7.frozen? ⟨s, 0, none⟩ = false) ∧ PtI w W5 (w7.setCell ⟨s, 0, none⟩ (.slice y7 (P.length + 1) c7)) s fb y7 c7 qx qc fx nf fc (P ++ [⟨t, 0⟩]) Q := by
  obtain ⟨h1, h2, h3, h4, h5, h6, h7, h8, h9, h10, h11, h12⟩ := h
  obtain ⟨y7, c7, rfl⟩ := owns_form own7
  have k := KeepNot.of_grown h3 gr7
  have X7 := k _ _ _ h1 (by decide)
  obtain ⟨x0, x1, f0, f1⟩ := box2_cells X7
  have o8 : Out s (s + 1) w7 (w7.setCell ⟨s, 0, none⟩ (.slice y7 (P.length + 1) c7)) := out_setCell _ _ _ _
  have k8 := KeepNot.of_out o8 X7
  have hl : (P ++ [(⟨t, 0⟩ : Nm)]).length = P.length + 1 := by simp
  refine ⟨y7, c7, rfl, ⟨x0, f0⟩, ?_, k8 _ _ _ (k _ _ _ h2 (by decide)) (by decide), ?_, k8.owns (k.owns h4 (by decide)) (by decide), fun b c t hb ht hc => box_out (k _ _ _ (h5 b c t hb ht hc) (by rcases ht with rfl | rfl <;> decide)) o8 (by omega), (h6.step k (by decide) (by decide)).step k8 (by decide) (by decide), ?_, ?_, h9, h10, h11, h12⟩
  · rw [hl]; exact block_set X7
  · have e : cns (P ++ [(⟨t, 0⟩ : Nm)]) = cns P ++ [.string t, .int .i64 0] := by rw [cns_app]; rfl
    unfold OwnN
    rw [hl, e]
    exact k8.owns own7 (by decide)
  · have b7 : Below w.heap.size w w7 := h7.grown gr7 h7.size (fun k hk => owns_ge h3 k hk)
    exact b7.trans ((o8.below (Nat.le_of_lt (box_lt X7))).mono h9)
  · exact Nat.le_trans h8 (Nat.le_trans gr7.size o8.size)
theorem cns_set : ∀ (P : List Nm) (i : Nat) (x : Int), i < P.length → (cns P).set (i * 2 + 1) (.int .i64 x) = cns (P.set i ⟨(gm P i).nm, x⟩)
  | [], i, x, h => absurd h (by simp)
  | y :: P, 0, x, h => by simp [cns_cons, gm]
  | y :: P, i + 1, x, h => by
    have := cns_set P i x (by simpa using h)
    have e : gm (y :: P) (i + 1) = gm P i := by simp [gm]
    rw [e, cns_cons, show (i + 1) * 2 + 1 = i * 2 + 1 + 1 + 1 by omega, List.set_cons_succ, List.set_cons_succ, this]
    rfl
/-- A piece's uses are turned. -/
theorem PtI.uses {i : Nat} (h : PtI w W5 ws s fb px pc qx qc fx nf fc P Q) (hi : i < P.length) (x : Int) :
    ∃ g, px = some ⟨g, 0, none⟩ ∧ (ws.cell? ⟨g, i * 2 + 1, none⟩ = some (.int .i64 (gm P i).fl) ∧ ws.frozen? ⟨g, i * 2 + 1, none⟩ = false) ∧ PtI w W5 (ws.setCell ⟨g, i * 2 + 1, none⟩ (.int .i64 x)) s fb px pc qx qc fx nf fc (P.set i ⟨(gm P i).nm, x⟩) Q := by
  obtain ⟨h1, h2, h3, h4, h5, h6, h7, h8, h9, h10, h11, h12⟩ := h
  rcases h3.2 with ⟨e, h0⟩ | ⟨g, cap, cur, e, hb, hg, hc, hm, hcs, ht⟩
  · omega
  · simp only [Value.slice.injEq, true_and] at e
    obtain ⟨rfl, rfl⟩ := e
    have hk := (cns_at P i hi).2
    rw [← ht, List.getElem?_take, if_pos (by omega)] at hk
    have hk' : cur[i * 2 + 1]? = some (.int .i64 (gm P i).fl) := by simpa using hk
    have o8 : Out g (g + 1) ws (ws.setCell ⟨g, i * 2 + 1, none⟩ (.int .i64 x)) := out_setCell _ _ _ _
    have k8 := KeepNot.of_out o8 hg
    refine ⟨g, rfl, ⟨cell_of_block hg hk', free_of_block hg⟩, ?_, k8 _ _ _ h2 (by decide), ?_, k8.owns h4 (by decide), fun b c t hb ht hc => k8 _ _ _ (h5 b c t hb ht hc) (by rcases ht with rfl | rfl <;> decide), h6.step k8 (by decide) (by decide), h7.trans ((o8.below (Nat.le_of_lt (box_lt hg))).mono hb), Nat.le_trans h8 o8.size, h9, h10, h11, h12⟩
    · rw [List.length_set]; exact k8 _ _ _ h1 (by decide)
    · unfold OwnN
      rw [List.length_set]
      refine ⟨by rw [cns_len, List.length_set], .inr ⟨g, pc, cur.setIfInBounds (i * 2 + 1) (.int .i64 x), rfl, hb, block_set hg, hc, hm, by simpa using hcs, ?_⟩⟩
      rw [← cns_set P i x hi, ← ht, Array.toList_setIfInBounds, List.take_set]
/-- A part is put behind. -/
theorem PtI.part {W6 w7 : World} {r : Int} {v7 : Value} (h : PtI w W5 W6 s fb px pc qx qc fx nf fc P Q)
    (own7 : w7.ownsRow W5.heap.size 3 1 v7 (Q.length + 1) (cis Q ++ [.int .i64 r])) (gr7 : W6.grownBy w7 (Value.slice qx Q.length qc).ownBlock) :
    ∃ y7 c7, v7 = .slice y7 (Q.length + 1) c7 ∧ (w7.cell? ⟨fb, 0, none⟩ = some (.slice qx Q.length qc) ∧ w7.frozen? ⟨fb, 0, none⟩ = false) ∧ PtI w W5 (w7.setCell ⟨fb, 0, none⟩ (.slice y7 (Q.length + 1) c7)) s fb px pc y7 c7 fx nf fc P (Q ++ [r]) := by
  obtain ⟨h1, h2, h3, h4, h5, h6, h7, h8, h9, h10, h11, h12⟩ := h
  obtain ⟨y7, c7, rfl⟩ := owns_form own7
  have k := KeepNot.of_grown h4 gr7
  have X7 := k _ _ _ h2 (by decide)
  obtain ⟨x0, f0⟩ := box1_cells X7
  have o8 : Out fb (fb + 1) w7 (w7.setCell ⟨fb, 0, none⟩ (.slice y7 (Q.length + 1) c7)) := out_setCell _ _ _ _
  have k8 := KeepNot.of_out o8 X7
  have hl : (Q ++ [r]).length = Q.length + 1 := by simp
  refine ⟨y7, c7, rfl, ⟨x0, f0⟩, k8 _ _ _ (k _ _ _ h1 (by decide)) (by decide), ?_, k8.owns (k.owns h3 (by decide)) (by decide), ?_, fun b c t hb ht hc => k8 _ _ _ (k _ _ _ (h5 b c t hb ht hc) (by rcases ht with rfl | rfl <;> decide)) (by rcases ht with rfl | rfl <;> decide), fun b hb c t ht hc => ?_, ?_, ?_, h9, h10, h11, h12⟩
  · rw [hl]; exact box1_set X7
  · have e : cis (Q ++ [r]) = cis Q ++ [.int .i64 r] := by rw [cis_app]; rfl
    unfold OwnI
    rw [hl, e]
    exact k8.owns own7 (by decide)
  · have hbl : b < W5.heap.size := box_lt hc
    have h6' := h6 b hb c t ht hc
    have h7' : w7.heap[b]? = some (.cells c t (0, 0)) := box_grown h6' gr7 (fun j hj e => by have := owns_ge h4 j hj; omega)
    exact box_out h7' o8 (by omega)
  · have b7 : Below w.heap.size w w7 := h7.grown gr7 h7.size (fun k hk => by have := owns_ge h4 k hk; omega)
    exact b7.trans ((o8.below (Nat.le_of_lt (box_lt X7))).mono h10)
  · exact Nat.le_trans h8 (Nat.le_trans gr7.size o8.size)
end
/-- Files of one's own outlive what keeps files and rows of ints. -/
theorem OwnFi.keep {W4 W5 ws : World} {B fb : Nat} {v : Value} {L : List (List Int)} (h : OwnFi W4 B v L) (hf : W4.heap.size ≤ fb) (hb : Below W4.heap.size W4 W5) (hk : KeepF W5 ws fb) (hz : W4.heap.size ≤ ws.heap.size) : OwnFi ws B v L := by
  obtain ⟨ks, h1, h2⟩ := h
  refine ⟨ks, ⟨h1.1, ?_⟩, fun i hi => ?_⟩
  · rcases h1.2 with h3 | ⟨g, cap, cur, e1, hb', hg, h3⟩
    · exact .inl h3
    · exact .inr ⟨g, cap, cur, e1, hb', hk g (by have := box_lt hg; omega) _ _ (.inl rfl) (box_on hg hb), h3⟩
  · obtain ⟨g, a, c, e1, hc, hr⟩ := h2 i hi
    refine ⟨g, a, c, e1, hc, fun hn => ?_⟩
    obtain ⟨r1, r2, r3, cs, r4, r5⟩ := hr hn
    exact ⟨r1, r2, by omega, cs, hk g (by omega) _ _ (.inr rfl) (box_on r4 hb), r5⟩
end Go.Proofs.Ytfphffbclpmobaa
