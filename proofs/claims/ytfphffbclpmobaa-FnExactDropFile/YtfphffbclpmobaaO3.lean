import Derived.Test.YtfphffbclpmobaaO2
import Derived.Test.YtfphffbclpmobaaI1
/- spec.PutText. -/
namespace Go.Proofs.Ytfphffbclpmobaa
open Go.ChangeShapes Go.WideShapes Go.ChangeAt Go.RowKit
set_option linter.unusedVariables false
open Hd

attribute [local go_sem] Oper.semAt_some

theorem OwnFi.fis {w : World} {B : Nat} {v : Value} {L : List (List Int)} (h : OwnFi w B v L) : ∃ a c, v = .slice a L.length c ∧ L.length ≤ c ∧ Fis w a L := by
  obtain ⟨ks, h1, h2⟩ := h
  rcases h1.2 with ⟨rfl, h0⟩ | ⟨g, cap, cur, rfl, hb, hg, hc, hm, hcs, ht⟩
  · have : L = [] := List.eq_nil_of_length_eq_zero h0
    subst this
    exact ⟨none, 0, rfl, Nat.le_refl _, Fis.nil⟩
  · refine ⟨_, cap, rfl, hc, fun hn => ⟨g, 0, rfl, fun i hi => ?_⟩⟩
    obtain ⟨gi', hib⟩ := h2 i hi
    obtain ⟨a, c, e, h3, h4⟩ := hib.ints
    simp only [Value.slice.injEq] at e
    have hk : (fvs L ks)[i]? = some (.slice (ks i).1 (gf L i).length (ks i).2) := by simp [fvs, hi]
    rw [← ht, List.getElem?_take, if_pos (by omega)] at hk
    rw [Nat.zero_add]
    refine ⟨(ks i).1, (ks i).2, cell_of_block hg (by simpa using hk), ?_, ?_⟩
    · rw [e.1]; exact h4
    · rw [e.2.2]; exact h3
theorem kk_few {L : List (List Int)} {M : Nat} : ∀ j, j ≤ L.length → (∀ i, i < j → (gf L i).length ≤ M) → kk L j ≤ j * M := by
  intro j
  induction j with
  | zero => intro _ _; simp [kk]
  | succ j ih =>
    intro hj h
    have h1 := ih (by omega) (fun i hi => h i (by omega))
    have h2 := h j (by omega)
    rw [kk, Nat.succ_mul]
    omega
/-- What PutText leaves can be looked at. -/
theorem pt_small {u : Va} (hg : GV u) {l : List ByteArray} (hl : l.length ≤ 200) (hs : ∀ t, t ∈ l → 1 ≤ t.size ∧ t.size ≤ 24) : FewV (ptV u l) ∧ Sml (ptV u l) ∧ kk (ptV u l).fs (ptV u l).fs.length ≤ 4200 ∧ (ptV u l).fs.length ≤ 21 ∧ (ptV u l).pc.length ≤ 300 := by
  have hn := stL_len l (u.pc, [])
  have ho := stL_old l (u.pc, []) (fun t => 1 ≤ t.size ∧ t.size ≤ 24) (fun i hi => (hg.2.2 i hi).1) hs
  have h100 := hg.1
  have hf : ∀ i, i < (ptV u l).fs.length → (gf (ptV u l).fs i).length ≤ 200 := fun i hi => by
    unfold ptV at hi ⊢
    simp only [List.length_append, List.length_singleton] at hi ⊢
    by_cases e : i < u.fs.length
    · rw [gf_snoc_lt e]; exact (hg.2.1 i e).2
    · have : i = u.fs.length := by omega
      subst this
      rw [gf_snoc]
      have := hn.1
      simp at this
      omega
  have hfl : (ptV u l).fs.length ≤ 21 := by unfold ptV; simp; omega
  have hk := kk_few (M := 200) (ptV u l).fs.length (Nat.le_refl _) hf
  have hk2 : (ptV u l).fs.length * 200 ≤ 21 * 200 := Nat.mul_le_mul hfl (Nat.le_refl _)
  have hpl : (ptV u l).pc.length ≤ 300 := by have := hn.2.2; unfold ptV; simp only at this ⊢; omega
  refine ⟨⟨⟨by omega, fun i hi => ?_⟩, ⟨by omega, fun i hi => by have := hf i hi; omega⟩⟩, ⟨by omega, by omega, by omega⟩, by omega, hfl, hpl⟩
  have := ho i hi
  have e : gm (ptV u l).pc i = gm (stL (u.pc, []) l).1 i := rfl
  rw [e]
  omega
section
variable {w W5 X : World} {s fb : Nat} {px : Option Addr} {pc : Nat} {qx : Option Addr} {qc : Nat} {fx : Option Addr} {nf fc : Nat} {P : List Nm} {Q : List Int}
/-- A piece's uses turned, and what the next part's append wants. -/
theorem PtI.turn {i : Nat} (h : PtI w W5 X s fb px pc qx qc fx nf fc P Q) (hi : i < P.length) :
    ∃ g W9 W10, px = some ⟨g, 0, none⟩ ∧ X.cell? ⟨s, 0, none⟩ = some (.slice px P.length pc) ∧ X.cell? ⟨g, i * 2 + 1, none⟩ = some (.int .i64 (gm P i).fl) ∧ X.frozen? ⟨g, i * 2 + 1, none⟩ = false ∧ X.setCell ⟨g, i * 2 + 1, none⟩ (.int .i64 ((gm P i).fl + 1)) = W9 ∧
      W9.cell? ⟨fb, 0, none⟩ = some (.slice qx Q.length qc) ∧ W9.alloc (.cells #[.int .i64 (i : Int)] 3) = W10 ∧ W10.ownsRow W5.heap.size 3 1 (.slice qx Q.length qc) Q.length (cis Q) ∧
      ((1 : Nat) = 0 ∨ ∃ ad, some (⟨W9.heap.size, 0, none⟩ : Addr) = some ad ∧ ∀ j u, [Value.int .i64 (i : Int)][j]? = some u → W10.cell? (ad.add j) = some u) ∧ W5.heap.size ≤ W10.heap.size ∧ Hid (PtI w W5 W10 s fb px pc qx qc fx nf fc (P.set i ⟨(gm P i).nm, (gm P i).fl + 1⟩) Q) := by
  obtain ⟨g, e1, ⟨e2, e3⟩, h9⟩ := h.uses hi ((gm P i).fl + 1)
  have h10 := h9.below (below_alloc _ (.cells #[.int .i64 (i : Int)] 3))
  exact ⟨g, _, _, e1, (box2_cells h.1).1, e2, e3, rfl, (box1_cells h9.2.1).1, rfl, h10.2.2.2.1, src_new1 _ _ _, h10.2.2.2.2.2.2.2.1, h10⟩
end
theorem atR_of {P : List Nm} (hd : Dis P) (t : ByteArray) : AtR P P.length t (match lastI P P.length t with | none => -1 | some i => (i : Int)) := by
  cases hl : lastI P P.length t with
  | none => exact .inl ⟨rfl, fun j hj => lastI_none hl hj⟩
  | some i =>
    obtain ⟨hi, e, -⟩ := lastI_some hl
    exact .inr ⟨i, rfl, hi, e, fun j hj => by rw [← e]; exact hd i j hj hi⟩
end Go.Proofs.Ytfphffbclpmobaa
