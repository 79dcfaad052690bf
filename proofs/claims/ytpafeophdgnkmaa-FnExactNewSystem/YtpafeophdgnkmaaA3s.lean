import Derived.Test.YtpafeophdgnkmaaG5s
/- Free room that is made: all free. -/
namespace Go.Proofs.Ytpafeophdgnkmaa
open Go.ChangeShapes Go.WideShapes Go.ChangeAt Go.RowKit
set_option linter.unusedVariables false
open Room

attribute [local go_sem] Oper.semAt_some

/-- Free room whose two rows were made between two worlds. -/
def FreeAt (B : Nat) (w' : World) (v : Value) (b : Int) (l s : List Ex) : Prop :=
  ∃ x c x' c' M, v = fv b x l.length c x' s.length c' ∧ B ≤ M ∧ M ≤ w'.heap.size ∧ Own w' B M x l ∧ Own w' M w'.heap.size x' s
theorem FreeAt.nil {B : Nat} {w' : World} (h : B ≤ w'.heap.size) : FreeAt B w' (fv 0 none 0 0 none 0 0) 0 [] [] :=
  ⟨none, 0, none, 0, B, rfl, Nat.le_refl _, h, .inl rfl, .inl rfl⟩
theorem FreeAt.mono {B B' : Nat} {w' : World} {v : Value} {b : Int} {l s : List Ex} (h : FreeAt B w' v b l s) (hB : B' ≤ B) : FreeAt B' w' v b l s := by
  obtain ⟨x, c, x', c', M, rfl, h1, h2, h3, h4⟩ := h
  exact ⟨x, c, x', c', M, rfl, by omega, h2, h3.mono hB (Nat.le_refl _), h4⟩
theorem FreeAt.below {B : Nat} {w w' : World} {v : Value} {b : Int} {l s : List Ex} (h : FreeAt B w v b l s) (hb : Below w.heap.size w w') : FreeAt B w' v b l s := by
  obtain ⟨x, c, x', c', M, rfl, h1, h2, h3, h4⟩ := h
  exact ⟨x, c, x', c', M, rfl, h1, Nat.le_trans h2 hb.size, h3.below hb, (h4.below hb).mono (Nat.le_refl _) hb.size⟩
theorem FreeAt.out {B C D : Nat} {w w' : World} {v : Value} {b : Int} {l s : List Ex} (h : FreeAt B w v b l s) (ho : Out C D w w') (hd : D ≤ B) : FreeAt B w' v b l s := by
  obtain ⟨x, c, x', c', M, rfl, h1, h2, h3, h4⟩ := h
  exact ⟨x, c, x', c', M, rfl, h1, Nat.le_trans h2 ho.size, h3.out ho (.inr hd), (h4.out ho (.inr (Nat.le_trans hd h1))).mono (Nat.le_refl _) ho.size⟩

set_option maxHeartbeats 1000000 in
theorem l5Of_any (b : Int) (a : Option Addr) (ca : Nat) (l : List Ex) (w : World) (hn : l.length ≤ 1000) (ha : Exs w a l) :
    Calls Try.prog 10 #[.int .i64 b, .slice a l.length ca] w fun e w' => Below w.heap.size w w' ∧ ∃ v, e = .returned v ∧ FreeAt w.heap.size w' v b l (srt l) := by
  obtain ⟨D, hD⟩ : ∃ D, w.heap.size = D := ⟨_, rfl⟩
  obtain ⟨W0, hW0⟩ : ∃ W0, (w.alloc (.cells #[.int .i64 0, .slice none 0 0, .slice none 0 0] 24)).alloc (.cells #[] 36) = W0 := ⟨_, rfl⟩
  have g0 : Below w.heap.size w W0 := by subst hW0; exact ba2 _ _ _
  obtain ⟨B1, B2⟩ : W0.heap[D]? = some (.cells #[.int .i64 0, .slice none 0 0, .slice none 0 0] 24 (0, 0)) ∧ W0.heap[D + 1]? = some (.cells #[] 36 (0, 0)) := by subst hW0 hD; exact al2 _ _ _
  have HB : Hid (W0.heap[D]? = _) := B1
  have own0 : OwnR W0 (D + 1) (.slice (some ⟨D + 1, 0, none⟩) 0 0) [] := ⟨rfl, .inr ⟨D + 1, 0, #[], rfl, Nat.le_refl _, B2, Nat.le_refl _, by decide, rfl, rfl⟩⟩
  have z0 : D + 1 < W0.heap.size := box_lt B2
  have st := RowX.src (ha.below g0)
  have c64 := fun W h => l5BySize_any a ca l W hn (ha.below h)
  have hll : (srt l).length = l.length := len_srt
  have Hll : Hid _ := hll
  have hcl : Hid ((cxs l).length = l.length * 2) := cxs_len l
  clear B1 B2 hll
  go_enter Try.func10, Try.ntmps10
  go_wp2_with (first
    | (at_builtin; refine wpList_append_src rfl _ _ 22 rfl (D + 1) 36 _ 2 16 Try.underlying22 info31 rfl (by decide) (.slice (some ⟨D + 1, 0, none⟩) 0 0) 0 [] rfl own0 a l.length ca (cxs l) rfl hcl.out st (cxs_one _) (by omega) (by decide) (by omega) ?_; intro v1 w1 own1 gr1; rw [Nat.zero_add, List.nil_append] at own1; obtain ⟨x1, c1, e1⟩ := owns_form own1; subst e1; have b1 : Below (D + 1) W0 w1 := Grown.below gr1 (by omega) (owns_ge own0); have z1 := gr1.size; have HO1 : Hid (OwnR w1 (D + 1) (.slice x1 l.length c1) l) := own1; have g1 : Below w.heap.size w w1 := g0.trans (b1.mono (by omega)); clear own1 gr1 own0 st)
    | (go_at_call 20; refine (c64 _ g1).mono ?_; rintro e w2 ⟨b2, x2, c2, rfl, m2⟩; have HB2 : Hid (w2.heap[D]? = some (.cells #[.int .i64 0, .slice none 0 0, .slice none 0 0] 24 (0, 0))) := box_on ((b1.block D (by omega)).trans HB.out) b2; obtain ⟨r0, r1, r2, q0, q1, q2⟩ := box3_cells HB2.out))
  obtain ⟨W3, hW3⟩ : ∃ W3, ((w2.setCell ⟨D, 0, none⟩ (.int .i64 b)).setCell ⟨D, 1, none⟩ (.slice x1 l.length c1)).setCell ⟨D, 2, none⟩ (.slice x2 l.length c2) = W3 := ⟨_, rfl⟩
  have o3 : Out D (D + 1) w2 W3 := by
    subst hW3
    exact (((Out.refl _ _ _).setCell (by omega) (by omega) _ _).setCell (by omega) (by omega) _ _).setCell (by omega) (by omega) _ _
  have R : W3.heap[D]? = some (.cells #[.int .i64 b, .slice x1 l.length c1, .slice x2 l.length c2] 24 (0, 0)) := by
    subst hW3
    exact box3_set HB2.out
  rw [hW3]
  clear hW3 r0 r1 r2 q0 q1 q2
  obtain ⟨t0, t1, t2, -, -, -⟩ := box3_cells R
  have z2 := b2.size
  have z3 := o3.size
  have mA : MineX w1 (D + 1) w1.heap.size x1 l.length (gx l) := HO1.out.own.1
  refine bodyPost_ret (v := fv b x1 l.length c1 x2 l.length c2) (by simp [results, Try.results10, go_sem, t0, t1, t2]) rfl ⟨?_, _, rfl, x1, c1, x2, c2, w1.heap.size, by rw [Hll.out], by omega, by omega, ?_, ?_⟩
  · exact (Below.comp g1 b2).trans ((o3.below (by omega)).mono (by omega))
  · exact ((mA.below b2).out o3 (.inr (Nat.le_refl _))).mono (by omega) (Nat.le_refl _)
  · exact (m2.out o3 (.inr (by omega))).mono (Nat.le_refl _) (by omega)
/-- Three cells of a box stored at once. -/
theorem box3_out (w : World) (D : Nat) (u0 u1 u2 : Value) : Out D (D + 1) w (((w.setCell ⟨D, 0, none⟩ u0).setCell ⟨D, 1, none⟩ u1).setCell ⟨D, 2, none⟩ u2) :=
  (((Out.refl _ _ _).setCell (Nat.le_refl _) (Nat.lt_succ_self _) _ _).setCell (Nat.le_refl _) (Nat.lt_succ_self _) _ _).setCell (Nat.le_refl _) (Nat.lt_succ_self _) _ _
theorem srt_one (x : Ex) : srt [x] = [x] := rfl
theorem exs_one {w : World} {g : Nat} {p q : Int} {t : TypeId} (h : w.heap[g]? = some (.cells #[.int .i64 p, .int .i64 q] t (0, 0))) : Exs w (some ⟨g, 0, none⟩) [(p, q)] := by
  obtain ⟨h0, h1, -, -⟩ := box2_cells h
  intro _
  refine ⟨g, 0, rfl, fun i hi => ?_⟩
  obtain rfl : i = 0 := by simp at hi; exact hi
  exact ⟨by simpa [gx] using h0, by simpa [gx] using h1⟩
theorem own_one {w : World} {g B C : Nat} {p q : Int} (h : w.heap[g]? = some (.cells #[.int .i64 p, .int .i64 q] 36 (0, 0))) (hB : B ≤ g) (hC : g < C) : Own w B C (some ⟨g, 0, none⟩) [(p, q)] :=
  .inr ⟨g, _, hB, hC, rfl, h, fun i hi => by
    obtain rfl : i = 0 := by simp at hi; exact hi
    exact ⟨rfl, rfl⟩⟩
end Go.Proofs.Ytpafeophdgnkmaa
