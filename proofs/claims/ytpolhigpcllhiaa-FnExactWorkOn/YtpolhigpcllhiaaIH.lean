import Derived.Test.YtpolhigpcllhiaaIG
/- Work of one's own: the model's copy; and what a promise more is, of no program. -/
namespace Go.Proofs.Ytpolhigpcllhiaa
open Go.ChangeShapes Go.WideShapes Go.ChangeAt Go.RowKit
set_option linter.unusedVariables false
open Room

attribute [local go_sem] Oper.semAt_some

theorem rnP_app (b : Int) (l : List Ex) : ∀ (t u P : List It), rnP b l P (t ++ u) = (rnP b l P t).bind fun P' => rnP b l P' u
  | [], u, P => rfl
  | x :: t, u, P => by
    show (match stP b l P x with | none => none | some P' => rnP b l P' (t ++ u)) = (match stP b l P x with | none => none | some P' => rnP b l P' t).bind fun P' => rnP b l P' u
    cases stP b l P x with
    | none => rfl
    | some P' => exact rnP_app b l t u P'
/-- A promise more that is good: what was ahead of it is good. -/
theorem gw_back {b : Int} {l s : List Ex} {nx2 : Int} {t : List It} {x : It} (hx : x.k = 1) (h : gw b l s nx2 (t ++ [x]) = true) : gw b l s x.i t = true ∧ nx2 = x.i + 1 ∧ 1 ≤ x.i ∧ x.i ≤ 30 := by
  rw [gw_prO] at h
  obtain ⟨P2, hP2⟩ := Option.isSome_iff_exists.1 h
  obtain ⟨h1, h2, h3, h4, h5⟩ := prO_inv hP2
  have hlen : t.length + 1 ≤ 30 := by simpa using h2
  rw [rnP_app] at h4
  cases hP : rnP b l [] t with
  | none => rw [hP] at h4; cases h4
  | some P =>
    rw [hP] at h4
    have h6 : stP b l P x = some P2 := by
      have h7 : (match stP b l P x with | none => none | some P' => rnP b l P' []) = some P2 := h4
      cases hs : stP b l P x with
      | none => rw [hs] at h7; cases h7
      | some P3 => rw [hs] at h7; exact h7
    have hd : mayD P x = false := by unfold mayD; simp [hx]
    unfold stP at h6
    rw [hd] at h6
    cases hm : mayP b l P x with
    | false => rw [hm] at h6; cases h6
    | true =>
      rw [hm] at h6
      simp only [if_true, Option.some.injEq] at h6
      unfold mayP at hm
      simp only [Bool.and_eq_true, decide_eq_true_eq] at hm
      have hi := hm.2.1
      have hl2 : P2.length = P.length + 1 := by rw [← h6]; simp
      have hPi : prO b l s x.i t = some P := by
        unfold prO prs
        have e : (good b l s && decide (t.length ≤ 30)) = true := by rw [h1]; simp; omega
        rw [e, if_pos rfl, hP]
        simp only
        rw [if_pos hi]
      have hin := (prO_inv hPi).2.2.1
      have hPl := Inv.len hin
      refine ⟨by rw [gw_prO, hPi]; rfl, ?_, by omega, by omega⟩
      rw [h5, hl2, hi]
      omega
theorem gw_nx {b : Int} {l s : List Ex} {nx : Int} {t : List It} (h : gw b l s nx t = true) : 1 ≤ nx ∧ nx ≤ 31 ∧ t.length ≤ 30 ∧ l.length ≤ 60 ∧ srt l = s ∧ s.length ≤ 60 := by
  rw [gw_prO] at h
  obtain ⟨P, hP⟩ := Option.isSome_iff_exists.1 h
  obtain ⟨h1, h2, h3, h4, h5⟩ := prO_inv hP
  have h6 := Inv.len h3
  have h7 := good_iff.1 h1
  have h8 : (srt l).length = l.length := len_srt
  refine ⟨by omega, by omega, h2, h7.2.1, h7.2.2.2, ?_⟩
  rw [← h7.2.2.2, h8]
  exact h7.2.1
/-- Whether a promise may be made, and both sides' words of it. -/
def okP (b : Int) (l s : List Ex) (nx : Int) (t : List It) (x : Ex) : Bool := gw b l s nx t && gw b l s (nx + 1) (t ++ [⟨1, nx, x, 0⟩])
theorem okP_impl (b : Int) (l s : List Ex) (nx : Int) (t : List It) (x : Ex) (h0 : -9223372036854775808 ≤ nx) (h1 : nx ≤ 9223372036854775807) : gw b l s (IntKind.i64.wrap (nx + 1)) (t ++ [⟨1, nx, x, 0⟩]) = okP b l s nx t x := by
  unfold okP
  by_cases hz : nx + 1 ≤ 9223372036854775807
  · rw [wrapI (by omega) hz]
    cases h : gw b l s (nx + 1) (t ++ [⟨1, nx, x, 0⟩]) with
    | false => simp
    | true =>
      have := (gw_back (x := ⟨1, nx, x, 0⟩) rfl h).1
      simp only at this
      rw [this]; rfl
  · have hn : gw b l s nx t = false := by
      cases h : gw b l s nx t with
      | false => rfl
      | true => have := gw_nx h; omega
    rw [hn, Bool.false_and]
    cases h : gw b l s (IntKind.i64.wrap (nx + 1)) (t ++ [⟨1, nx, x, 0⟩]) with
    | false => rfl
    | true =>
      have := gw_back (x := ⟨1, nx, x, 0⟩) rfl h
      simp only at this
      omega
theorem owns_out {w w' : World} {B C Z : Nat} {e : TypeId} {size n : Nat} {v : Value} {xs : List Value} (h : w.ownsRow Z e size v n xs) (ho : Out B C w w') (hC : C ≤ Z) : w'.ownsRow Z e size v n xs := by
  refine ⟨h.1, ?_⟩
  rcases h.2 with h | ⟨g, cap, cur, h1, hb, hg, h2⟩
  · exact .inl h
  · exact .inr ⟨g, cap, cur, h1, hb, box_out hg ho (.inr (by omega)), h2⟩
set_option maxRecDepth 10000 in
set_option maxHeartbeats 4000000 in
theorem l12Own_any (b : Int) (a : Option Addr) (ca : Nat) (a' : Option Addr) (n' ca' : Nat) (l : List Ex) (nx : Int) (i : Option Addr) (ci : Nat) (t : List It) (w : World) (hn : l.length ≤ 60) (hm : t.length ≤ 30) (ha : Exs w a l) (hi : Its w i t) :
    Calls Try.prog 43 #[wv b a l.length ca a' n' ca' nx i t.length ci] w fun e w' => Below w.heap.size w w' ∧ ∃ x c x' c' y cy M N, e = .returned (wv b x l.length c x' (srt l).length c' nx y t.length cy) ∧ w.heap.size ≤ M ∧ M ≤ N ∧ N ≤ w'.heap.size ∧ Own w' w.heap.size M x l ∧ Own w' M N x' (srt l) ∧ OwnI w' N (.slice y t.length cy) t := by
  have cO := fun W h => l5Of_any b a ca l W (by omega) (ha.below h)
  have hst := fun (W : World) (h : Below w.heap.size w W) => RowI.src (hi.below h)
  have hcl : Hid ((cis t).length = t.length * 5) := cis_len t
  have hc1 := cis_one t
  have HL : Hid (∀ (w' : World) (B : Nat) (v : Value), World.ownsRow w' B 71 5 v t.length (cis t) → OwnI w' B v t) := fun _ _ _ h => h
  have hsl : (srt l).length = l.length := len_srt
  rw [hsl] 
  have HF : Hid (∀ (w' : World) (B : Nat) (v : Value), FreeAt B w' v b l (srt l) → ∃ x c x' c' M, v = fv b x l.length c x' l.length c' ∧ B ≤ M ∧ M ≤ w'.heap.size ∧ Own w' B M x l ∧ Own w' M w'.heap.size x' (srt l)) := fun w' B v h => by
    obtain ⟨x, c, x', c', M, e, h1, h2, h3, h4⟩ := h
    rw [hsl] at e
    exact ⟨x, c, x', c', M, e, h1, h2, h3, h4⟩
  clear ha hi
  obtain ⟨n, hnn⟩ : ∃ n, l.length = n := ⟨_, rfl⟩
  obtain ⟨m, hmm⟩ : ∃ m, t.length = m := ⟨_, rfl⟩
  rw [hnn] at cO HF
  rw [hmm] at hst hcl HL hm
  rw [hnn, hmm]
  clear hnn hmm hsl
  generalize cis t = ct at *
  obtain ⟨D, hD⟩ : ∃ D, w.heap.size = D := ⟨_, rfl⟩
  obtain ⟨W0, hW0⟩ : ∃ W0, (w.alloc (.cells #[.int .i64 b, .slice a n ca, .slice a' n' ca', .int .i64 nx, .slice i m ci] 27)).alloc (.cells #[.int .i64 0, .slice none 0 0, .slice none 0 0, .int .i64 0, .slice none 0 0] 27) = W0 := ⟨_, rfl⟩
  have g0 : Below w.heap.size w W0 := by subst hW0; exact ba2 _ _ _
  obtain ⟨B1, B2⟩ : W0.heap[D]? = some (.cells #[.int .i64 b, .slice a n ca, .slice a' n' ca', .int .i64 nx, .slice i m ci] 27 (0, 0)) ∧ W0.heap[D + 1]? = some (.cells #[.int .i64 0, .slice none 0 0, .slice none 0 0, .int .i64 0, .slice none 0 0] 27 (0, 0)) := by subst hW0 hD; exact al2 _ _ _
  have H1 : Hid (W0.heap[D]? = some (.cells #[.int .i64 b, .slice a n ca, .slice a' n' ca', .int .i64 nx, .slice i m ci] 27 (0, 0))) := B1
  have H2 : Hid (W0.heap[D + 1]? = some (.cells #[.int .i64 0, .slice none 0 0, .slice none 0 0, .int .i64 0, .slice none 0 0] 27 (0, 0))) := B2
  have z0 := box_lt B2
  obtain ⟨i0, i1, i2, i3, i4⟩ := box5_cells B1
  clear B1 B2
  go_enter Try.func43, Try.ntmps43
  go_wp2_with fail
  refine (cO _ g0).mono ?_
  rintro e w1 ⟨b1, v1, rfl, fa⟩
  obtain ⟨x, c, x', c', M, rfl, hM1, hM2, m1, m2⟩ := HF.out _ _ _ fa
  clear hW0 i0 i1 i2 i3 i4 fa
  have z1 := b1.size
  have K1 := box_on H1.out b1
  have K2 : Hid (w1.heap[D + 1]? = some (.cells #[.int .i64 0, .slice none 0 0, .slice none 0 0, .int .i64 0, .slice none 0 0] 27 (0, 0))) := box_on H2.out b1
  obtain ⟨i0, i1, i2, i3, i4⟩ := box5_cells K1
  obtain ⟨f0, f1, f2, f3, f4⟩ := box5_free K1
  obtain ⟨W2, hW2⟩ : ∃ W2, ((w1.setCell ⟨D, 0, none⟩ (.int .i64 b)).setCell ⟨D, 1, none⟩ (.slice x n c)).setCell ⟨D, 2, none⟩ (.slice x' n c') = W2 := ⟨_, rfl⟩
  have R2 : Hid (W2.heap[D]? = some (.cells #[.int .i64 b, .slice x n c, .slice x' n c', .int .i64 nx, .slice i m ci] 27 (0, 0))) := by subst hW2; exact block_set (block_set (block_set K1))
  have o2 : Out D (D + 1) w1 W2 := by subst hW2; exact box3_out _ _ _ _ _
  have R3 : Hid (W2.heap[D + 1]? = some (.cells #[.int .i64 0, .slice none 0 0, .slice none 0 0, .int .i64 0, .slice none 0 0] 27 (0, 0))) := box_out K2.out o2 (by omega)
  have z2 := o2.size
  have g2 : Below w.heap.size w W2 := (Below.comp g0 b1).trans ((o2.below (by omega)).mono (by omega))
  have n1 : Hid (Own W2 W0.heap.size M x l ∧ Own W2 M w1.heap.size x' (srt l)) := ⟨m1.out o2 (.inr (by omega)), m2.out o2 (.inr (by omega))⟩
  clear K1 m1 m2
  obtain ⟨W3, hW3⟩ : ∃ W3, W2.alloc (.cells #[] 71) = W3 := ⟨_, rfl⟩
  have b3 : Below W2.heap.size W2 W3 := by subst hW3; exact below_alloc _ _
  have own3 : W3.ownsRow W2.heap.size 71 5 (.slice (some ⟨W2.heap.size, 0, none⟩) 0 0) 0 [] := by
    subst hW3
    exact ⟨rfl, .inr ⟨W2.heap.size, 0, #[], rfl, Nat.le_refl _, al1 _ _, Nat.le_refl _, by decide, rfl, rfl⟩⟩
  have z3 := b3.size
  have R3' : Hid (W3.heap[D + 1]? = some (.cells #[.int .i64 0, .slice none 0 0, .slice none 0 0, .int .i64 0, .slice none 0 0] 27 (0, 0))) := box_on R3.out b3
  have R2' : Hid (W3.heap[D]? = some (.cells #[.int .i64 b, .slice x n c, .slice x' n c', .int .i64 nx, .slice i m ci] 27 (0, 0))) := box_on R2.out b3
  obtain ⟨s0, s1, s2, s3, s4⟩ := box5_cells R2'.out
  have st3 := hst W3 (Below.comp g2 b3)
  go_wp2_with (at_builtin; refine wpList_append_src rfl _ _ 25 rfl W2.heap.size 71 _ 5 40 Try.underlying25 infoIt rfl (by decide) (.slice (some ⟨W2.heap.size, 0, none⟩) 0 0) 0 [] rfl own3 i m ci ct rfl hcl.out st3 hc1 (by omega) (by decide) (by omega) ?_; intro v4 w4 own4 gr4; rw [Nat.zero_add, List.nil_append] at own4; obtain ⟨y, cy, e4⟩ := owns_form own4; subst e4; have b4 : Below W2.heap.size W3 w4 := Grown.below gr4 (by omega) (owns_ge own3); have HO4 : Hid (OwnI w4 W2.heap.size (.slice y m cy) t) := HL.out _ _ _ own4; have z4 := gr4.size; have K4 : w4.heap[D]? = some (.cells #[.int .i64 b, .slice x n c, .slice x' n c', .int .i64 nx, .slice i m ci] 27 (0, 0)) := (b4.block D (by omega)).trans R2'.out; have K5 : w4.heap[D + 1]? = some (.cells #[.int .i64 0, .slice none 0 0, .slice none 0 0, .int .i64 0, .slice none 0 0] 27 (0, 0)) := (b4.block (D + 1) (by omega)).trans R3'.out; obtain ⟨u0, u1, u2, u3, u4⟩ := box5_cells K4; obtain ⟨v0, v1, v2, v3, v4⟩ := box5_free K4; obtain ⟨p0, p1, p2, p3, p4⟩ := box5_cells K5; obtain ⟨q0, q1, q2, q3, q4⟩ := box5_free K5; have HK5 : Hid (w4.heap[D + 1]? = some (.cells #[.int .i64 0, .slice none 0 0, .slice none 0 0, .int .i64 0, .slice none 0 0] 27 (0, 0))) := K5; clear own4 gr4 own3 K4 K5)
  obtain ⟨W5, hW5⟩ : ∃ W5, (((((w4.setCell ⟨D, 4, none⟩ (.slice y m cy)).setCell ⟨D + 1, 0, none⟩ (.int .i64 b)).setCell ⟨D + 1, 1, none⟩ (.slice x n c)).setCell ⟨D + 1, 2, none⟩ (.slice x' n c')).setCell ⟨D + 1, 3, none⟩ (.int .i64 nx)).setCell ⟨D + 1, 4, none⟩ (.slice y m cy) = W5 := ⟨_, rfl⟩
  have o5 : Out D (D + 1 + 1) w4 W5 := by subst hW5; exact ((((((Out.refl _ _ _).setCell (by omega) (by omega) _ _).setCell (by omega) (by omega) _ _).setCell (by omega) (by omega) _ _).setCell (by omega) (by omega) _ _).setCell (by omega) (by omega) _ _).setCell (by omega) (by omega) _ _
  have R5 : W5.heap[D + 1]? = some (.cells #[.int .i64 b, .slice x n c, .slice x' n c', .int .i64 nx, .slice y m cy] 27 (0, 0)) := by subst hW5; exact block_set (block_set (block_set (block_set (block_set (box_out HK5.out (out_setCell _ _ _ _) (by omega))))))
  rw [hW5]
  clear hW5
  obtain ⟨t0, t1, t2, t3, t4⟩ := box5_cells R5
  have z5 := o5.size
  have g4 : Below w.heap.size w w4 := (Below.comp g2 b3).trans (b4.mono (by omega))
  have bz : Below W2.heap.size W2 w4 := b3.trans (b4.mono (Nat.le_refl _))
  refine bodyPost_ret (v := wv b x n c x' n c' nx y m cy) (by simp [results, Try.results43, go_sem, t0, t1, t2, t3, t4]) rfl ⟨?_, x, c, x', c', y, cy, M, W2.heap.size, rfl, by omega, by omega, by omega, ?_, ?_, ?_⟩
  · exact g4.trans ((o5.below (by omega)).mono (by omega))
  · exact ((n1.out.1.below bz).out o5 (.inr (by omega))).mono (by omega) (Nat.le_refl _)
  · exact ((n1.out.2.below bz).out o5 (.inr (by omega))).mono (by omega) (by omega)
  · exact owns_out HO4.out o5 (by omega)
end Go.Proofs.Ytpolhigpcllhiaa
