import Derived.Test.YtpafeophdgnkmaaSy3
/- A new system: the program's and the specification's. -/
namespace Go.Proofs.Ytpafeophdgnkmaa
open Go.ChangeShapes Go.WideShapes Go.ChangeAt Go.RowKit
set_option linter.unusedVariables false
open Room

attribute [local go_sem] Oper.semAt_some

/-- What a new system is. -/
abbrev nsP (n h : Int) : Prop := 1 ≤ n ∧ n ≤ 400 ∧ 0 ≤ h ∧ h ≤ n
def nsL (n h : Int) : List Ex := if nsP n h ∧ h < n then [(h, n - h)] else []
def nsB (n h : Int) : Int := if nsP n h then n else 0
def nsH (n h : Int) : Int := if nsP n h then h else 0
theorem nsL_len (n h : Int) : (nsL n h).length ≤ 1 := by unfold nsL; split <;> simp
theorem good_one {n h d : Int} : good n [(h, d)] [(h, d)] = (decide (1 ≤ n ∧ n ≤ 400) && (decide (0 ≤ h) && (decide (1 ≤ d) && decide (d ≤ n - h)))) := by
  have e : srt [(h, d)] = [(h, d)] := rfl
  rw [Bool.eq_iff_iff]
  simp [good, plc, inB, e]
theorem good_none {n : Int} : good n [] [] = decide (1 ≤ n ∧ n ≤ 400) := by
  have e : srt [] = [] := rfl
  rw [Bool.eq_iff_iff]
  simp [good, plc, e]
theorem wrap_small {x : Int} (h0 : -9223372036854775808 ≤ x) (h1 : x ≤ 9223372036854775807) : wrap64 x = x := by unfold wrap64; omega
theorem ns_good (n h : Int) (h0 : -9223372036854775808 ≤ h) (h1 : h ≤ 9223372036854775807) : (good n (btn h n) (btn h n) && (decide (0 ≤ h) && decide (h ≤ n))) = decide (nsP n h) := by
  unfold btn
  by_cases e : h = n
  · subst e
    rw [if_pos rfl, good_none, Bool.eq_iff_iff, decide_eq_true_iff]
    simp only [Bool.and_eq_true, decide_eq_true_eq]
    unfold nsP
    omega
  · rw [if_neg e, good_one, Bool.eq_iff_iff, decide_eq_true_iff (p := nsP n h)]
    simp only [Bool.and_eq_true, decide_eq_true_eq]
    unfold nsP
    constructor
    · rintro ⟨⟨q1, q2, q3, q4⟩, q5, q6⟩
      omega
    · rintro ⟨q1, q2, q3, q4⟩
      rw [wrap_small (by omega) (by omega)]
      omega
theorem ns_btn {n h : Int} (k : nsP n h) : btn h n = nsL n h := by
  unfold btn nsL
  obtain ⟨q1, q2, q3, q4⟩ := k
  by_cases e : h = n
  · rw [if_pos e, if_neg (by omega)]
  · rw [if_neg e, if_pos ⟨⟨q1, q2, q3, q4⟩, by omega⟩, wrap_small (by omega) (by omega)]
/-- onlyGood of a system without files. -/
theorem onlyGood_yes (h b : Int) (x : Option Addr) (n c : Nat) (y : Option Addr) (n' cy : Nat) (w : World)
    (cG : ∀ W, Below w.heap.size w W → Calls Try.prog 27 #[yv h b x n c y n' cy] W fun e w' => e = .returned (.bool true) ∧ Below W.heap.size W w') :
    Calls Try.prog 13 #[yv h b x n c y n' cy] w fun e w' => e = .returned (.tuple #[yv h b x n c y n' cy, .bool true]) ∧ Below w.heap.size w w' := by
  obtain ⟨D, hD⟩ : ∃ D, w.heap.size = D := ⟨_, rfl⟩
  obtain ⟨W0, hW0⟩ : ∃ W0, (w.alloc (.cells #[.int .i64 h, .int .i64 b, .slice x n c, .slice y n' cy, .slice none 0 0] 27)).alloc (.cells #[.int .i64 0, .int .i64 0, .slice none 0 0, .slice none 0 0, .slice none 0 0] 27) = W0 := ⟨_, rfl⟩
  have g0 : Below w.heap.size w W0 := by subst hW0; exact ba2 _ _ _
  obtain ⟨B1, B2⟩ : W0.heap[D]? = some (.cells #[.int .i64 h, .int .i64 b, .slice x n c, .slice y n' cy, .slice none 0 0] 27 (0, 0)) ∧ W0.heap[D + 1]? = some (.cells #[.int .i64 0, .int .i64 0, .slice none 0 0, .slice none 0 0, .slice none 0 0] 27 (0, 0)) := by subst hW0 hD; exact al2 _ _ _
  have H1 : Hid _ := B1
  have H2 : Hid _ := B2
  obtain ⟨i0, i1, i2, i3, i4⟩ := box5_cells B1
  clear B1 B2
  go_enter Try.func13, Try.ntmps13
  go_wp2_with fail
  refine (cG _ g0).mono ?_
  rintro e w1 ⟨rfl, b1⟩
  clear hW0 i0 i1 i2 i3 i4
  obtain ⟨i0, i1, i2, i3, i4⟩ := box5_cells (box_on H1.out b1)
  obtain ⟨r0, r1, r2, r3, r4⟩ := box5_cells (box_on H2.out b1)
  obtain ⟨q0, q1, q2, q3, q4⟩ := box5_free (box_on H2.out b1)
  have z0 := box_lt H2.out
  go_wp2
  obtain ⟨W3, hW3⟩ : ∃ W3, ((((w1.setCell ⟨D + 1, 0, none⟩ (.int .i64 h)).setCell ⟨D + 1, 1, none⟩ (.int .i64 b)).setCell ⟨D + 1, 2, none⟩ (.slice x n c)).setCell ⟨D + 1, 3, none⟩ (.slice y n' cy)).setCell ⟨D + 1, 4, none⟩ (.slice none 0 0) = W3 := ⟨_, rfl⟩
  have o3 : Out (D + 1) (D + 1 + 1) w1 W3 := by subst hW3; exact box5_out _ _ _ _ _ _ _
  have R : W3.heap[D + 1]? = some (.cells #[.int .i64 h, .int .i64 b, .slice x n c, .slice y n' cy, .slice none 0 0] 27 (0, 0)) := by subst hW3; exact box5_set (box_on H2.out b1)
  rw [hW3]
  clear hW3 r0 r1 r2 r3 r4 q0 q1 q2 q3 q4
  obtain ⟨t0, t1, t2, t3, t4⟩ := box5_cells R
  have z1 := b1.size
  refine bodyPost_ret (v := .tuple #[yv h b x n c y n' cy, .bool true]) (by simp [results, Try.results13, go_sem, t0, t1, t2, t3, t4]) rfl ?_
  exact ⟨rfl, (Below.comp g0 b1).trans ((o3.below (by omega)).mono (by omega))⟩
theorem onlyGood_no (h b : Int) (x : Option Addr) (n c : Nat) (y : Option Addr) (n' cy : Nat) (w : World)
    (cG : ∀ W, Below w.heap.size w W → Calls Try.prog 27 #[yv h b x n c y n' cy] W fun e w' => e = .returned (.bool false) ∧ Below W.heap.size W w') :
    Calls Try.prog 13 #[yv h b x n c y n' cy] w fun e w' => e = .returned (.tuple #[yv 0 0 none 0 0 none 0 0, .bool false]) ∧ Below w.heap.size w w' := by
  obtain ⟨D, hD⟩ : ∃ D, w.heap.size = D := ⟨_, rfl⟩
  obtain ⟨W0, hW0⟩ : ∃ W0, (w.alloc (.cells #[.int .i64 h, .int .i64 b, .slice x n c, .slice y n' cy, .slice none 0 0] 27)).alloc (.cells #[.int .i64 0, .int .i64 0, .slice none 0 0, .slice none 0 0, .slice none 0 0] 27) = W0 := ⟨_, rfl⟩
  have g0 : Below w.heap.size w W0 := by subst hW0; exact ba2 _ _ _
  obtain ⟨B1, B2⟩ : W0.heap[D]? = some (.cells #[.int .i64 h, .int .i64 b, .slice x n c, .slice y n' cy, .slice none 0 0] 27 (0, 0)) ∧ W0.heap[D + 1]? = some (.cells #[.int .i64 0, .int .i64 0, .slice none 0 0, .slice none 0 0, .slice none 0 0] 27 (0, 0)) := by subst hW0 hD; exact al2 _ _ _
  have H1 : Hid _ := B1
  have H2 : Hid _ := B2
  obtain ⟨i0, i1, i2, i3, i4⟩ := box5_cells B1
  clear B1 B2
  go_enter Try.func13, Try.ntmps13
  go_wp2_with fail
  refine (cG _ g0).mono ?_
  rintro e w1 ⟨rfl, b1⟩
  clear hW0 i0 i1 i2 i3 i4
  obtain ⟨r0, r1, r2, r3, r4⟩ := box5_cells (box_on H2.out b1)
  obtain ⟨q0, q1, q2, q3, q4⟩ := box5_free (box_on H2.out b1)
  have z0 := box_lt H2.out
  go_wp2
  obtain ⟨W3, hW3⟩ : ∃ W3, ((((w1.setCell ⟨D + 1, 0, none⟩ (.int .i64 0)).setCell ⟨D + 1, 1, none⟩ (.int .i64 0)).setCell ⟨D + 1, 2, none⟩ (.slice none 0 0)).setCell ⟨D + 1, 3, none⟩ (.slice none 0 0)).setCell ⟨D + 1, 4, none⟩ (.slice none 0 0) = W3 := ⟨_, rfl⟩
  have o3 : Out (D + 1) (D + 1 + 1) w1 W3 := by subst hW3; exact box5_out _ _ _ _ _ _ _
  have R : W3.heap[D + 1]? = some (.cells #[.int .i64 0, .int .i64 0, .slice none 0 0, .slice none 0 0, .slice none 0 0] 27 (0, 0)) := by subst hW3; exact box5_set (box_on H2.out b1)
  rw [hW3]
  clear hW3 r0 r1 r2 r3 r4 q0 q1 q2 q3 q4
  obtain ⟨t0, t1, t2, t3, t4⟩ := box5_cells R
  have z1 := b1.size
  refine bodyPost_ret (v := .tuple #[yv 0 0 none 0 0 none 0 0, .bool false]) (by simp [results, Try.results13, go_sem, t0, t1, t2, t3, t4]) rfl ?_
  exact ⟨rfl, (Below.comp g0 b1).trans ((o3.below (by omega)).mono (by omega))⟩
def NsAns (n h : Int) (w : World) (e : Ending) (w' : World) : Prop := Below w.heap.size w w' ∧ ∃ v, e = .returned (.tuple #[v, .bool (decide (nsP n h))]) ∧ SyM w' w.heap.size w'.heap.size v (nsH n h) (nsB n h) (nsL n h).length (nsL n h).length (gx (nsL n h)) (gx (nsL n h))
set_option maxHeartbeats 2000000 in
theorem implNewSys_any (n h : Int) (w : World) (h0 : -9223372036854775808 ≤ h) (h1 : h ≤ 9223372036854775807) :
    Calls Try.prog 5 #[.int .i64 n, .int .i64 h] w (NsAns n h w) := by
  have hlen := btn_len h n
  have cA := fun W => addBtwNil_any h n W
  have cR := fun x c W h1 => roomNew_any n x c (btn h n) W hlen h1
  have hg := ns_good n h h0 h1
  have cO : Hid (∀ (W : World) x c y cy, Exs W x (btn h n) → Exs W y (btn h n) → Calls Try.prog 13 #[yv h n x (btn h n).length c y (btn h n).length cy] W fun e w' => Below W.heap.size W w' ∧ ∃ u, e = .returned (.tuple #[u, .bool (decide (nsP n h))]) ∧ (nsP n h → u = yv h n x (btn h n).length c y (btn h n).length cy) ∧ (¬ nsP n h → u = yv 0 0 none 0 0 none 0 0)) := fun W x c y cy k1 k2 => by
    have hG := fun W' (hW : Below W.heap.size W W') => goodSys_any h n x c y cy (btn h n) W' hlen (fun z hz => by unfold btn at hz; split at hz <;> simp at hz; subst hz; exact h1) (k1.below hW) (k2.below hW)
    rw [hg] at hG
    by_cases q : nsP n h
    · rw [decide_eq_true q] at hG ⊢
      exact (onlyGood_yes _ _ _ _ _ _ _ _ _ hG).mono fun e w' ⟨he, hb⟩ => ⟨hb, _, he, fun _ => rfl, fun q' => absurd q q'⟩
    · rw [decide_eq_false q] at hG ⊢
      exact (onlyGood_no _ _ _ _ _ _ _ _ _ hG).mono fun e w' ⟨he, hb⟩ => ⟨hb, _, he, fun q' => absurd q' q, fun _ => rfl⟩
  have HF : Hid (∀ (w' : World) v B, B ≤ w'.heap.size → FreeAt B w' v n (btn h n) (btn h n) → ∃ x c y cy, v = fv n x (btn h n).length c y (btn h n).length cy ∧ Exs w' x (btn h n) ∧ Exs w' y (btn h n) ∧ ∀ (w9 : World), Below w'.heap.size w' w9 → ∀ u, (nsP n h → u = yv h n x (btn h n).length c y (btn h n).length cy) → (¬ nsP n h → u = yv 0 0 none 0 0 none 0 0) → SyM w9 B w9.heap.size u (nsH n h) (nsB n h) (nsL n h).length (nsL n h).length (gx (nsL n h)) (gx (nsL n h))) := fun w' v B hB k => by
    obtain ⟨x, c, y, cy, rfl, k1⟩ := FreeAt.sy k h
    obtain ⟨x9, c9, y9, d9, e, r1, r2⟩ := k1.r
    simp only [yv, Value.agg.injEq, Array.mk.injEq, List.cons.injEq, Value.slice.injEq] at e
    obtain ⟨-, -, ⟨rfl, -, rfl⟩, ⟨rfl, -, rfl⟩, -⟩ := e
    refine ⟨x, c, y, cy, rfl, r1, r2, fun w9 h9 u hu1 hu2 => ?_⟩
    by_cases q : nsP n h
    · rw [hu1 q, show nsH n h = h from if_pos q, show nsB n h = n from if_pos q, ← ns_btn q]
      exact (k1.below h9).mono (Nat.le_refl _) h9.size
    · rw [hu2 q, show nsH n h = 0 from if_neg q, show nsB n h = 0 from if_neg q, show nsL n h = [] from if_neg (fun q' => q q'.1)]
      exact (SyM.nil w9 B 0 0).mono (Nat.le_refl _) (by have := h9.size; omega)
  unfold NsAns
  generalize decide (nsP n h) = r at *
  generalize hP : nsP n h = Pn at *
  obtain ⟨D, hD⟩ : ∃ D, w.heap.size = D := ⟨_, rfl⟩
  obtain ⟨W0, hW0⟩ : ∃ W0, w.alloc (.cells #[.int .i64 0, .int .i64 0, .slice none 0 0, .slice none 0 0, .slice none 0 0] 27) = W0 := ⟨_, rfl⟩
  have g0 : Below w.heap.size w W0 := by subst hW0; exact below_alloc _ _
  have B1 : Hid (W0.heap[D]? = some (.cells #[.int .i64 0, .int .i64 0, .slice none 0 0, .slice none 0 0, .slice none 0 0] 27 (0, 0))) := by subst hW0 hD; exact al1 _ _
  have z0 := box_lt B1.out
  clear hg
  obtain ⟨L, hL⟩ : ∃ L, btn h n = L := ⟨_, rfl⟩
  rw [hL] at cA cR cO HF hlen
  clear hL
  obtain ⟨N, hN⟩ : ∃ N, L.length = N := ⟨_, rfl⟩
  rw [hN] at cA cR cO HF hlen
  have HN : Hid _ := hN
  clear hN hP
  generalize (nsL n h).length = NL at *
  generalize nsH n h = hh at *
  generalize nsB n h = bb at *
  go_enter Try.func5, Try.ntmps5
  go_wp2_with fail
  refine (cA _).mono ?_
  rintro e w1 ⟨b1, x1, c1, rfl, m1⟩
  have M1 : Hid (Exs w1 x1 L) := MineX.row (OwnR.own m1).1
  clear m1 hW0
  go_wp2_with fail
  refine (cR x1 c1 _ M1.out).mono ?_
  rintro e w2 ⟨b2, v2, rfl, m2⟩
  obtain ⟨x, c, y, cy, rfl, r1, r2, HU⟩ := HF.out w2 v2 _ b2.size m2
  have R1 : Hid (Exs w2 x L) := r1
  have R2 : Hid (Exs w2 y L) := r2
  have HU' : Hid _ := HU
  clear m2 r1 r2 HU
  have b02 : Below W0.heap.size W0 w2 := Below.comp b1 b2
  obtain ⟨E, hE⟩ : ∃ E, w2.heap.size = E := ⟨_, rfl⟩
  obtain ⟨W3, hW3⟩ : ∃ W3, w2.alloc (.cells #[.int .i64 n, .slice x N c, .slice y N cy] 24) = W3 := ⟨_, rfl⟩
  have b3 : Below w2.heap.size w2 W3 := by subst hW3; exact below_alloc _ _
  have HE : Hid (W3.heap[E]? = some (.cells #[.int .i64 n, .slice x N c, .slice y N cy] 24 (0, 0))) := by subst hW3 hE; exact al1 _ _
  obtain ⟨i0, i1, i2, -, -, -⟩ := box3_cells HE.out
  go_wp2_with fail
  refine (cO.out _ x c y cy (R1.out.below b3) (R2.out.below b3)).mono ?_
  rintro e w4 ⟨b4, u, rfl, hu1, hu2⟩
  clear hW3 i0 i1 i2
  have b24 : Below w2.heap.size w2 w4 := Below.comp b3 b4
  have hSy := HU'.out w4 b24 u hu1 hu2
  obtain ⟨t, ct, t', ct', p1, q1, p2, q2, rfl, k1, k2, k3, k4⟩ := hSy
  have K : Hid (_ ∧ _ ∧ MineX w4 p1 q1 t _ _ ∧ MineX w4 p2 q2 t' _ _) := ⟨k1, k2, k3, k4⟩
  clear k1 k2 k3 k4 hu1 hu2
  have b04 : Below W0.heap.size W0 w4 := Below.comp b02 b24
  obtain ⟨r0, r1, r2, r3, r4⟩ := box5_cells (box_on B1.out b04)
  obtain ⟨q0, q1', q2', q3, q4⟩ := box5_free (box_on B1.out b04)
  have HB4 : Hid _ := box_on B1.out b04
  go_wp2
  obtain ⟨W5, hW5⟩ : ∃ W5, ((((w4.setCell ⟨D, 0, none⟩ (.int .i64 hh)).setCell ⟨D, 1, none⟩ (.int .i64 bb)).setCell ⟨D, 2, none⟩ (.slice t NL ct)).setCell ⟨D, 3, none⟩ (.slice t' NL ct')).setCell ⟨D, 4, none⟩ (.slice none 0 0) = W5 := ⟨_, rfl⟩
  have o5 : Out D (D + 1) w4 W5 := by subst hW5; exact box5_out _ _ _ _ _ _ _
  have R : W5.heap[D]? = some (.cells #[.int .i64 hh, .int .i64 bb, .slice t NL ct, .slice t' NL ct', .slice none 0 0] 27 (0, 0)) := by subst hW5; exact box5_set HB4.out
  rw [hW5]
  clear hW5 r0 r1 r2 r3 r4 q0 q1' q2' q3 q4
  obtain ⟨t0, t1, t2, t3, t4⟩ := box5_cells R
  have z1 := b1.size
  have z4 := b04.size
  have z5 := o5.size
  refine bodyPost_ret (v := .tuple #[yv hh bb t NL ct t' NL ct', .bool r]) (by simp [results, Try.results5, go_sem, t0, t1, t2, t3, t4]) rfl ?_
  obtain ⟨k1, k2, k3, k4⟩ := K.out
  refine ⟨(Below.comp g0 b04).trans ((o5.below (by omega)).mono (by omega)), _, rfl, t, ct, t', ct', p1, q1, p2, q2, rfl, by omega, k2, k3.out o5 (.inr (by omega)), k4.out o5 (.inr (by omega))⟩
end Go.Proofs.Ytpafeophdgnkmaa
