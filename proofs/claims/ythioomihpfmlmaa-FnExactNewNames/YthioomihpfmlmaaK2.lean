import Derived.Test.YthioomihpfmlmaaM3
/- NewNames on both sides, and its law. -/
namespace Go.Proofs.Ythioomihpfmlmaa
open Go.ChangeShapes Go.WideShapes Go.ChangeAt Go.RowKit
set_option linter.unusedVariables false
open Hd

attribute [local go_sem] Oper.semAt_some

theorem NOwn.form {w : World} {B C : Nat} {v : Value} {T : List Ino} (h : NOwn w B C v T) : ∃ a c, v = .agg #[.slice a T.length c] := by
  obtain ⟨a, c, e, -⟩ := h.at_
  exact ⟨a, c, e⟩
/-- An empty / alone. -/
def newT : List Ino := [⟨true, 1, []⟩]
theorem newT_own (w : World) (o : Obj) : NOwn ((w.alloc o).alloc (.cells #[.bool true, .int .i64 1, .slice none 0 0] 43)) w.heap.size (w.heap.size + 2) (.agg #[.slice (some ⟨w.heap.size + 1, 0, none⟩) 1 1]) newT := by
  obtain ⟨h1, h2⟩ := al2 w o (.cells #[.bool true, .int .i64 1, .slice none 0 0] 43)
  refine ⟨some ⟨w.heap.size + 1, 0, none⟩, 1, rfl, Nat.le_refl _, fun _ => ⟨w.heap.size + 1, _, fun _ => 0, by omega, by omega, rfl, h2, Nat.le_refl _, fun i hi => ?_, fun r hr hne => ?_⟩⟩
  · have : i = 0 := by simp [newT] at hi; omega
    subst this
    exact ⟨rfl, rfl, _, rfl, NB.nil⟩
  · have : r = 0 := by simp [newT] at hr; omega
    subst this
    exact absurd rfl hne
theorem specNew_any (w : World) : Calls Try.prog 6 #[] w fun e w' => Below w.heap.size w w' ∧ ∃ v, e = .returned v ∧ NOwn w' w.heap.size w'.heap.size v newT := by
  go_enter Try.func6, Try.ntmps6
  go_wp2
  exact bodyPost_ret (v := .agg #[.slice (some ⟨w.heap.size + 1, 0, none⟩) 1 1]) (by simp [results, Try.results6, go_sem]) rfl ⟨ba2 _ _ _, _, rfl, (newT_own w _).mono (Nat.le_refl _) (by simp)⟩
theorem implNew_any (w : World) : Calls Try.prog 7 #[] w fun e w' => Below w.heap.size w w' ∧ ∃ v, e = .returned v ∧ NOwn w' w.heap.size w'.heap.size v newT := by
  go_enter Try.func7, Try.ntmps7
  go_wp2
  exact bodyPost_ret (v := .agg #[.slice (some ⟨w.heap.size + 1, 0, none⟩) 1 1]) (by simp [results, Try.results7, go_sem]) rfl ⟨ba2 _ _ _, _, rfl, (newT_own w _).mono (Nat.le_refl _) (by simp)⟩
set_option maxHeartbeats 4000000 in
theorem lawNew (w : World) : Calls Try.prog 3 #[] w fun e w' => e = .returned (.bool true) ∧ Below w.heap.size w w' := by
  have cS := fun W => specNew_any W
  have cI := fun W => implNew_any W
  have hfew : FewI newT := ⟨by decide, fun i hi => ⟨by have : i = 0 := (by simp [newT] at hi; omega); subst this; decide, fun j hj => by have : i = 0 := (by simp [newT] at hi; omega); subst this; exact absurd hj (by simp [newT, gn])⟩⟩
  have hk : kT 1 newT ≤ 100000000 := by decide
  obtain ⟨d, hd⟩ : ∃ d, newT = d := ⟨_, rfl⟩
  rw [hd] at cS cI hfew hk
  clear hd
  have cE := fun W x x' h h' => eqNames_same x x' d W hfew h h'
  have cM := fun B C W x h => markNames_any B C x d 1 W (by omega) hk h
  have cH := fun W x h => heldNames_any x d 1 W (by omega) hk h
  have hJ0 : decide (((kT 1 d : Nat) : Int) < 0) = false := by simp
  have hJJ : (((kT 1 d : Nat) : Int) != ((kT 1 d : Nat) : Int)) = false := by simp
  generalize ((kT 1 d : Nat) : Int) = J at *
  rw [show (((1 : Nat)) : Int) = 1 from rfl] at *
  have HF : Hid (FewI d) := hfew
  clear hfew hk
  go_enter Try.func3, Try.ntmps3
  go_wp2_with fail
  refine (cS _).mono ?_
  rintro e w1 ⟨b1, v, rfl, ty⟩
  obtain ⟨ya, yc, hv⟩ := ty.form
  subst hv
  obtain ⟨n, hn⟩ : ∃ x, d.length = x := ⟨_, rfl⟩
  have Hn : Hid _ := hn
  rw [hn] at ty ⊢
  clear hn
  obtain ⟨W1, hW1⟩ : ∃ W1, w1.alloc (.cells #[.slice ya n yc] 24) = W1 := ⟨_, rfl⟩
  have q1 : Below w1.heap.size w1 W1 := by subst hW1; exact below_alloc _ _
  have Y1 : Hid (W1.heap[w1.heap.size]? = some (.cells #[.slice ya n yc] 24 (0, 0))) := by subst hW1; exact al1 _ _
  have TY : Hid (NOwn W1 w.heap.size w1.heap.size (.agg #[.slice ya n yc]) d) := ty.below q1
  clear ty
  go_wp2_with fail
  refine (cI _).mono ?_
  rintro e w2 ⟨b2, v, rfl, tz⟩
  obtain ⟨za, zc, hv⟩ := tz.form
  rw [Hn.out] at hv
  subst hv
  obtain ⟨W2, hW2⟩ : ∃ W2, w2.alloc (.cells #[.slice za n zc] 24) = W2 := ⟨_, rfl⟩
  have q2 : Below w2.heap.size w2 W2 := by subst hW2; exact below_alloc _ _
  have Z2 : Hid (W2.heap[w2.heap.size]? = some (.cells #[.slice za n zc] 24 (0, 0))) := by subst hW2; exact al1 _ _
  have TZ : Hid (NOwn W2 W1.heap.size w2.heap.size (.agg #[.slice za n zc]) d) := tz.below q2
  have b12 := Below.comp b2 q2
  have TY2 : Hid (NOwn W2 w.heap.size w1.heap.size (.agg #[.slice ya n yc]) d) := TY.out.below b12
  have Y2 : Hid (W2.heap[w1.heap.size]? = some (.cells #[.slice ya n yc] 24 (0, 0))) := box_on Y1.out b12
  obtain ⟨y0, -⟩ := box1_cells Y2.out
  obtain ⟨z0, -⟩ := box1_cells Z2.out
  have hs1 : w1.heap.size + 1 ≤ W1.heap.size := box_lt Y1.out
  have hs2 : w2.heap.size + 1 ≤ W2.heap.size := box_lt Z2.out
  have HS1 : Hid _ := hs1
  have HS2 : Hid _ := hs2
  have HS3 : Hid (W1.heap.size ≤ w2.heap.size) := b2.size
  clear tz hW1 hs1 hs2
  go_wp2_with fail
  refine (cE _ _ _ TZ.out.at_ TY2.out.at_).mono ?_
  rintro e w3 ⟨rfl, b3⟩
  clear y0 z0 hW2
  obtain ⟨z0, -⟩ := box1_cells (box_on Z2.out b3)
  have TZ3 : Hid (NOwn w3 W1.heap.size w2.heap.size (.agg #[.slice za n zc]) d) := TZ.out.below b3
  have hz3 : w2.heap.size ≤ w3.heap.size := Nat.le_trans q2.size b3.size
  go_wp2_with fail
  refine (cM W1.heap.size w2.heap.size _ _ TZ3.out).mono ?_
  rintro e w4 ⟨rfl, ⟨V, hV, hVo⟩, tz4⟩
  have TZ4 : Hid (NOwn w4 W1.heap.size w2.heap.size (.agg #[.slice za n zc]) (mkT 1 d)) := tz4
  have Z4 : Hid (w4.heap[w2.heap.size]? = some (.cells #[.slice za n zc] 24 (0, 0))) := box_out (box_on (box_on Z2.out b3) hV) hVo (.inr (Nat.le_refl _))
  have Y4 : Hid (w4.heap[w1.heap.size]? = some (.cells #[.slice ya n yc] 24 (0, 0))) := box_out (box_on (box_on Y2.out b3) hV) hVo (.inl HS1.out)
  have TY4 : Hid (NOwn w4 w.heap.size w1.heap.size (.agg #[.slice ya n yc]) d) := ((TY2.out.below b3).below hV).out hVo (.inl (by have := HS1.out; omega))
  have hB4 : Below w.heap.size w w4 := by
    have g3 : Below w.heap.size w V := Below.comp (Below.comp (Below.comp (Below.comp b1 q1) b12) b3) hV
    have hz : W1.heap.size ≤ V.heap.size := Nat.le_trans HS3.out (Nat.le_trans hz3 hV.size)
    exact g3.trans ((hVo.below hz).mono (Nat.le_trans b1.size q1.size))
  clear z0 tz4
  obtain ⟨z0, -⟩ := box1_cells Z4.out
  go_wp2_with fail
  refine (cH _ _ TZ4.out.at_).mono ?_
  rintro e w5 ⟨rfl, b5⟩
  clear z0
  go_wp2_with fail
  refine (cI _).mono ?_
  rintro e w6 ⟨b6, v, rfl, tx⟩
  obtain ⟨xa, xc, hv⟩ := tx.form
  rw [Hn.out] at hv
  subst hv
  obtain ⟨W6, hW6⟩ : ∃ W6, w6.alloc (.cells #[.slice xa n xc] 24) = W6 := ⟨_, rfl⟩
  have q6 : Below w6.heap.size w6 W6 := by subst hW6; exact below_alloc _ _
  have X6 : Hid (W6.heap[w6.heap.size]? = some (.cells #[.slice xa n xc] 24 (0, 0))) := by subst hW6; exact al1 _ _
  have b46 := Below.comp (Below.comp b5 b6) q6
  have TX6 : Hid (NOwn W6 w5.heap.size w6.heap.size (.agg #[.slice xa n xc]) d) := tx.below q6
  have TY6 : Hid (NOwn W6 w.heap.size w1.heap.size (.agg #[.slice ya n yc]) d) := TY4.out.below b46
  obtain ⟨x0, -⟩ := box1_cells X6.out
  obtain ⟨y0, -⟩ := box1_cells (box_on Y4.out b46)
  clear tx
  go_wp2_with fail
  refine (cE _ _ _ TX6.out.at_ TY6.out.at_).mono ?_
  rintro e w7 ⟨rfl, b7⟩
  have b47 := Below.comp b46 b7
  clear x0 y0 hW6
  obtain ⟨z0, -⟩ := box1_cells (box_on Z4.out b47)
  go_wp2_with fail
  refine (cH _ _ (TZ4.out.at_.below b47)).mono ?_
  rintro e w8 ⟨rfl, b8⟩
  clear z0
  go_wp2_with fail
  go_ret
  exact ⟨rfl, Below.comp hB4 (Below.comp b47 b8)⟩
end Go.Proofs.Ythioomihpfmlmaa
