import Derived.Test.YtienhdlhlddemaaE2
/- The program: a cell that may stand in a cow. -/
namespace Go.Proofs.Ytienhdlhlddemaa
open Go.ChangeShapes Go.WideShapes Go.ChangeAt Go.RowKit
set_option linter.unusedVariables false
open Hd

attribute [local go_sem] Oper.semAt_some

/-- What is told of a cell that comes in. -/
def CellIn (x : Ce) (w : World) (e : Ending) (w' : World) : Prop := Below w.heap.size w w' ∧ ∃ v, e = .returned (.tuple #[v, .bool (okC x)]) ∧ (okC x = true → v = cwV x)
theorem ints4 {w : World} {a : Option Addr} {kd : List Int} (h : Ints w a kd) (h4 : kd.length = 4) : ∃ p q r s b off, kd = [p, q, r, s] ∧ a = some ⟨b, off, none⟩ ∧ w.cell? ⟨b, off, none⟩ = some (.int .i64 p) ∧ w.cell? ⟨b, off + 1, none⟩ = some (.int .i64 q) ∧ w.cell? ⟨b, off + 2, none⟩ = some (.int .i64 r) ∧ w.cell? ⟨b, off + 3, none⟩ = some (.int .i64 s) := by
  match kd, h4 with
  | [p, q, r, s], _ =>
    obtain ⟨b, off, rfl, hc⟩ := h (by simp)
    exact ⟨p, q, r, s, b, off, rfl, rfl, hc 0 (by simp), hc 1 (by simp), hc 2 (by simp), hc 3 (by simp)⟩
theorem arr_at (a : Option Addr) (c : Nat) (w : World) : (Instr.arrayAt 74 (.slice a 4 c)).run Try.prog w = .ok (.pointer a) w := by
  simp [Instr.arrayAt, run_underlying Try.underlying74]
set_option maxHeartbeats 2000000 in
theorem cellIn_any (x : Ce) (ka : Option Addr) (kc : Nat) (w : World) (hk : Ints w ka x.kd) (hm : x.kd.length ≤ 9223372036854775807) (hs : x.lf.size ≤ 9223372036854775807) :
    Calls Try.prog 37 #[.agg #[.int .i64 x.ct, .string x.lf, .slice ka x.kd.length kc]] w (CellIn x w) := by
  obtain ⟨ct, lf, kd⟩ := x
  simp only at hk hm hs ⊢
  have HK : Hid (Ints w ka kd) := hk
  clear hk
  obtain ⟨bo, hbo⟩ : ∃ bo, okC ⟨ct, lf, kd⟩ = bo := ⟨_, rfl⟩
  have Hbo : Hid _ := hbo
  have hgoal : ∀ w' v, Below w.heap.size w w' → (bo = true → v = cwV ⟨ct, lf, kd⟩) → CellIn ⟨ct, lf, kd⟩ w (.returned (.tuple #[v, .bool bo])) w' := fun w' v h1 h2 => ⟨h1, v, by rw [hbo], fun h => h2 (hbo.symm.trans h)⟩
  have HG : Hid _ := hgoal
  clear hgoal hbo
  generalize CellIn ⟨ct, lf, kd⟩ w = Q at *
  obtain ⟨m, hmm⟩ : ∃ m, kd.length = m := ⟨_, rfl⟩
  have Hm : Hid _ := hmm
  rw [hmm] at hm ⊢
  clear hmm
  obtain ⟨W0, hW0⟩ : ∃ W0, w.alloc (.cells #[.int .i64 ct, .string lf, .slice ka m kc] 42) = W0 := ⟨_, rfl⟩
  have q0 : Below w.heap.size w W0 := by subst hW0; exact below_alloc _ _
  have H1 : Hid (W0.heap[w.heap.size]? = some (.cells #[.int .i64 ct, .string lf, .slice ka m kc] 42 (0, 0))) := by subst hW0; exact al1 _ _
  obtain ⟨i0, i1, i2⟩ := box3_one H1.out
  have hkm : kd = [] ↔ m = 0 := ⟨fun h => by rw [← Hm.out, h]; rfl, fun h => List.length_eq_zero_iff.1 (by rw [Hm.out, h])⟩
  have Hkm : Hid _ := hkm
  clear hkm
  have hq : ∀ n, Below w.heap.size w (W0.drewN n) := fun n => Below.comp q0 (below_drewN (Below.refl _ _) _)
  by_cases hA : ct = 0
  · subst hA
    have e0 : Hid (bo = (decide (lf.size = 0) && decide (m = 0))) := by
      show _ = _
      rw [← Hbo.out, ← decide_eq_decide.2 Hkm.out]
      rfl
    by_cases hC : lf.size = 0
    · obtain rfl := empty_of hC
      by_cases hz : m = 0
      · subst hz
        go_enter Try.func37, Try.ntmps37
        go_wp2_with fail
        go_quiet (fail)
        go_wp2
        have hb : bo = true := e0.out
        subst hb
        exact HG.out _ _ (hq _) (fun _ => by simp [cwV])
      · have hz' : ((m : Int) == 0) = false := by simpa using hz
        go_enter Try.func37, Try.ntmps37
        go_wp2_with fail
        go_quiet (fail)
        go_wp2
        have hb : bo = false := by rw [e0.out, decide_eq_false hz]; simp
        subst hb
        exact HG.out _ _ (hq _) (fun h => by cases h)
    · obtain ⟨hn1, hn2⟩ := nonempty_of hC
      go_enter Try.func37, Try.ntmps37
      go_wp2_with fail
      go_quiet (fail)
      go_wp2
      have hb : bo = false := by rw [e0.out, decide_eq_false hC]; rfl
      subst hb
      exact HG.out _ _ (hq _) (fun h => by cases h)
  · have hA' : (ct == 0) = false := by simpa using hA
    by_cases hz : m = 0
    · subst hz
      have hkd := Hkm.out.2 rfl
      have e0 : Hid (bo = (decide (1 ≤ lf.size) && decide (lf.size ≤ 8))) := by
        show _ = _
        rw [← Hbo.out]
        unfold okC
        simp only
        rw [if_neg hA, if_pos hkd]
      have hv : Hid (cwV ⟨ct, lf, kd⟩ = .iface 72 (.string lf)) := by
        show _ = _
        unfold cwV
        simp only
        rw [if_neg hA, if_pos hkd]
      clear hkd
      have cL := fun W => leafNothing_any lf W
      by_cases hC : lf.size = 0
      · rw [decide_eq_true hC] at cL
        go_enter Try.func37, Try.ntmps37
        go_wp2_with (go_at_call 45; refine (cL _).mono ?_; rintro e w1 ⟨rfl, hw⟩; have hw' := hw.symm; subst hw'; clear hw)
        have hb : bo = false := by rw [e0.out, decide_eq_false (by omega)]; rfl
        subst hb
        exact HG.out _ _ q0 (fun h => by cases h)
      · rw [decide_eq_false hC] at cL
        by_cases h8 : lf.size ≤ 8
        · have h8' : decide ((lf.size : Int) ≤ 8) = true := by simp; omega
          go_enter Try.func37, Try.ntmps37
          go_wp2_with (go_at_call 45; refine (cL _).mono ?_; rintro e w1 ⟨rfl, hw⟩; have hw' := hw.symm; subst hw'; clear hw)
          have hb : bo = true := by rw [e0.out, decide_eq_true h8, decide_eq_true (by omega)]; rfl
          subst hb
          exact HG.out _ _ q0 (fun h => by rw [hv.out]; rfl)
        · have h8' : decide ((lf.size : Int) ≤ 8) = false := by simp; omega
          go_enter Try.func37, Try.ntmps37
          go_wp2_with (go_at_call 45; refine (cL _).mono ?_; rintro e w1 ⟨rfl, hw⟩; have hw' := hw.symm; subst hw'; clear hw)
          have hb : bo = false := by rw [e0.out, decide_eq_false h8]; simp
          subst hb
          exact HG.out _ _ q0 (fun h => by cases h)
    · have hz' : ((m : Int) == 0) = false := by simpa using hz
      have hkd : ¬ kd = [] := fun h => hz (Hkm.out.1 h)
      have e0 : Hid (bo = (decide (m = 4) && (decide (lf.size = 0) && !decide (kd = [-1, -1, -1, -1])))) := by
        show _ = _
        rw [← Hbo.out]
        unfold okC
        simp only
        rw [if_neg hA, if_neg hkd, Hm.out]
      by_cases h4 : m = 4
      · subst h4
        by_cases hC : lf.size = 0
        · obtain rfl := empty_of hC
          obtain ⟨p, q, r, s, b, off, rfl, rfl, u0, u1, u2, u3⟩ := ints4 HK.out Hm.out
          have hv : Hid (cwV ⟨ct, ⟨#[]⟩, [p, q, r, s]⟩ = .iface 74 (fv p q r s)) := by
            show _ = _
            unfold cwV
            simp only
            rw [if_neg hA, if_neg hkd]
            rfl
          have u0 := cell_on u0 q0
          have u1 := cell_on u1 q0
          have u2 := cell_on u2 q0
          have u3 := cell_on u3 q0
          have hE := fun W => arr_at (some ⟨b, off, none⟩) kc W
          have hnF : Hid ((!nF p q r s) = bo) := by
            show _ = _
            rw [e0.out]
            unfold nF
            simp
            rfl
          obtain ⟨W1, hW1⟩ : ∃ W1, W0.alloc (.cells #[.int .i64 p, .int .i64 q, .int .i64 r, .int .i64 s] 74) = W1 := ⟨_, rfl⟩
          have q1 : Below W0.heap.size W0 W1 := by subst hW1; exact below_alloc _ _
          have H2 : Hid (W1.heap[W0.heap.size]? = some (.cells #[.int .i64 p, .int .i64 q, .int .i64 r, .int .i64 s] 74 (0, 0))) := by subst hW1; exact al1 _ _
          obtain ⟨⟨j0, j1, j2, j3⟩, -⟩ := box4_cells H2.out
          have hb1 : Below w.heap.size w W1 := Below.comp q0 q1
          have SB : Hid (∀ W, Below W1.heap.size W1 W → W.cell? ⟨W0.heap.size, 0, none⟩ = some (.int .i64 p) ∧ W.cell? ⟨W0.heap.size, 1, none⟩ = some (.int .i64 q) ∧ W.cell? ⟨W0.heap.size, 2, none⟩ = some (.int .i64 r) ∧ W.cell? ⟨W0.heap.size, 3, none⟩ = some (.int .i64 s) ∧ Below W1.heap.size W1 W) := fun W g => ⟨cell_on j0 g, cell_on j1 g, cell_on j2 g, cell_on j3 g, g⟩
          have cF := fun W => forkNothing_any p q r s W
          have hF : ∃ bF, nF p q r s = bF := ⟨_, rfl⟩
          obtain ⟨bF, hF⟩ := hF
          rw [hF] at cF hnF
          clear hF hkd
          unfold fv at *
          go_enter Try.func37, Try.ntmps37
          go_wp2_with fail
          clear hW0 hW1 i0 i1 i2 u0 u1 u2 u3 j0 j1 j2 j3 hE
          go_region_held3 (fun W => W.cell? ⟨W0.heap.size, 0, none⟩ = some (.int .i64 p) ∧ W.cell? ⟨W0.heap.size, 1, none⟩ = some (.int .i64 q) ∧ W.cell? ⟨W0.heap.size, 2, none⟩ = some (.int .i64 r) ∧ W.cell? ⟨W0.heap.size, 3, none⟩ = some (.int .i64 s) ∧ Below W1.heap.size W1 W)
            ((refine SB.out _ ?_; first | assumption | exact Below.drew (Below.refl _ _)))
            (first
            | (go_at_call 46; obtain ⟨-, -, -, -, hw0⟩ := ‹_ ∧ _ ∧ _ ∧ _ ∧ Below W1.heap.size W1 _›; refine (cF _).mono ?_; rintro e w1 ⟨rfl, g1⟩; have g2 := Below.comp hw0 g1))
          all_goals go_wp2
          all_goals
            have hb := hnF.out
            subst hb
            exact HG.out _ _ (Below.comp hb1 g2) (fun _ => by rw [hv.out]; rfl)
        · obtain ⟨hn1, hn2⟩ := nonempty_of hC
          go_enter Try.func37, Try.ntmps37
          go_wp2
          have hb : bo = false := by rw [e0.out, decide_eq_false hC]; simp
          subst hb
          exact HG.out _ _ q0 (fun h => by cases h)
      · have h4' : ((m : Int) == 4) = false := by simp; omega
        go_enter Try.func37, Try.ntmps37
        go_wp2
        have hb : bo = false := by rw [e0.out, decide_eq_false h4]; rfl
        subst hb
        exact HG.out _ _ q0 (fun h => by cases h)
end Go.Proofs.Ytienhdlhlddemaa
