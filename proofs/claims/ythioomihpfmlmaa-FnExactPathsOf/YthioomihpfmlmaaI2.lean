import Derived.Test.YthioomihpfmlmaaI1
import Derived.Test.YthioomihpfmlmaaS2
import Derived.Test.YthioomihpfmlmaaQ4
/- The program: links that are right. -/
namespace Go.Proofs.Ythioomihpfmlmaa
open Go.ChangeShapes Go.WideShapes Go.ChangeAt Go.RowKit
set_option linter.unusedVariables false
open Hd

attribute [local go_sem] Oper.semAt_some

set_option maxHeartbeats 4000000 in
set_option maxRecDepth 20000 in
theorem links_any (v : Value) (T : List Ino) (w : World) (h1 : 1 ≤ T.length) (h60 : T.length ≤ 60) (hok : ∀ k, k < T.length → okN T.length (gn T k)) (hc : NamAt w v T) :
    Calls Try.prog 29 #[v] w fun e w' => Tel e (∀ k, k < T.length → lnk T k) ∧ Below w.heap.size w w' := by
  obtain ⟨a, ca, rfl, hca, hI⟩ := hc
  have h20 := few_of hok
  have hSk := Sk_of hok
  obtain ⟨W0, hW0⟩ : ∃ W0, w.alloc (.cells #[.slice a T.length ca] 24) = W0 := ⟨_, rfl⟩
  have q0 : Below w.heap.size w W0 := by subst hW0; exact below_alloc _ _
  have HX : Hid (W0.heap[w.heap.size]? = some (.cells #[.slice a T.length ca] 24 (0, 0))) := by subst hW0; exact al1 _ _
  obtain ⟨x0, -⟩ := box1_cells HX.out
  unfold tv
  obtain ⟨b, off, rfl, hcell⟩ := hI (by omega)
  have hmk := make_any (P := Try.prog) 51 3 _ 1 8 Try.underlying51 info3 .i64 .i64 T.length (by omega) (by omega)
  simp only [Nat.mul_one] at hmk
  obtain ⟨g, hg⟩ : ∃ g, W0.heap.size = g := ⟨_, rfl⟩
  obtain ⟨W1, hW1⟩ : ∃ W1, W0.alloc (.cells (made (.int .i64 0) T.length) 3) = W1 := ⟨_, rfl⟩
  have q1 : Below W0.heap.size W0 W1 := by subst hW1; exact below_alloc _ _
  have hse : SeenAt W1 g T.length (fun _ => 0) := by subst hW1 hg; have h6 := seen_made W0 T.length; rwa [Nat.mul_one] at h6
  obtain ⟨s0, f0⟩ := hse.cell (i := 0) (by omega)
  obtain ⟨W2, hW2⟩ : ∃ W2, W1.setCell ⟨g, 0, none⟩ (.int .i64 1) = W2 := ⟨_, rfl⟩
  have o2 : Out g (g + 1) W1 W2 := by subst hW2; exact out_setCell _ _ _ _
  have HSE : Hid (SeenAt W2 g T.length (pn T 0 0)) := by subst hW2; exact hse.inc (s' := pn T 0 0) (by omega) (by rw [pn_start]; rfl) (fun i _ hne => by rw [pn_start, if_neg hne])
  have hgw : w.heap.size < g := by rw [← hg]; exact box_lt HX.out
  have hg1 : g < W1.heap.size := by subst hW1 hg; simp
  have HBel : Hid (∀ W, Out g (g + 1) W2 W → Below W0.heap.size W0 W) := fun W ho => q1.trans (((o2.trans ho).below (by omega)).mono (by omega))
  have HC : Hid (∀ W, Below W0.heap.size W0 W → ∀ i, i < T.length → InAt W b (off + i * 3) (gn T i)) := fun W h i hi => ((hcell i hi).below q0).below h
  have HSk : Hid _ := hSk.1
  have HPL : Hid _ := fun k i y => pn_le h20 k i y
  have H20 : Hid _ := h20
  have hpn : (0 : Int) < (T.length : Int) := by omega
  have hg2 : g < W2.heap.size := Nat.lt_of_lt_of_le hg1 o2.size
  obtain ⟨x1, -⟩ := box1_cells (box_on HX.out (HBel.out W2 (Out.refl _ _ _)))
  have hx0 : ((0 : Nat) : Int) = 0 := rfl
  clear h20 hcell hI hca hok hSk
  generalize hTn : T.length = n at *
  have HT : Hid _ := hTn
  clear hTn
  go_enter Try.func29, Try.ntmps29
  go_wp2
  clear x0 x1 s0 f0 hmk hW0 hW1 hW2 hse
  go_loopw [19] (fun i wr => ∃ (kk : Nat), kk ≤ n ∧ i = .int .i64 kk ∧ Hid (SeenAt wr g n (pn T kk 0)) ∧ Out g (g + 1) W2 wr) (fun i _ => n - (intOf i).toNat)
  case atStart => exact ⟨0, Nat.zero_le _, rfl, HSE, Out.refl _ _ _⟩
  case round =>
    obtain ⟨kk, hkk, rfl, HS1, ho1⟩ := hrel
    have hb1 := HBel.out _ ho1
    by_cases hkl : kk < n
    · obtain ⟨na, nc, y0, y1, y2, y3, -⟩ := HC.out wr hb1 kk hkl
      have HSk' : Hid _ := HSk.out kk hkl
      have hl20 := H20.out kk
      obtain ⟨nl, hnl⟩ : ∃ nl, (gn T kk).ns.length = nl := ⟨_, rfl⟩
      have Hnl : Hid _ := hnl
      unfold Nms at y3
      rw [hnl] at y2 y3 hl20
      clear hnl
      generalize (gn T kk).dr = dr at *
      generalize (gn T kk).lk = lk at *
      obtain ⟨W3, hW3⟩ : ∃ W3, wr.alloc (.cells #[.bool dr, .int .i64 lk, .slice na nl nc] 43) = W3 := ⟨_, rfl⟩
      have b3 : Below wr.heap.size wr W3 := by subst hW3; exact below_alloc _ _
      have HY3 : Hid (∀ W, Below W0.heap.size W0 W → nl ≠ 0 → ∃ b off, na = some ⟨b, off, none⟩ ∧ ∀ i, i < nl → NmAt W b (off + i * 2) (gm (gn T kk).ns i)) := fun W hW hne => by
        obtain ⟨na', nc', -, -, z2, z3, -⟩ := HC.out W hW kk hkl
        obtain ⟨na0, nc0, -, -, u2, -, -⟩ := HC.out W0 (Below.refl _ _) kk hkl
        have e1 := hb1.cell (p := ⟨b, off + kk * 3 + 2, none⟩) (lt_of_cell u2)
        have e2 := hW.cell (p := ⟨b, off + kk * 3 + 2, none⟩) (lt_of_cell u2)
        rw [y2, u2] at e1
        rw [z2, u2] at e2
        simp only [Option.some.injEq, Value.slice.injEq] at e1 e2
        rw [e1.1, ← e2.1]
        unfold Nms at z3
        rw [Hnl.out] at z3
        exact z3 hne
      obtain ⟨i0, i1, i2⟩ := box3_one (show W3.heap[wr.heap.size]? = some (.cells #[.bool dr, .int .i64 lk, .slice na nl nc] 43 (0, 0)) by subst hW3; exact al1 _ _)
      have HS3 : Hid (SeenAt W3 g n (pn T kk 0)) := HS1.out.below b3
      have ho3 : Out g (g + 1) W2 W3 := ho1.trans (Out.of_below b3)
      clear y3
      go_wp2
      clear y0 y1 y2 i0 i1 i2 hW3
      go_loopw [26] (fun i wr' => ∃ (ii : Nat), ii ≤ nl ∧ i = .int .i64 ii ∧ Hid (SeenAt wr' g n (pn T kk ii)) ∧ Out g (g + 1) W2 wr') (fun i _ => nl - (intOf i).toNat)
      case atStart => exact ⟨0, Nat.zero_le _, rfl, HS3, ho3⟩
      case round =>
        obtain ⟨ii, hii, rfl, HS5, ho5⟩ := hrel
        have hb5 := HBel.out _ ho5
        by_cases hil : ii < nl
        · obtain ⟨nb, noff, rfl, hnc⟩ := HY3.out _ hb5 (by omega)
          obtain ⟨z0, z1⟩ := hnc ii hil
          have hi' : ii < (gn T kk).ns.length := by rw [Hnl.out]; exact hil
          have hx := HSk'.out _ (by rw [gm_eq hi']; exact List.getElem_mem _ : gm (gn T kk).ns ii ∈ (gn T kk).ns)
          rw [tg_fl hx.1] at z1
          have hst := pn_step T hi'
          have hle := fun y => HPL.out kk (ii + 1) y
          generalize (gm (gn T kk).ns ii).nm = nm at z0
          generalize tg (gm (gn T kk).ns ii) = u at *
          obtain ⟨W4, hW4⟩ : ∃ W4, wr.alloc (.cells #[.string nm, .int .i64 (u : Int)] 49) = W4 := ⟨_, rfl⟩
          have b4 : Below wr.heap.size wr W4 := by subst hW4; exact below_alloc _ _
          obtain ⟨n0, n1, -, -⟩ := box2_cells (show W4.heap[wr.heap.size]? = some (.cells #[.string nm, .int .i64 (u : Int)] 49 (0, 0)) by subst hW4; exact al1 _ _)
          obtain ⟨s0, f0⟩ := (HS5.out.below b4).cell hx.2
          have hsu := hst u
          have hlu := hle u
          rw [if_pos rfl] at hsu
          have e1 : IntKind.i64.wrap (((pn T kk ii u : Nat) : Int) + 1) = ((pn T kk (ii + 1) u : Nat) : Int) := by rw [wrapI (by omega) (by omega)]; omega
          generalize ((pn T kk ii u : Nat) : Int) = OV at s0 e1
          obtain ⟨W5, hW5⟩ : ∃ W5, W4.setCell ⟨g, u, none⟩ (.int .i64 ((pn T kk (ii + 1) u : Nat) : Int)) = W5 := ⟨_, rfl⟩
          have o5 : Out g (g + 1) W4 W5 := by subst hW5; exact out_setCell _ _ _ _
          have HS6 : Hid (SeenAt W5 g n (pn T kk (ii + 1))) := by subst hW5; exact (HS5.out.below b4).inc hx.2 rfl (fun i _ hne => by rw [hst i, if_neg (fun h => hne h.symm)]; rfl)
          have ho6 : Out g (g + 1) W2 W5 := ho5.trans ((Out.of_below b4).trans o5)
          have hun : (u : Int) < (n : Int) := by omega
          clear hst hle hsu hlu hnc
          generalize ((pn T kk (ii + 1) u : Nat) : Int) = SV at *
          go_wp2
          go_roundw
          case rel => exact ⟨ii + 1, by omega, by go_num, HS6, ho6⟩
          case measure => simp [intOf]; omega
        · have hin : ii = nl := by omega
          subst hin
          have HS6 : Hid (SeenAt wr g n (pn T (kk + 1) 0)) := HS5.out.congr (fun i _ => pn_next T (by rw [Hnl.out]; exact Nat.le_refl _) i)
          go_wp2
          go_roundw
          case rel => exact ⟨kk + 1, by omega, by go_num, HS6, ho5⟩
          case measure => simp [intOf]; omega
    · have hkn : kk = n := by omega
      subst hkn
      have HSN : Hid (SeenAt wr g kk (nam T)) := HS1.out.congr (fun i _ => by rw [← HT.out]; exact pn_end T i)
      obtain ⟨x0, -⟩ := box1_cells (box_on HX.out hb1)
      have hbw := Below.comp q0 hb1
      clear HS1 ho1
      go_wp2
      clear x0
      go_loopw [42] (fun i wr' => ∃ (jj : Nat), jj ≤ kk ∧ i = .int .i64 jj ∧ Hid (∀ j, j < jj → lnk T j) ∧ Below wr.heap.size wr wr') (fun i _ => kk - (intOf i).toNat)
      case atStart => exact ⟨0, Nat.zero_le _, rfl, fun i hi => absurd hi (by omega), Below.refl _ _⟩
      case round =>
        obtain ⟨jj, hjj, rfl, HJ, hb5⟩ := hrel
        by_cases hjl : jj < kk
        · obtain ⟨na, nc, y0, y1, y2, -, -⟩ := HC.out _ (Below.comp hb1 hb5) jj hjl
          obtain ⟨s0, -⟩ := (HSN.out.below hb5).cell hjl
          have HLk : Hid (lnk T jj ↔ ((gn T jj).lk = (nam T jj : Int) ∧ ((gn T jj).dr = true → (gn T jj).lk = 1))) := Iff.rfl
          have HNk : Hid (¬ lnk T jj → ¬ ∀ k, k < kk → lnk T k) := fun h q => h (q jj hjl)
          have HOk : Hid (lnk T jj → ∀ j, j < jj + 1 → lnk T j) := fun h j hj => by
            by_cases e : j = jj
            · subst e; exact h
            · exact HJ.out j (by omega)
          generalize (gn T jj).dr = dr at *
          generalize (gn T jj).lk = lk at *
          generalize (gn T jj).ns.length = nl at *
          generalize ((nam T jj : Nat) : Int) = SV at *
          obtain ⟨E, hE⟩ : ∃ E, wr.heap.size = E := ⟨_, rfl⟩
          obtain ⟨W3, hW3⟩ : ∃ W3, wr.alloc (.cells #[.bool dr, .int .i64 lk, .slice na nl nc] 43) = W3 := ⟨_, rfl⟩
          have b2 : Below wr.heap.size wr W3 := by subst hW3; exact below_alloc _ _
          have HE : Hid (W3.heap[E]? = some (.cells #[.bool dr, .int .i64 lk, .slice na nl nc] 43 (0, 0))) := by subst hW3 hE; exact al1 _ _
          have hb6 := Below.comp hb5 b2
          have v0 : ∀ d os, (Go.Sort.grow (redrawn W3 d) os).cell? ⟨E, 0, none⟩ = some (.bool dr) := fun d os => cell_regrown (box3_one HE.out).1 d os
          have v1 : ∀ d os, (Go.Sort.grow (redrawn W3 d) os).cell? ⟨E, 1, none⟩ = some (.int .i64 lk) := fun d os => cell_regrown (box3_one HE.out).2.1 d os
          have v3 := fun d os => cell_regrown (cell_on s0 b2) d os
          obtain ⟨o1, ho1⟩ : ∃ o1, (lk != SV) = o1 := ⟨_, rfl⟩
          obtain ⟨o2, ho2⟩ : ∃ o2, (lk != 1) = o2 := ⟨_, rfl⟩
          have ho1' : (!(lk == SV)) = o1 := ho1
          have ho2' : (!(lk == 1)) = o2 := ho2
          have HO1 : Hid (lk = SV ↔ o1 = false) := by show _ ↔ _; rw [← ho1]; simp
          have HO2 : Hid (lk = 1 ↔ o2 = false) := by show _ ↔ _; rw [← ho2]; simp
          have hjn : (jj : Int) < (kk : Int) := by omega
          have hcs : o1 = true ∨ (o1 = false ∧ dr = false) ∨ (o1 = false ∧ dr = true ∧ o2 = true) ∨ (o1 = false ∧ dr = true ∧ o2 = false) := by cases o1 <;> cases o2 <;> cases dr <;> simp
          rcases hcs with rfl | ⟨rfl, rfl⟩ | ⟨rfl, rfl, rfl⟩ | ⟨rfl, rfl, rfl⟩
          all_goals
            go_wp2
            clear y0 y1 y2 s0 hW3
            refine wp_region_quiet_below (by kernel_rfl) (by kernel_rfl) ?_
            repeat (go_big_quiet_step (fail))
            refine wpQuiet_nil ?_
            intro _ hw'
            obtain ⟨⟨dq2, osq2⟩, hw''⟩ := hw'
            subst hw''
            have b9 := below_regrown W3 dq2 osq2
            clear v0 v1 v3
            generalize Go.Sort.grow (redrawn W3 dq2) osq2 = w9 at *
            go_wp2
          all_goals first
            | (go_ret
               exact ⟨Tel.no rfl (HNk.out (fun h => by
                 obtain ⟨w1, w2⟩ := HLk.out.1 h
                 have w1' := HO1.out.1 w1
                 first | exact absurd w1' (by decide) | (simp at w1') | (have w2' := HO2.out.1 (w2 (by first | rfl | trivial)); first | exact absurd w2' (by decide) | (simp at w2')))), Below.comp hbw (Below.comp hb6 b9)⟩)
            | (go_roundw
               case rel => exact ⟨jj + 1, by omega, by go_num, HOk.out (HLk.out.2 ⟨HO1.out.2 (by first | rfl | trivial), fun h => by first | (cases h; done) | (simp at h; done) | exact HO2.out.2 (by first | rfl | trivial)⟩), Below.comp hb6 b9⟩
               case measure => simp [intOf]; omega)
        · have hjk : jj = kk := by omega
          subst hjk
          go_wp2
          go_ret
          exact ⟨Tel.yes rfl HJ.out, Below.comp hbw hb5⟩
end Go.Proofs.Ythioomihpfmlmaa
