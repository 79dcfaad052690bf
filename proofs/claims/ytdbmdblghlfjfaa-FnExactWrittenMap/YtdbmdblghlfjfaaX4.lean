import Derived.Test.YtdbmdblghlfjfaaX3
/- impl.joinAll over extents. -/
namespace Go.Proofs.Ytdbmdblghlfjfaa
open Go.ChangeShapes Go.WideShapes Go.ChangeAt Go.RowKit
set_option linter.unusedVariables false
open Mp

attribute [local go_sem] Oper.semAt_some

theorem take_gx {l : List Ex} {k : Nat} (h : k < l.length) : l.take (k + 1) = l.take k ++ [gx l k] := by
  rw [gx_eq h, List.take_succ_eq_append_getElem h]
theorem gx_mem {l : List Ex} {k : Nat} (h : k < l.length) : gx l k ∈ l := by rw [gx_eq h]; exact List.getElem_mem h

set_option maxHeartbeats 4000000 in
theorem joinAllX_any (a : Option Addr) (c : Nat) (l : List Ex) (w : World) (hl : l.length ≤ 1000) (hok : ∀ y, y ∈ l → okX y) (ha : Exs w a l) :
    Calls Try.prog 83 #[.slice a l.length c, .func (.func 84) #[] #[]] w fun e w' => Below w.heap.size w w' ∧ ∃ v, e = .returned v ∧ OwnR w' w.heap.size v (jnX l) := by
  have HOk : Hid (∀ k, (∀ y, y ∈ jnX (l.take k) → okX y) ∧ (jnX (l.take k)).length ≤ 1000) := fun k => ⟨jnX_ok _ (fun y hy => hok y (List.mem_of_mem_take hy)), by have := len_jnX (l.take k); simp at this; omega⟩
  have HOx : Hid (∀ k, k < l.length → okX (gx l k)) := fun k hk => hok _ (gx_mem hk)
  have HJ : Hid (∀ k, k < l.length → jnX (l.take (k + 1)) = jst (jnX (l.take k)) (gx l k)) := fun k hk => by rw [take_gx hk, jnX_snoc]
  have HE : Hid (jnX (l.take l.length) = jnX l) := by show _ = _; rw [List.take_length]
  have H0 : Hid (jnX (l.take 0) = []) := rfl
  obtain ⟨J, hJ⟩ : ∃ J : Nat → List Ex, (fun k => jnX (l.take k)) = J := ⟨_, rfl⟩
  have hJ' : ∀ k, jnX (l.take k) = J k := fun k => by rw [← hJ]
  simp only [hJ'] at HOk HJ HE H0
  clear hJ hJ' hok
  generalize jnX l = R at *
  unfold Exs at ha
  generalize gx l = f at *
  generalize l.length = n at *
  obtain ⟨Z, hZ⟩ : ∃ Z, w.heap.size = Z := ⟨_, rfl⟩
  go_enter Try.func83, Try.ntmps83
  go_wp2
  go_loopw [13, 5] (fun i o wr => ∃ (k : Nat) (v : Value), k ≤ n ∧ i = .int .i64 k ∧ v = o ∧ Hid (OwnR wr Z v (J k)) ∧ Below Z w wr ∧ Z ≤ wr.heap.size) (fun i _ _ => n - (intOf i).toNat)
  case atStart => exact ⟨0, _, Nat.zero_le _, rfl, rfl, by rw [H0.out]; exact OwnR.nil _ _, Below.refl _ _, by omega⟩
  case round =>
    obtain ⟨k, v, hk, rfl, rfl, HO, hb, hz⟩ := hrel
    have hbW : Below w.heap.size w wr := hZ ▸ hb
    by_cases hlt : k < n
    · obtain ⟨bb, off, rfl, hcell⟩ := (ha.below hbW) (by omega)
      obtain ⟨k0, k1⟩ := hcell k hlt
      clear hcell
      have hokx := HOx.out k hlt
      have hst := HJ.out k hlt
      have hJk := HOk.out k
      generalize f k = x at *
      obtain ⟨p, q⟩ := x
      simp only at k0 k1
      obtain ⟨W1, hW1⟩ : ∃ W1, wr.alloc (.cells #[.int .i64 p, .int .i64 q] 73) = W1 := ⟨_, rfl⟩
      obtain ⟨E, hE⟩ : ∃ E, wr.heap.size = E := ⟨_, rfl⟩
      have b1 : Below wr.heap.size wr W1 := by subst hW1; exact below_alloc _ _
      have HE1 : Hid (W1.heap[E]? = some (.cells #[.int .i64 p, .int .i64 q] 73 (0, 0))) := by subst hW1 hE; exact al1 _ _
      obtain ⟨e0, e1, -, -⟩ := box2_cells HE1.out
      have own1 : OwnR W1 Z v (J k) := owns_below HO.out b1
      have z1 : Z ≤ W1.heap.size := Nat.le_trans hz b1.size
      have g1 : Below Z w W1 := hb.trans (b1.mono hz)
      rcases cut_last (J k) with e | ⟨m, y, e⟩
      · rw [e] at own1 hst
        rw [jst_nil] at hst
        obtain ⟨x, c2, rfl⟩ := owns_form own1
        have own2 := owns_below own1 (below_alloc W1 (.cells #[.int .i64 p, .int .i64 q] 73))
        have sr := src_one W1 p q 73
        have z2 : Z ≤ (W1.alloc (.cells #[.int .i64 p, .int .i64 q] 73)).heap.size := by simp; omega
        have HOw : Hid (OwnR W1 Z (.slice x 0 c2) []) := own1
        have HST : Hid _ := hst
        clear own1 hst hJk hokx e
        simp only [List.length_nil] at *
        go_wp2_with (at_builtin; refine wpList_append_src rfl _ _ 44 rfl Z 73 _ 2 16 Try.underlying44 info73 rfl (by decide) (.slice x 0 c2) 0 (cxs []) rfl own2 (some ⟨W1.heap.size, 0, none⟩) 1 1 (cxs [(p, q)]) rfl rfl sr (cxs_one _) (by omega) (by decide) z2 ?_; intro v2 w2 own3 gr2'; have gr2 := grown_alloc gr2'; have b2 : Below Z w w2 := g1.trans (Grown.below gr2 z1 (owns_ge HOw.out)); have z3 : Z ≤ w2.heap.size := Nat.le_trans z1 gr2.size; have HO3 : Hid (w2.ownsRow Z 73 2 v2 (0 + 1) (cxs [] ++ cxs [(p, q)])) := own3; clear gr2 gr2' own3)
        go_roundw
        case rel => exact ⟨k + 1, _, by omega, by go_num, rfl, by rw [HST.out]; exact HO3.out, b2, z3⟩
        case measure => simp [intOf]; omega
      · rw [e] at own1 hst hJk
        obtain ⟨g, c2, cur, rfl, hgZ, hgB, l0, l1, -, -⟩ := OwnR.last own1
        have hoky := hJk.1 y (by simp)
        have hml : m.length ≤ 1000 := by have := hJk.2; simp at this; omega
        have cj := fun W => joinExtents_any y (p, q) W hoky hokx
        have HO1 : Hid (OwnR W1 Z (.slice (some ⟨g, 0, none⟩) (m.length + 1) c2) (m ++ [y])) := own1
        have HST : Hid _ := hst
        have HGB : Hid _ := hgB
        clear own1 hst hJk e hgB HO
        obtain ⟨py, qy⟩ := y
        simp only at l0 l1 cj
        obtain ⟨M, hM⟩ : ∃ M, m.length = M := ⟨_, rfl⟩
        rw [hM] at l0 l1 hml
        have hM1 : (M : Int) < ((M + 1 : Nat) : Int) := by omega
        have hM2 : (M : Int) < (M : Int) + 1 := by omega
        have hM3 : IntKind.i64.wrap (M : Int) = M := wrapI (by omega) (by omega)
        have hM4 : (0 : Int) ≤ M := by omega
        have SB : Hid (∀ W, Below W1.heap.size W1 W → W.cell? ⟨g, M * 2, none⟩ = some (.int .i64 py) ∧ W.cell? ⟨g, M * 2 + 1, none⟩ = some (.int .i64 qy) ∧ W.cell? ⟨E, 0, none⟩ = some (.int .i64 p) ∧ W.cell? ⟨E, 1, none⟩ = some (.int .i64 q) ∧ Below W1.heap.size W1 W) := fun W h => ⟨cell_on l0 h, cell_on l1 h, cell_on e0 h, cell_on e1 h, h⟩
        have HHM : Hid _ := hM
        by_cases hd : py + qy = p
        · have hj : jx (py, qy) (p, q) = (py, qy + q) := by simp [jx, hd]
          rw [hj, decide_eq_true hd] at cj
          have hst2 : J (k + 1) = m ++ [(py, qy + q)] := by rw [HST.out, jst_yes hd]
          obtain ⟨jp, hjp⟩ : ∃ jp, py = jp := ⟨_, rfl⟩
          obtain ⟨jq, hjq⟩ : ∃ jq, qy + q = jq := ⟨_, rfl⟩
          rw [hjq] at cj hst2
          have cj2 : ∀ W, Calls Try.prog 84 #[xv (py, qy), xv (p, q)] W fun e w' => e = .returned (.tuple #[xv (jp, jq), .bool true]) ∧ Below W.heap.size W w' := hjp ▸ cj
          rw [hjp] at hst2
          clear HST hj
          have HST : Hid _ := hst2
          clear hst2 hjp hjq cj hd
          rw [hM]
          go_wp2_with fail
          clear hW1 l0 l1 e0 e1 k0 k1
          go_region_held3 (fun W => W.cell? ⟨g, M * 2, none⟩ = some (.int .i64 py) ∧ W.cell? ⟨g, M * 2 + 1, none⟩ = some (.int .i64 qy) ∧ W.cell? ⟨E, 0, none⟩ = some (.int .i64 p) ∧ W.cell? ⟨E, 1, none⟩ = some (.int .i64 q) ∧ Below W1.heap.size W1 W)
            ((refine SB.out _ ?_; first | assumption | exact Below.drew (Below.refl _ _) | exact Below.drew (below_alloc _ _) | exact (below_alloc _ _) | exact Below.comp hb2 (below_alloc _ _) | exact (hb2.setCell (Nat.le_refl _) _).setCell (Nat.le_refl _) _ | exact hb2.setCell (Nat.le_refl _) _))
            ((go_at_call 84; obtain ⟨-, -, -, -, hw0⟩ := ‹_ ∧ _ ∧ _ ∧ _ ∧ Below W1.heap.size W1 _›; refine (cj2 _).mono ?_; rintro e w2 ⟨rfl, b2⟩; have hb2 := Below.comp hw0 b2; (first | (have hbx : w2.heap[W1.heap.size]? = some (.cells #[.int .i64 0, .int .i64 0] 73 (0, 0)) := box_on (w := (W1.alloc (.cells #[.int .i64 0, .int .i64 0] 73)).drew) (al1 W1 _) b2; obtain ⟨f0, f1, f2, f3⟩ := box2_cells hbx; have HBX : Hid (w2.heap[W1.heap.size]? = some (.cells #[.int .i64 0, .int .i64 0] 73 (0, 0))) := hbx; clear hbx) | (have hbx : w2.heap[W1.heap.size]? = some (.cells #[.int .i64 0, .int .i64 0] 73 (0, 0)) := box_on (w := W1.drew.alloc (.cells #[.int .i64 0, .int .i64 0] 73)) (al1 W1.drew _) b2; obtain ⟨f0, f1, f2, f3⟩ := box2_cells hbx; have HBX : Hid (w2.heap[W1.heap.size]? = some (.cells #[.int .i64 0, .int .i64 0] 73 (0, 0))) := hbx; clear hbx) | skip)))
          · obtain ⟨W9, hW9⟩ : ∃ W9, w2.alloc (.cells #[.int .i64 jp, .int .i64 jq] 73) = W9 := ⟨_, rfl⟩
            have HF : Hid (W9.heap[w2.heap.size]? = some (.cells #[.int .i64 jp, .int .i64 jq] 73 (0, 0))) := by subst hW9; exact al1 _ _
            have b9 : Below W1.heap.size W1 W9 := by subst hW9; exact Below.comp hb2 (below_alloc _ _)
            rw [hW9]
            clear hW9
            obtain ⟨f0, f1, -, -⟩ := box2_cells HF.out
            obtain ⟨F, hF⟩ : ∃ F, w2.heap.size = F := ⟨_, rfl⟩
            rw [hF] at f0 f1 HF ⊢
            clear hF
            have own9 : OwnR W9 Z (.slice (some ⟨g, 0, none⟩) (m.length + 1) c2) (m ++ [(py, qy)]) := owns_below HO1.out b9
            obtain ⟨g', c3, cur', ev, -, hg9, l0, l1, r0, r1⟩ := OwnR.last own9
            simp only [Value.slice.injEq, Option.some.injEq, Addr.mk.injEq] at ev
            obtain ⟨⟨eg, -, -⟩, -, -⟩ := ev
            rw [← eg, hM] at l0 l1 r0 r1
            rw [← eg] at hg9
            have HG9 : Hid _ := hg9
            have hpt := OwnR.put own9 jp jq
            rw [hM] at hpt
            have HPT : Hid _ := hpt
            clear hpt own9 hg9 eg
            go_wp2_with fail
            go_roundw
            case rel => exact ⟨k + 1, _, by omega, by go_num, rfl, by rw [HST.out]; exact HPT.out, ((g1.trans (b9.mono z1)).setCell hgZ _).setCell hgZ _, by simpa [World.setCell] using Nat.le_trans z1 b9.size⟩
            case measure => simp [intOf]; omega
          · obtain ⟨W9, hW9⟩ : ∃ W9, (w2.setCell ⟨W1.heap.size, 0, none⟩ (.int .i64 jp)).setCell ⟨W1.heap.size, 1, none⟩ (.int .i64 jq) = W9 := ⟨_, rfl⟩
            have HF : Hid (W9.heap[W1.heap.size]? = some (.cells #[.int .i64 jp, .int .i64 jq] 73 (0, 0))) := by subst hW9; exact box2_set HBX.out
            have b9 : Below W1.heap.size W1 W9 := by subst hW9; exact (hb2.setCell (Nat.le_refl _) _).setCell (Nat.le_refl _) _
            rw [hW9]
            clear hW9 f0 f1 f2 f3
            obtain ⟨f0, f1, -, -⟩ := box2_cells HF.out
            obtain ⟨F, hF⟩ : ∃ F, W1.heap.size = F := ⟨_, rfl⟩
            rw [hF] at f0 f1 HF ⊢
            clear hF
            have own9 : OwnR W9 Z (.slice (some ⟨g, 0, none⟩) (m.length + 1) c2) (m ++ [(py, qy)]) := owns_below HO1.out b9
            obtain ⟨g', c3, cur', ev, -, hg9, l0, l1, r0, r1⟩ := OwnR.last own9
            simp only [Value.slice.injEq, Option.some.injEq, Addr.mk.injEq] at ev
            obtain ⟨⟨eg, -, -⟩, -, -⟩ := ev
            rw [← eg, hM] at l0 l1 r0 r1
            rw [← eg] at hg9
            have HG9 : Hid _ := hg9
            have hpt := OwnR.put own9 jp jq
            rw [hM] at hpt
            have HPT : Hid _ := hpt
            clear hpt own9 hg9 eg
            go_wp2_with fail
            go_roundw
            case rel => exact ⟨k + 1, _, by omega, by go_num, rfl, by rw [HST.out]; exact HPT.out, ((g1.trans (b9.mono z1)).setCell hgZ _).setCell hgZ _, by simpa [World.setCell] using Nat.le_trans z1 b9.size⟩
            case measure => simp [intOf]; omega
        · have hj : jx (py, qy) (p, q) = (0, 0) := by simp [jx, hd]
          rw [hj, decide_eq_false hd] at cj
          have hst2 : J (k + 1) = m ++ [(py, qy)] ++ [(p, q)] := by rw [HST.out, jst_no hd]
          obtain ⟨jp, hjp⟩ : ∃ jp : Int, 0 = jp := ⟨_, rfl⟩
          obtain ⟨jq, hjq⟩ : ∃ jq : Int, 0 = jq := ⟨_, rfl⟩
          have cj2 : ∀ W, Calls Try.prog 84 #[xv (py, qy), xv (p, q)] W fun e w' => e = .returned (.tuple #[xv (jp, jq), .bool false]) ∧ Below W.heap.size W w' := hjq ▸ hjp ▸ cj
          clear HST hj
          have HST : Hid _ := hst2
          clear hst2 hjp hjq cj hd
          rw [hM]
          go_wp2_with fail
          clear hW1 l0 l1 e0 e1 k0 k1
          go_region_held3 (fun W => W.cell? ⟨g, M * 2, none⟩ = some (.int .i64 py) ∧ W.cell? ⟨g, M * 2 + 1, none⟩ = some (.int .i64 qy) ∧ W.cell? ⟨E, 0, none⟩ = some (.int .i64 p) ∧ W.cell? ⟨E, 1, none⟩ = some (.int .i64 q) ∧ Below W1.heap.size W1 W)
            ((refine SB.out _ ?_; first | assumption | exact Below.drew (Below.refl _ _) | exact Below.drew (below_alloc _ _) | exact (below_alloc _ _) | exact Below.comp hb2 (below_alloc _ _) | exact (hb2.setCell (Nat.le_refl _) _).setCell (Nat.le_refl _) _ | exact hb2.setCell (Nat.le_refl _) _))
            ((go_at_call 84; obtain ⟨-, -, -, -, hw0⟩ := ‹_ ∧ _ ∧ _ ∧ _ ∧ Below W1.heap.size W1 _›; refine (cj2 _).mono ?_; rintro e w2 ⟨rfl, b2⟩; have hb2 := Below.comp hw0 b2; (first | (have hbx : w2.heap[W1.heap.size]? = some (.cells #[.int .i64 0, .int .i64 0] 73 (0, 0)) := box_on (w := (W1.alloc (.cells #[.int .i64 0, .int .i64 0] 73)).drew) (al1 W1 _) b2; obtain ⟨f0, f1, f2, f3⟩ := box2_cells hbx; have HBX : Hid (w2.heap[W1.heap.size]? = some (.cells #[.int .i64 0, .int .i64 0] 73 (0, 0))) := hbx; clear hbx) | (have hbx : w2.heap[W1.heap.size]? = some (.cells #[.int .i64 0, .int .i64 0] 73 (0, 0)) := box_on (w := W1.drew.alloc (.cells #[.int .i64 0, .int .i64 0] 73)) (al1 W1.drew _) b2; obtain ⟨f0, f1, f2, f3⟩ := box2_cells hbx; have HBX : Hid (w2.heap[W1.heap.size]? = some (.cells #[.int .i64 0, .int .i64 0] 73 (0, 0))) := hbx; clear hbx) | skip)))
          · obtain ⟨W9, hW9⟩ : ∃ W9, w2.alloc (.cells #[.int .i64 jp, .int .i64 jq] 73) = W9 := ⟨_, rfl⟩
            have HF : Hid (W9.heap[w2.heap.size]? = some (.cells #[.int .i64 jp, .int .i64 jq] 73 (0, 0))) := by subst hW9; exact al1 _ _
            have b9 : Below W1.heap.size W1 W9 := by subst hW9; exact Below.comp hb2 (below_alloc _ _)
            rw [hW9]
            clear hW9
            obtain ⟨f0, f1, -, -⟩ := box2_cells HF.out
            obtain ⟨F, hF⟩ : ∃ F, w2.heap.size = F := ⟨_, rfl⟩
            rw [hF] at f0 f1 HF ⊢
            clear hF
            have own9 : OwnR W9 Z (.slice (some ⟨g, 0, none⟩) (m.length + 1) c2) (m ++ [(py, qy)]) := owns_below HO1.out b9
            obtain ⟨e0, e1, -, -⟩ := box2_cells (box_on HE1.out b9)
            have own10 := owns_below own9 (below_alloc W9 (.cells #[.int .i64 p, .int .i64 q] 73))
            have sr := src_one W9 p q 73
            have z9 : Z ≤ W9.heap.size := Nat.le_trans z1 b9.size
            have z10 : Z ≤ (W9.alloc (.cells #[.int .i64 p, .int .i64 q] 73)).heap.size := by simp; omega
            have HOw : Hid (OwnR W9 Z (.slice (some ⟨g, 0, none⟩) (m.length + 1) c2) (m ++ [(py, qy)])) := own9
            have el : (m ++ [(py, qy)]).length = M + 1 := by simp; omega
            have el2 : (m ++ [(py, qy)] ++ [(p, q)]).length = M + 1 + 1 := by simp; omega
            have ec : cxs (m ++ [(py, qy)] ++ [(p, q)]) = cxs (m ++ [(py, qy)]) ++ cxs [(p, q)] := cxs_app _ _
            have HL : Hid _ := And.intro el2 ec
            unfold OwnR at own10
            rw [el, hM] at own10
            clear own9 el el2 ec
            generalize cxs (m ++ [(py, qy)]) = CM at *
            go_wp2_with (at_builtin; refine wpList_append_src rfl _ _ 44 rfl Z 73 _ 2 16 Try.underlying44 info73 rfl (by decide) (.slice (some ⟨g, 0, none⟩) (M + 1) c2) (M + 1) CM rfl own10 (some ⟨W9.heap.size, 0, none⟩) 1 1 (cxs [(p, q)]) rfl rfl sr (cxs_one _) (by omega) (by decide) z10 ?_; intro v2 w3 own11 gr2'; have gr2 := grown_alloc gr2'; have b3 : Below Z W9 w3 := Grown.below gr2 z9 (fun k hk => by simp [Value.ownBlock] at hk; omega); have z3 : Z ≤ w3.heap.size := Nat.le_trans z9 gr2.size; have HO3 : Hid (w3.ownsRow Z 73 2 v2 (M + 1 + 1) (CM ++ cxs [(p, q)])) := own11; clear gr2 gr2' own11)
            go_roundw
            case rel => exact ⟨k + 1, _, by omega, by go_num, rfl, by rw [HST.out]; show OwnR _ _ _ _; unfold OwnR; rw [HL.out.1, HL.out.2]; exact HO3.out, (g1.trans (b9.mono z1)).trans b3, z3⟩
            case measure => simp [intOf]; omega
          · obtain ⟨W9, hW9⟩ : ∃ W9, (w2.setCell ⟨W1.heap.size, 0, none⟩ (.int .i64 jp)).setCell ⟨W1.heap.size, 1, none⟩ (.int .i64 jq) = W9 := ⟨_, rfl⟩
            have HF : Hid (W9.heap[W1.heap.size]? = some (.cells #[.int .i64 jp, .int .i64 jq] 73 (0, 0))) := by subst hW9; exact box2_set HBX.out
            have b9 : Below W1.heap.size W1 W9 := by subst hW9; exact (hb2.setCell (Nat.le_refl _) _).setCell (Nat.le_refl _) _
            rw [hW9]
            clear hW9 f0 f1 f2 f3
            obtain ⟨f0, f1, -, -⟩ := box2_cells HF.out
            obtain ⟨F, hF⟩ : ∃ F, W1.heap.size = F := ⟨_, rfl⟩
            rw [hF] at f0 f1 HF ⊢
            clear hF
            have own9 : OwnR W9 Z (.slice (some ⟨g, 0, none⟩) (m.length + 1) c2) (m ++ [(py, qy)]) := owns_below HO1.out b9
            obtain ⟨e0, e1, -, -⟩ := box2_cells (box_on HE1.out b9)
            have own10 := owns_below own9 (below_alloc W9 (.cells #[.int .i64 p, .int .i64 q] 73))
            have sr := src_one W9 p q 73
            have z9 : Z ≤ W9.heap.size := Nat.le_trans z1 b9.size
            have z10 : Z ≤ (W9.alloc (.cells #[.int .i64 p, .int .i64 q] 73)).heap.size := by simp; omega
            have HOw : Hid (OwnR W9 Z (.slice (some ⟨g, 0, none⟩) (m.length + 1) c2) (m ++ [(py, qy)])) := own9
            have el : (m ++ [(py, qy)]).length = M + 1 := by simp; omega
            have el2 : (m ++ [(py, qy)] ++ [(p, q)]).length = M + 1 + 1 := by simp; omega
            have ec : cxs (m ++ [(py, qy)] ++ [(p, q)]) = cxs (m ++ [(py, qy)]) ++ cxs [(p, q)] := cxs_app _ _
            have HL : Hid _ := And.intro el2 ec
            unfold OwnR at own10
            rw [el, hM] at own10
            clear own9 el el2 ec
            generalize cxs (m ++ [(py, qy)]) = CM at *
            go_wp2_with (at_builtin; refine wpList_append_src rfl _ _ 44 rfl Z 73 _ 2 16 Try.underlying44 info73 rfl (by decide) (.slice (some ⟨g, 0, none⟩) (M + 1) c2) (M + 1) CM rfl own10 (some ⟨W9.heap.size, 0, none⟩) 1 1 (cxs [(p, q)]) rfl rfl sr (cxs_one _) (by omega) (by decide) z10 ?_; intro v2 w3 own11 gr2'; have gr2 := grown_alloc gr2'; have b3 : Below Z W9 w3 := Grown.below gr2 z9 (fun k hk => by simp [Value.ownBlock] at hk; omega); have z3 : Z ≤ w3.heap.size := Nat.le_trans z9 gr2.size; have HO3 : Hid (w3.ownsRow Z 73 2 v2 (M + 1 + 1) (CM ++ cxs [(p, q)])) := own11; clear gr2 gr2' own11)
            go_roundw
            case rel => exact ⟨k + 1, _, by omega, by go_num, rfl, by rw [HST.out]; show OwnR _ _ _ _; unfold OwnR; rw [HL.out.1, HL.out.2]; exact HO3.out, (g1.trans (b9.mono z1)).trans b3, z3⟩
            case measure => simp [intOf]; omega
    · obtain rfl : k = n := by omega
      go_wp2
      go_ret
      exact ⟨hZ ▸ hb, _, rfl, by rw [← HE.out]; exact hZ ▸ HO.out⟩
end Go.Proofs.Ytdbmdblghlfjfaa
