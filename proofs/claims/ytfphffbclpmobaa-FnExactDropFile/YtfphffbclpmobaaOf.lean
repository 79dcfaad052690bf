import Derived.Test.YtfphffbclpmobaaOe
import Derived.Test.YtfphffbclpmobaaDq
/- spec.DropFile, the walk. -/
namespace Go.Proofs.Ytfphffbclpmobaa
open Go.ChangeShapes Go.WideShapes Go.ChangeAt Go.RowKit
set_option linter.unusedVariables false
open Hd

attribute [local go_sem] Oper.semAt_some

set_option maxRecDepth 20000 in
set_option maxHeartbeats 8000000 in
theorem specDrop_any (v : Value) (u D : Va) (O : Bool) (x : Int) (w : World) (hc : VAt w v u) (hf : FewV u) (hs : Sml u) (hR : drR u x D O) :
    Calls Try.prog 5 #[v, .int .i64 x] w fun e w' => Below w.heap.size w w' ∧ ∃ v', e = .returned (.tuple #[v', .bool O]) ∧ RdV w' v' D := by
  have HC : Hid (∀ W, Below w.heap.size w W → VAt W v u) := fun W h => hc.below h
  have HFS : Hid (FewV u ∧ Sml u) := ⟨hf, hs⟩
  have HR : Hid (drR u x D O) := hR
  obtain ⟨a, ca, a', ca', rfl, -, -, -, -⟩ := hc
  obtain ⟨z, hz⟩ : ∃ z, w.heap.size = z := ⟨_, rfl⟩
  have Hz : Hid (w.heap.size = z) := hz
  obtain ⟨W0, hW0⟩ : ∃ W0, (w.alloc (.cells #[.slice a u.pc.length ca, .slice a' u.fs.length ca'] 30)).alloc (.cells #[.slice none 0 0, .slice none 0 0] 30) = W0 := ⟨_, rfl⟩
  have q0 : Below w.heap.size w W0 := by subst hW0; exact ba2 _ _ _
  obtain ⟨B1, B2⟩ : W0.heap[z]? = some (.cells #[.slice a u.pc.length ca, .slice a' u.fs.length ca'] 30 (0, 0)) ∧ W0.heap[z + 1]? = some (.cells #[.slice none 0 0, .slice none 0 0] 30 (0, 0)) := by subst hW0 hz; exact al2 _ _ _
  have H1 : Hid _ := B1
  have H2 : Hid _ := B2
  obtain ⟨i0, i1, -, -⟩ := box2_cells B1
  clear B1 B2 hf hs hR
  have ZERO : Hid (¬ drOk u x → ∀ W, W.heap[z + 1]? = some (.cells #[.slice none 0 0, .slice none 0 0] 30 (0, 0)) → Below w.heap.size w W → ∃ W', (W.setCell ⟨z + 1, 0, none⟩ (.slice none 0 0)).setCell ⟨z + 1, 1, none⟩ (.slice none 0 0) = W' ∧ (W.cell? ⟨z + 1, 0, none⟩ = some (.slice none 0 0) ∧ W.cell? ⟨z + 1, 1, none⟩ = some (.slice none 0 0) ∧ W.frozen? ⟨z + 1, 0, none⟩ = false ∧ W.frozen? ⟨z + 1, 1, none⟩ = false) ∧ (W'.cell? ⟨z + 1, 0, none⟩ = some (.slice none 0 0) ∧ W'.cell? ⟨z + 1, 1, none⟩ = some (.slice none 0 0)) ∧ Hid (O = false ∧ Below w.heap.size w W' ∧ RdV W' (vv none 0 0 none 0 0) D)) := fun hno W hB hb => by
    have o1 : Out (z + 1) (z + 1 + 1) W ((W.setCell ⟨z + 1, 0, none⟩ (.slice none 0 0)).setCell ⟨z + 1, 1, none⟩ (.slice none 0 0)) := ((Out.refl _ _ _).setCell (by omega) (by omega) _ _).setCell (by omega) (by omega) _ _
    obtain ⟨t0, t1, -, -⟩ := box2_cells (box2_set (x0 := .slice none 0 0) (x1 := .slice none 0 0) hB)
    refine ⟨_, rfl, box2_cells hB, ⟨t0, t1⟩, ?_, hb.trans ((o1.below (Nat.le_of_lt (box_lt hB))).mono (by have := Hz.out; omega)), ?_⟩
    · rcases HR.out with ⟨h, -⟩ | ⟨-, -, h⟩
      · exact absurd h hno
      · exact h
    · rcases HR.out with ⟨h, -⟩ | ⟨-, h, -⟩
      · exact absurd h hno
      · rw [h]; exact vz_at _
  by_cases hg : GV u
  · have cG := specGood_any (vv a u.pc.length ca a' u.fs.length ca') u true W0 (HC.out _ q0) HFS.out.1 HFS.out.2 ⟨fun _ => hg, fun _ => rfl⟩
    have HGv : Hid (GV u) := hg
    by_cases hx : 0 ≤ x ∧ x < u.fs.length
    · obtain ⟨f, rfl⟩ : ∃ f : Nat, x = (f : Int) := ⟨x.toNat, by omega⟩
      have hm20 : u.fs.length ≤ 20 := hg.1.2
      obtain ⟨m, hm⟩ : ∃ m, u.fs.length = m := ⟨_, rfl⟩
      have Hm : Hid (u.fs.length = m) := hm
      have hfm : f < m := by omega
      rw [hm] at hm20 H1 HC cG hW0 i1 hx ⊢
      clear hg hm
      go_enter Try.func5, Try.ntmps5
      go_wp2_with fail
      refine cG.mono ?_
      rintro e w1 ⟨rfl, b1⟩
      clear i0 i1 cG hW0
      have K1 : Hid (w1.heap[z]? = some (.cells #[.slice a u.pc.length ca, .slice a' m ca'] 30 (0, 0))) := box_on H1.out b1
      obtain ⟨i0, i1, -, -⟩ := box2_cells K1.out
      have g1 : Below w.heap.size w w1 := Below.comp q0 b1
      have hz1 : z + 1 < w1.heap.size := box_lt (box_on H2.out b1)
      have cI := l1In_any (f : Int) 0 ((m : Int) - 1) w1
      rw [show (decide (0 ≤ (f : Int)) && decide ((f : Int) ≤ (m : Int) - 1)) = true by simp; omega] at cI
      go_wp2_with (go_at_call 14; refine cI.mono ?_; rintro e w' ⟨rfl, hww⟩; rw [hww])
      refine (own15d_any _ u w1 (HC.out _ g1) HGv.out.1.1 HGv.out.1.2 (fun i hi => (HGv.out.2.1 i hi).2)).mono ?_
      rintro e w2 ⟨b2, p, fv, rfl, hp, hfi⟩
      obtain ⟨px, pc, rfl, -, -⟩ := hp.names
      obtain ⟨fx, fc, rfl, -, -⟩ := hfi.fi.fis
      rw [Hm.out] at hfi ⊢
      clear i0 i1 cI
      have K2 : Hid (w2.heap[z]? = some (.cells #[.slice a u.pc.length ca, .slice a' m ca'] 30 (0, 0))) := box_on K1.out b2
      have R2 : Hid (w2.heap[z + 1]? = some (.cells #[.slice none 0 0, .slice none 0 0] 30 (0, 0))) := box_on (box_on H2.out b1) b2
      obtain ⟨x0, x1, f0, f1⟩ := box2_cells K2.out
      obtain ⟨W3, hW3⟩ : ∃ W3, (w2.setCell ⟨z, 0, none⟩ (.slice px u.pc.length pc)).setCell ⟨z, 1, none⟩ (.slice fx m fc) = W3 := ⟨_, rfl⟩
      have o3 : Out z (z + 1) w2 W3 := by subst hW3; exact ((Out.refl _ _ _).setCell (by omega) (by omega) _ _).setCell (by omega) (by omega) _ _
      have K3 : Hid (W3.heap[z]? = some (.cells #[.slice px u.pc.length pc, .slice fx m fc] 30 (0, 0))) := by subst hW3; exact box2_set K2.out
      have R3 : Hid (W3.heap[z + 1]? = some (.cells #[.slice none 0 0, .slice none 0 0] 30 (0, 0))) := box_out R2.out o3 (by omega)
      have g3 : Below w.heap.size w W3 := (Below.comp g1 b2).trans ((o3.below (Nat.le_of_lt (box_lt K2.out))).mono (by omega))
      have HP3 : Hid (OwnN W3 w.heap.size (.slice px u.pc.length pc) u.pc) := owns_mono (owns_outS hp o3 (by omega)) g1.size
      have HF3 : Hid (OwnFd W3 w1.heap.size w1.heap.size (.slice fx m fc) u.fs) := hfi.outT o3 (by omega) K2.out (by decide)
      have DR0 : Hid (DrI w W3 W3 z px pc (.slice fx m fc) u.pc) := ⟨K3.out, HP3.out, fun b c t hb _ => hb, g3, Nat.le_refl _⟩
      obtain ⟨fb, ca3, ka, kc, e3, hfbB, hcf, hki, hkc⟩ := HF3.out.at_ (f := f) (by rw [Hm.out]; exact hfm)
      simp only [Value.slice.injEq] at e3
      obtain ⟨rfl, -, rfl⟩ := e3
      obtain ⟨y0, y1, -, -⟩ := box2_cells K3.out
      clear hp hfi
      obtain ⟨l, hl⟩ : ∃ l, gf u.fs f = l := ⟨_, rfl⟩
      have Hl : Hid (gf u.fs f = l) := hl
      rw [hl] at hcf hki hkc
      obtain ⟨np, hnp⟩ : ∃ np, l.length = np := ⟨_, rfl⟩
      have Hnp : Hid (l.length = np) := hnp
      rw [hnp] at hcf hkc
      have hnp200 : np ≤ 200 := by have := (HGv.out.2.1 f (by rw [Hm.out]; exact hfm)).2; rw [hl, hnp] at this; exact this
      have HKI : Hid (∀ ws, KeepNot 46 W3 ws → W3.heap.size ≤ ws.heap.size → Ints ws ka l) := fun ws k hz => hki _ ws k (by decide) hz
      have HW : Hid (∀ k, k < np → (gi l k).toNat < u.pc.length ∧ 0 ≤ gi l k ∧ 1 ≤ (gm (dsL u.pc (l.take k)) (gi l k).toNat).fl ∧ (gm (dsL u.pc (l.take k)) (gi l k).toNat).fl ≤ 1000000) := fun k hk => by
        have hfn : f < u.fs.length := by rw [Hm.out]; exact hfm
        obtain ⟨h1, h2, h3⟩ := dr_way HGv.out hfn (k := k) (by rw [Hl.out, Hnp.out]; exact hk)
        have h4 := (HGv.out.2.1 f hfn).1 k (by rw [Hl.out, Hnp.out]; exact hk)
        rw [Hl.out] at h1 h2 h3 h4
        exact ⟨h1, h4.1, h2, h3⟩
      clear hl hnp hki
      go_wp2_with fail
      clear x0 x1 y0 y1 f0 f1 hcf hW3
      go_loopw [39] (fun ii ws => ∃ k : Nat, k ≤ np ∧ ii = .int .i64 (k : Int) ∧ Hid (DrI w W3 ws z px pc (.slice (some ⟨fb, 0, none⟩) m fc) (dsL u.pc (l.take k)))) (fun ii _ => np - (intOf ii).toNat)
      case atStart => exact ⟨0, Nat.zero_le _, rfl, DR0⟩
      case round =>
        obtain ⟨k, hk, rfl, HDr⟩ := hrel
        by_cases hlt : k < np
        · obtain ⟨kb, koff, rfl, hcell⟩ := (HKI.out wr HDr.out.2.2.1 HDr.out.2.2.2.2) (by rw [Hnp.out]; omega)
          have t0 : wr.cell? ⟨kb, koff + k, none⟩ = some (.int .i64 (gi l k)) := hcell k (by rw [Hnp.out]; exact hlt)
          clear hcell
          have hkm : (k : Int) < (np : Int) := by omega
          obtain ⟨hw1, hw2, hw3, hw4⟩ := HW.out k hlt
          have HTk : Hid (dsL u.pc (l.take (k + 1)) = ds1 (dsL u.pc (l.take k)) (gi l k).toNat) := by
            show _ = _
            have hkl : k < l.length := by rw [Hnp.out]; exact hlt
            rw [List.take_succ_eq_append_getElem hkl, ← gi_eq hkl, dsL_snoc]
          have hPl : (dsL u.pc (l.take k)).length = u.pc.length := dsL_len _ _
          obtain ⟨i, hi⟩ : ∃ i : Nat, gi l k = (i : Int) := ⟨(gi l k).toNat, by omega⟩
          rw [hi] at t0 hw1 hw3 hw4 HTk
          simp only [Int.toNat_natCast] at hw1 hw3 hw4 HTk
          rw [← hPl] at hw1
          clear hi hw2 hPl
          generalize dsL u.pc (l.take k) = P at *
          obtain ⟨g, hg', ⟨t1, t2⟩, hnx⟩ := HDr.out.turn hw1
          subst hg'
          have HN : Hid _ := hnx ((gm P i).fl - 1)
          have HTk2 : Hid (dsL u.pc (l.take (k + 1)) = P.set i ⟨(gm P i).nm, (gm P i).fl - 1⟩) := HTk.out
          clear hnx
          have hip : (i : Int) < (P.length : Int) := by omega
          have k0 := (box2_cells HDr.out.1).1
          clear HTk
          generalize (gm P i).fl = fl at *
          go_wp2_with fail
          go_roundw
          case rel => exact ⟨k + 1, by omega, by go_num, by rw [HTk2.out]; exact HN⟩
          case measure => simp [intOf]; omega
        · have hkn : k = np := by omega
          subst hkn
          have hfin : l.take k = l := List.take_of_length_le (by rw [Hnp.out]; exact Nat.le_refl _)
          rw [hfin] at HDr
          clear hfin
          obtain ⟨U, hU⟩ : ∃ U, U = wr := ⟨_, rfl⟩
          subst hU
          have HFU : Hid (OwnFd U w1.heap.size w1.heap.size (.slice (some ⟨fb, 0, none⟩) m fc) u.fs) := HF3.out.keepN HDr.out.2.2.1 (by decide) (by decide) HDr.out.2.2.2.2
          obtain ⟨ks, gb, ownF, hib, hinc, hlo⟩ := HFU.out
          have HLo : Hid _ := hlo
          obtain ⟨hfb1, hfc, ⟨cF, hcF⟩, hsrc⟩ := OwnFd.src ownF Hm.out
          obtain ⟨ad, had, hs2⟩ := sliceF_from fb m fc f (by omega) hfc
          have hs1 := sliceF_to fb 0 m fc f (by omega)
          have HIB : Hid _ := hib
          have HInc : Hid _ := hinc
          have HSrc : Hid (∀ W, Below U.heap.size U W → ∀ j x, (fvs u.fs ks)[j]? = some x → W.cell? ⟨fb, j, none⟩ = some x) := fun W hW j x hj => cell_on (hsrc j x hj) hW
          have hfl : (fvs u.fs ks).length = m := by simp [fvs]; exact Hm.out
          have HOne : Hid (∀ x ∈ fvs u.fs ks, x.oneCell' = true) := fvs_one _ _
          have HEr : Hid (∀ w' B' v, Below U.heap.size U w' → w'.ownsRow B' 44 1 v (m - 1) ((fvs u.fs ks).take f ++ (fvs u.fs ks).drop (f + 1)) → OwnFd w' w1.heap.size B' v (u.fs.eraseIdx f)) := fun w' B' v hb ho => OwnFd.erase (by rw [Hm.out]; exact hfm) HIB.out HInc.out HLo.out hb (by rw [Hm.out]; exact ho)
          have k1 : U.cell? ⟨z, 1, none⟩ = some (.slice (some ⟨fb, 0, none⟩) m fc) := (box2_cells HDr.out.1).2.1
          have SB : Hid (∀ W, Below U.heap.size U W → W.cell? ⟨z, 1, none⟩ = some (.slice (some ⟨fb, 0, none⟩) m fc) ∧ (∀ W, (Instr.slice 28 (.slice (some ⟨fb, 0, none⟩) m fc) none (some (.int .i64 (f : Int))) none).run Try.prog W = .ok (.slice (some ⟨fb, 0, none⟩) f fc) W) ∧ (∀ W, (Instr.slice 28 (.slice (some ⟨fb, 0, none⟩) m fc) (some (.int .i64 ((f : Int) + 1))) none none).run Try.prog W = .ok (.slice (some ad) (m - (f + 1)) (fc - (f + 1))) W) ∧ Below U.heap.size U W) := fun W hW => ⟨cell_on k1 hW, hs1, hs2, hW⟩
          have had' : Hid (f + 1 < m → ad = ⟨fb, f + 1, none⟩) := had
          clear hib hinc hlo hsrc hcF k1 hs1 hs2 had ownF hkc
          generalize fvs u.fs ks = X at *
          have hwp : IntKind.i64.wrap ((f : Int) + 1) = (f : Int) + 1 := wrapI (by omega) (by omega)
          go_wp2_with fail
          refine wp_region_noPanic ?_
          refine wp_region_L (fun W => W.cell? ⟨z, 1, none⟩ = some (.slice (some ⟨fb, 0, none⟩) m fc) ∧ (∀ W, (Instr.slice 28 (.slice (some ⟨fb, 0, none⟩) m fc) none (some (.int .i64 (f : Int))) none).run Try.prog W = .ok (.slice (some ⟨fb, 0, none⟩) f fc) W) ∧ (∀ W, (Instr.slice 28 (.slice (some ⟨fb, 0, none⟩) m fc) (some (.int .i64 ((f : Int) + 1))) none none).run Try.prog W = .ok (.slice (some ad) (m - (f + 1)) (fc - (f + 1))) W) ∧ Below U.heap.size U W) 12 13 (by kernel_rfl) rfl (SB.out _ (Below.drew (Below.refl _ _))) (fun hS0 => ?_)
          refine tkL (i := 1) (d := 54) (v := ?_) rfl rfl (by kernel_rfl) (by kernel_rfl) (by kernel_rfl) (by kernel_rfl) (fun _ _ _ h => h) (Or.inl ⟨by rfl, by intro wq hSq; obtain ⟨hq1, hq2, hq3, hq4⟩ := hSq; go_simp; try with_reducible rfl⟩) (by assumption) ?_
          simp only [List.setIfInBounds_toArray, List.set_cons_zero, List.set_cons_succ]
          refine tkL (i := 2) (d := 55) (v := ?_) rfl rfl (by kernel_rfl) (by kernel_rfl) (by kernel_rfl) (by kernel_rfl) (fun _ _ _ h => h) (Or.inl ⟨by rfl, by intro wq hSq; obtain ⟨hq1, hq2, hq3, hq4⟩ := hSq; go_simp; try with_reducible rfl⟩) (by assumption) ?_
          simp only [List.setIfInBounds_toArray, List.set_cons_zero, List.set_cons_succ]
          refine tkL (i := 3) (d := 56) (v := ?_) rfl rfl (by kernel_rfl) (by kernel_rfl) (by kernel_rfl) (by kernel_rfl) (fun _ _ _ h => h) (Or.inl ⟨by rfl, by intro wq hSq; obtain ⟨hq1, hq2, hq3, hq4⟩ := hSq; go_simp; try with_reducible rfl⟩) (by assumption) ?_
          simp only [List.setIfInBounds_toArray, List.set_cons_zero, List.set_cons_succ]
          refine tkL (i := 4) (d := 57) (v := ?_) rfl rfl (by kernel_rfl) (by kernel_rfl) (by kernel_rfl) (by kernel_rfl) (fun _ _ _ h => h) (Or.inl ⟨by rfl, by intro wq hSq; obtain ⟨hq1, hq2, hq3, hq4⟩ := hSq; go_simp; try with_reducible rfl⟩) (by assumption) ?_
          simp only [List.setIfInBounds_toArray, List.set_cons_zero, List.set_cons_succ]
          refine tkL (i := 6) (d := 59) (v := ?_) rfl rfl (by kernel_rfl) (by kernel_rfl) (by kernel_rfl) (by kernel_rfl) (fun _ _ _ h => h) (Or.inl ⟨by rfl, by intro wq hSq; obtain ⟨hq1, hq2, hq3, hq4⟩ := hSq; go_simp; try with_reducible rfl⟩) (by assumption) ?_
          simp only [List.setIfInBounds_toArray, List.set_cons_zero, List.set_cons_succ]
          refine tkL (i := 7) (d := 60) (v := ?_) rfl rfl (by kernel_rfl) (by kernel_rfl) (by kernel_rfl) (by kernel_rfl) (fun _ _ _ h => h) (Or.inl ⟨by rfl, by intro wq hSq; obtain ⟨hq1, hq2, hq3, hq4⟩ := hSq; go_simp; try with_reducible rfl⟩) (by assumption) ?_
          simp only [List.setIfInBounds_toArray, List.set_cons_zero, List.set_cons_succ]
          refine tkL (i := 8) (d := 61) (v := ?_) rfl rfl (by kernel_rfl) (by kernel_rfl) (by kernel_rfl) (by kernel_rfl) (fun _ _ _ h => h) (Or.inl ⟨by rfl, by intro wq hSq; obtain ⟨hq1, hq2, hq3, hq4⟩ := hSq; go_simp; try with_reducible rfl⟩) (by assumption) ?_
          simp only [List.setIfInBounds_toArray, List.set_cons_zero, List.set_cons_succ]
          refine tkL (i := 9) (d := 62) (v := ?_) rfl rfl (by kernel_rfl) (by kernel_rfl) (by kernel_rfl) (by kernel_rfl) (fun _ _ _ h => h) (Or.inl ⟨by rfl, by intro wq hSq; obtain ⟨hq1, hq2, hq3, hq4⟩ := hSq; go_simp; try with_reducible rfl⟩) (by assumption) ?_
          simp only [List.setIfInBounds_toArray, List.set_cons_zero, List.set_cons_succ]
          refine tkL (i := 10) (d := 63) (v := ?_) rfl rfl (by kernel_rfl) (by kernel_rfl) (by kernel_rfl) (by kernel_rfl) (fun _ _ _ h => h) (Or.inl ⟨by rfl, by intro wq hSq; obtain ⟨hq1, hq2, hq3, hq4⟩ := hSq; go_simp; try with_reducible rfl⟩) (by assumption) ?_
          simp only [List.setIfInBounds_toArray, List.set_cons_zero, List.set_cons_succ]
          refine oneL (i := 0) rfl (by kernel_rfl) (fun K hK => ?_)
          rw [if_pos (by rfl)]
          go_simp
          obtain ⟨Wa, hWa⟩ : ∃ Wa, (U.alloc (.cells #[] 44)).drew = Wa := ⟨_, rfl⟩
          have qa : Below U.heap.size U Wa := by subst hWa; exact Below.drew (below_alloc _ _)
          have own0 : Wa.ownsRow U.heap.size 44 1 (.slice (some ⟨U.heap.size, 0, none⟩) 0 0) 0 [] := by subst hWa; exact owns_below (own_empty U _ 1) (Below.drew (Below.refl _ _))
          rw [hWa]
          refine hK.out _ _ (SB.out _ qa) (fun hSa => ?_)
          clear hK K
          refine oneL (i := 5) rfl (by kernel_rfl) (fun K hK => ?_)
          rw [if_pos (by rfl)]
          refine oper_append_src _ _ 28 rfl U.heap.size 44 _ 1 24 Try.underlying28 infoF rfl (by decide) (.slice (some ⟨U.heap.size, 0, none⟩) 0 0) 0 [] rfl own0 (some ⟨fb, 0, none⟩) f fc (X.take f) rfl (by rw [List.length_take, hfl]; omega) ?_ (fun x hx => HOne.out x (List.mem_of_mem_take hx)) (by omega) (by decide) qa.size ?_
          · refine .inr ⟨_, rfl, fun j x hj => ?_⟩
            rw [List.getElem?_take] at hj
            split at hj
            · rw [add_at, Nat.zero_add]; exact HSrc.out Wa qa j x hj
            · cases hj
          intro v4 w4 own4 gr4
          have b4 : Below U.heap.size U w4 := grown_on qa qa.size own0 gr4
          rw [Nat.zero_add, List.nil_append] at own4
          obtain ⟨y4, c4, rfl⟩ := owns_form own4
          refine hK.out _ _ (SB.out _ b4) (fun hS4 => ?_)
          clear hK K own0 gr4 hSa hWa
          simp only [Act.put, List.setIfInBounds_toArray]
          refine oneL (i := 11) rfl (by kernel_rfl) (fun K hK => ?_)
          rw [if_pos (by rfl)]
          refine oper_append_src _ _ 28 rfl U.heap.size 44 _ 1 24 Try.underlying28 infoF rfl (by decide) (.slice y4 f c4) f (X.take f) rfl own4 (some ad) (m - (f + 1)) (fc - (f + 1)) (X.drop (f + 1)) rfl (by rw [List.length_drop, hfl]; omega) ?_ (fun x hx => HOne.out x (List.mem_of_mem_drop hx)) (by omega) (by decide) b4.size ?_
          · by_cases hz0 : m - (f + 1) = 0
            · exact .inl hz0
            · refine .inr ⟨_, rfl, fun j x hj => ?_⟩
              rw [List.getElem?_drop] at hj
              rw [had'.out (by omega), add_at]
              exact HSrc.out w4 b4 _ x hj
          intro v8 w8 own8 gr8
          have b8 : Below U.heap.size U w8 := grown_on b4 b4.size own4 gr8
          rw [show f + (m - (f + 1)) = m - 1 by omega] at own8
          have hF8 := HEr.out _ _ _ b8 own8
          obtain ⟨mm, hmm⟩ : ∃ mm, m - 1 = mm := ⟨_, rfl⟩
          have Hmm : Hid (m - 1 = mm) := hmm
          rw [hmm] at own8
          have hmm20 : mm ≤ 20 := by omega
          clear hmm
          obtain ⟨y8, c8, rfl⟩ := owns_form own8
          have HF8 : Hid (OwnFd w8 w1.heap.size U.heap.size (.slice y8 mm c8) (u.fs.eraseIdx f)) := hF8
          clear hF8
          refine hK.out _ _ (SB.out _ b8) (fun hS8 => ?_)
          clear hK K own4 gr8 hS4
          simp only [Act.put]
          refine lastL rfl (by kernel_rfl) (by kernel_rfl) (fun K hK => ?_)
          rw [if_pos (by rfl)]
          go_simp
          refine hK.out _ _ (NoPanic.normal ?_)
          have HD8 : Hid (DrI w W3 w8 z px pc (.slice (some ⟨fb, 0, none⟩) m fc) (dsL u.pc l)) := HDr.out.below b8
          have Hb8 : Hid (Below U.heap.size U w8) := b8
          clear hK K own8 hS8 hS0 SB HSrc HOne HEr had' HIB HInc HLo hwp b4 qa b8 hfl HDr HFU
          have hPn : (dsL u.pc l).length ≤ 100 := by rw [dsL_len]; exact HGv.out.1.1
          obtain ⟨P, hP⟩ : ∃ P, dsL u.pc l = P := ⟨_, rfl⟩
          have HP : Hid (dsL u.pc l = P) := hP
          rw [hP] at HD8 hPn
          clear hP
          obtain ⟨n, hn⟩ : ∃ n, P.length = n := ⟨_, rfl⟩
          have Hn : Hid (P.length = n) := hn
          obtain ⟨k0, k1, -, -⟩ := box2_cells HD8.out.1
          rw [hn] at k0 hPn
          clear hn
          have hmk := make_any (P := Try.prog) 42 3 _ 1 8 Try.underlying42 info3 .i64 .i64 n (by omega) (by omega)
          obtain ⟨pb, hpb⟩ : ∃ pb, w8.heap.size = pb := ⟨_, rfl⟩
          have Hpb : Hid (w8.heap.size = pb) := hpb
          obtain ⟨W9, hW9⟩ : ∃ W9, w8.alloc (.cells (made (.int .i64 0) n) 3) = W9 := ⟨_, rfl⟩
          have q9 : Below w8.heap.size w8 W9 := by subst hW9; exact below_alloc _ _
          have Hq9 : Hid (Below w8.heap.size w8 W9) := q9
          have HP9 : Hid (W9.heap[pb]? = some (.cells (made (.int .i64 0) n) 3 (0, 0))) := by subst hW9 hpb; exact al1 _ _
          have hpn : ¬ (n : Int) < 0 := by omega
          obtain ⟨e0, e1, -, -⟩ := box2_cells (box_on HD8.out.1 q9)
          rw [Hn.out] at e0
          go_wp2_with fail
          clear k0 k1 e0 e1 hmk hW9 hpb q9
          have hzpb : z < pb := by rw [← Hpb.out]; exact box_lt HD8.out.1
          go_loopw [10, 72] (fun s10 s72 ws => ∃ (q : Nat) (d : Array Value) (y : Option Addr) (c : Nat), q ≤ n ∧ s72 = .int .i64 (q : Int) ∧ s10 = .slice y (plc P q) c ∧ d.size = n ∧ Hid (ws.heap[pb]? = some (.cells d 3 (0, 0))) ∧ Hid (∀ j, j < q → d[j]? = some (.int .i64 (plc P j : Int))) ∧ Hid (OwnN ws (pb + 1) (.slice y (plc P q) c) (kp (P.take q))) ∧ Hid (Below w8.heap.size w8 ws)) (fun _ s72 _ => n - (intOf s72).toNat)
          case atStart => exact ⟨0, _, none, 0, Nat.zero_le _, rfl, rfl, by rw [size_made], HP9, fun j hj => absurd hj (by omega), OwnN.nil _ _, Hq9.out⟩
          case round =>
            obtain ⟨q, d, y, c, hq, rfl, rfl, hds, HPd, HIn, HOw, Hbw⟩ := hrel
            have hpl : plc P q ≤ 100 := by
              have h1 := kp_le (P.take q)
              have h2 : (P.take q).length ≤ P.length := by rw [List.length_take]; omega
              have h3 := Hn.out
              unfold plc
              omega
            by_cases hqn : q < n
            · have hqP : q < P.length := by rw [Hn.out]; exact hqn
              have hqn' : (q : Int) < (n : Int) := by omega
              obtain ⟨na, nc, e1, -, hnm⟩ := OwnN.names (owns_below HD8.out.2.1 Hbw.out)
              simp only [Value.slice.injEq, true_and] at e1
              obtain ⟨rfl, rfl⟩ := e1
              obtain ⟨g, goff, rfl, hat⟩ := hnm (by omega)
              obtain ⟨t0, t1⟩ := hat q hqP
              have hfl0 : 0 ≤ (gm P q).fl := by
                rw [← HP.out]
                have := (dr_fl HGv.out (f := f) (by rw [Hm.out]; exact hfm) (i := q) (by have := dsL_len l u.pc; rw [HP.out] at this; omega)).1
                rw [Hl.out] at this
                exact this
              have hfl1 : (gm P q).fl ≤ 9223372036854775807 := by
                rw [← HP.out]
                have h1 := (dsL_at l u.pc (j := q) (by have := dsL_len l u.pc; rw [HP.out] at this; omega) (fun x hx => by have := gv_pos HGv.out (f := f) (by rw [Hm.out]; exact hfm) x; rw [Hl.out] at this; exact this hx)).2
                have h2 := (HGv.out.2.2 q (by have := dsL_len l u.pc; rw [HP.out] at this; omega)).2.2.1
                have h3 := tf_small HGv.out q
                rw [h1]; omega
              have HK0 : Hid ((gm P q).fl = 0 → plc P (q + 1) = plc P q ∧ kp (P.take (q + 1)) = kp (P.take q)) := fun h => ⟨by rw [plc_succ hqP, if_pos h, Nat.add_zero], by rw [kp_succ hqP, if_pos h, List.append_nil]⟩
              have HK1 : Hid ((gm P q).fl ≠ 0 → plc P (q + 1) = plc P q + 1 ∧ kp (P.take (q + 1)) = kp (P.take q) ++ [⟨(gm P q).nm, (gm P q).fl⟩]) := fun h => ⟨by rw [plc_succ hqP, if_neg h], by rw [kp_succ hqP, if_neg h]⟩
              clear hnm hat
              generalize (gm P q).nm = tx at *
              generalize (gm P q).fl = fl at *
              obtain ⟨E, hE⟩ : ∃ E, wr.heap.size = E := ⟨_, rfl⟩
              have HEe : Hid (wr.heap.size = E) := hE
              have hpE : pb < E := by rw [← hE]; exact box_lt HPd.out
              obtain ⟨Wb, hWb⟩ : ∃ Wb, wr.alloc (.cells #[.string ⟨#[]⟩, .int .i64 0] 46) = Wb := ⟨_, rfl⟩
              have bb : Below wr.heap.size wr Wb := by subst hWb; exact below_alloc _ _
              have HEb : Hid (Wb.heap[E]? = some (.cells #[.string ⟨#[]⟩, .int .i64 0] 46 (0, 0))) := by subst hWb hE; exact al1 _ _
              obtain ⟨xa0, xa1, fa0, fa1⟩ := box2_cells HEb.out
              obtain ⟨W2, hW2⟩ : ∃ W2, (Wb.setCell ⟨E, 0, none⟩ (.string tx)).setCell ⟨E, 1, none⟩ (.int .i64 fl) = W2 := ⟨_, rfl⟩
              have HE2 : Hid (W2.heap[E]? = some (.cells #[.string tx, .int .i64 fl] 46 (0, 0))) := by subst hW2; exact box2_set HEb.out
              have oa : Out E (E + 1) Wb W2 := by subst hW2; exact ((Out.refl _ _ _).setCell (by omega) (by omega) _ _).setCell (by omega) (by omega) _ _
              have c2 : Below wr.heap.size wr W2 := bb.trans ((oa.below (by have := box_lt HEb.out; omega)).mono (by omega))
              have HP2 : Hid (W2.heap[pb]? = some (.cells d 3 (0, 0))) := box_on HPd.out c2
              obtain ⟨dq, hdq⟩ : ∃ dq, d[q]? = some dq := ⟨d[q], by simp⟩
              have p0 : W2.cell? ⟨pb, q, none⟩ = some dq := cell_of_block HP2.out hdq
              have fp0 := free_of_block (i := q) HP2.out
              obtain ⟨W4, hW4⟩ : ∃ W4, W2.setCell ⟨pb, q, none⟩ (.int .i64 (plc P q : Int)) = W4 := ⟨_, rfl⟩
              have o4 : Out pb (pb + 1) W2 W4 := by subst hW4; exact out_setCell _ _ _ _
              have HP4 : Hid (W4.heap[pb]? = some (.cells (d.setIfInBounds q (.int .i64 (plc P q : Int))) 3 (0, 0))) := by subst hW4; exact block_set HP2.out
              have HE4 : Hid (W4.heap[E]? = some (.cells #[.string tx, .int .i64 fl] 46 (0, 0))) := box_out HE2.out o4 (by omega)
              obtain ⟨x0, x1, -, -⟩ := box2_cells HE4.out
              have HO4 : Hid (OwnN W4 (pb + 1) (.slice y (plc P q) c) (kp (P.take q))) := owns_outS (owns_below HOw.out c2) o4 (Nat.le_refl _)
              have HB4 : Hid (Below w8.heap.size w8 W4) := (Below.comp Hbw.out c2).trans ((o4.below (Nat.le_of_lt (box_lt HP2.out))).mono (by have := Hpb.out; omega))
              have HIn4 : Hid (∀ j, j < q + 1 → (d.setIfInBounds q (.int .i64 (plc P q : Int)))[j]? = some (.int .i64 (plc P j : Int))) := fun j hj => by
                by_cases e : j = q
                · subst e; rw [set_at (by omega)]
                · rw [set_ne e]; exact HIn.out j (by omega)
              have hds4 : (d.setIfInBounds q (.int .i64 (plc P q : Int))).size = n := by simpa using hds
              clear oa o4 bb c2 hdq
              by_cases hz0 : fl = 0
              · subst hz0
                obtain ⟨e2, e3⟩ := HK0.out rfl
                have HE23 : Hid _ := e2
                have HE33 : Hid _ := e3
                clear e2 e3
                go_wp2_with fail
                go_roundw
                case rel => exact ⟨q + 1, _, y, c, by omega, by go_num, by rw [HE23.out], hds4, HP4, HIn4, by rw [HE23.out, HE33.out]; exact HO4, HB4⟩
                case measure => simp [intOf]; omega
              · obtain ⟨e2, e3⟩ := HK1.out hz0
                have HE23 : Hid _ := e2
                have HE33 : Hid _ := e3
                clear e2 e3
                have hgt : 0 < fl := by omega
                obtain ⟨W5, hW5⟩ : ∃ W5, W4.alloc (.cells #[.string tx, .int .i64 fl] 46) = W5 := ⟨_, rfl⟩
                have b5 : Below W4.heap.size W4 W5 := by subst hW5; exact below_alloc _ _
                have own5 : W5.ownsRow (pb + 1) 46 2 (.slice y (plc P q) c) (plc P q) (cns (kp (P.take q))) := owns_below HO4.out b5
                have sr5 := src_two W4 (.string tx) (.int .i64 fl) 46
                rw [hW5] at sr5
                have HP5 : Hid (W5.heap[pb]? = _) := box_on HP4.out b5
                have z5 : pb + 1 ≤ W5.heap.size := box_lt HP5.out
                have HB5 : Hid (Below w8.heap.size w8 W5) := Below.comp HB4.out b5
                have KEY5 : Hid (∀ (v7 : Value) (w7 : World), w7.ownsRow (pb + 1) 46 2 v7 (plc P q + 1) (cns (kp (P.take q)) ++ [.string tx, .int .i64 fl]) → W5.grownBy w7 (Value.slice y (plc P q) c).ownBlock →
                    ∃ y7 c7, v7 = .slice y7 (plc P q + 1) c7 ∧ Hid (w7.heap[pb]? = some (.cells (d.setIfInBounds q (.int .i64 (plc P q : Int))) 3 (0, 0)) ∧ OwnN w7 (pb + 1) (.slice y7 (plc P q + 1) c7) (kp (P.take (q + 1))) ∧ Below w8.heap.size w8 w7)) := fun v7 w7 own7 gr7 => by
                  have b7 : Below (pb + 1) W5 w7 := grown_on (Below.refl _ _) z5 own5 gr7
                  obtain ⟨y7, c7, rfl⟩ := owns_form own7
                  refine ⟨y7, c7, rfl, box_bel HP5.out b7 (by omega), ?_, HB5.out.trans (b7.mono (by have := Hpb.out; omega))⟩
                  unfold OwnN
                  rw [HE33.out, List.length_append, cns_app]
                  exact own7
                go_wp2_with (at_builtin; refine wpList_append_src rfl _ _ 27 rfl (pb + 1) 46 _ 2 24 Try.underlying27 info47 rfl (by decide) (.slice y (plc P q) c) (plc P q) (cns (kp (P.take q))) rfl own5 (some ⟨W4.heap.size, 0, none⟩) 1 1 [.string tx, .int .i64 fl] rfl rfl sr5 (by simp [Value.oneCell']) (by omega) (by decide) z5 ?_; intro v7 w7 own7 gr7; obtain ⟨y7, c7, rfl, H7⟩ := KEY5.out v7 w7 own7 gr7; clear own7 gr7)
                go_roundw
                case rel => exact ⟨q + 1, _, y7, c7, by omega, by go_num, by rw [HE23.out], hds4, H7.out.1, HIn4, by rw [HE23.out]; exact H7.out.2.1, H7.out.2.2⟩
                case measure => simp [intOf]; omega
            · have hqn' : q = n := by omega
              subst hqn'
              have hPt : P.take q = P := List.take_of_length_le (by rw [Hn.out]; exact Nat.le_refl _)
              rw [hPt] at HOw
              have Hpq : Hid (plc P q = (kp P).length) := by show _ = _; unfold plc; rw [hPt]
              obtain ⟨W10, hW10⟩ : ∃ W10, W10 = wr := ⟨_, rfl⟩
              subst hW10
              obtain ⟨E, hEE⟩ : ∃ E, u.fs.eraseIdx f = E := ⟨_, rfl⟩
              have HE : Hid (u.fs.eraseIdx f = E) := hEE
              rw [hEE] at HF8
              have HEl : Hid (E.length = mm) := by show _ = _; rw [← hEE, List.length_eraseIdx, if_pos (by rw [Hm.out]; exact hfm), Hm.out, Hmm.out]
              obtain ⟨ks, gb, own8', hib, hinc, hlo⟩ := HF8.out
              rw [HEl.out] at own8'
              have HGb : Hid (∀ i, i < mm → gf E i ≠ [] → w.heap.size ≤ gb i ∧ gb i < pb) := fun i hi hn => ⟨Nat.le_trans g1.size (hlo i (by rw [HEl.out]; exact hi) hn), by have h := ((hib i (by rw [HEl.out]; exact hi)).in_ hn).2; rw [Hpb.out] at h; exact h⟩
              have HRow : Hid (∀ ws, KeepNot 3 W10 ws → ws.ownsRow U.heap.size 44 1 (.slice y8 mm c8) mm (fvs E ks)) := fun ws k => k.owns (owns_below own8' Hbw.out) (by decide)
              have TU0 : Hid (TuI P E ks gb 0 W10) := fun i hi => by rw [if_neg (Nat.not_lt_zero _)]; exact ((hib i hi).below Hbw.out).mono (Nat.le_refl _) Hbw.out.size
              have HInc : Hid _ := hinc
              have hPq : u.pc.length = q := by rw [← Hn.out, ← HP.out, dsL_len]
              have HPar : Hid (∀ j, j < mm → (gf E j).length ≤ 200 ∧ ∀ t, t < (gf E j).length → 0 ≤ gi (gf E j) t ∧ gi (gf E j) t < q) := fun j hj => by
                have hj' : (if j < f then j else j + 1) < u.fs.length := by have := Hm.out; have := Hmm.out; split <;> omega
                have h := HGv.out.2.1 _ hj'
                rw [← gf_erase, HE.out] at h
                refine ⟨h.2, fun t ht => ?_⟩
                have h2 := h.1 t ht
                rw [hPq] at h2
                exact h2
              have HB10 : Hid (Below w.heap.size w W10) := HD8.out.2.2.2.1.trans (Hbw.out.mono HD8.out.2.2.2.1.size)
              have Hzp : Hid (w.heap.size < pb) := by show _ < _; rw [Hz.out]; exact hzpb
              clear hib hinc hlo own8' hEE hPt hPq
              go_wp2_with fail
              go_loopw [92] (fun s92 ws => ∃ j : Nat, j ≤ mm ∧ s92 = .int .i64 (j : Int) ∧ Hid (KeepNot 3 W10 ws ∧ W10.heap.size ≤ ws.heap.size ∧ Below w.heap.size w ws) ∧ Hid (ws.heap[pb]? = some (.cells d 3 (0, 0))) ∧ Hid (TuI P E ks gb j ws)) (fun s92 _ => mm - (intOf s92).toNat)
              case atStart => exact ⟨0, Nat.zero_le _, rfl, ⟨fun b c t hb _ => hb, Nat.le_refl _, HB10.out⟩, HPd, TU0⟩
              case round =>
                obtain ⟨j, hj, rfl, HK, HPd3, HTu⟩ := hrel
                by_cases hjm : j < mm
                · obtain ⟨rb, hy, t0⟩ := own_read (HRow.out wr HK.out.1) HEl.out hjm
                  subst hy
                  have hjm' : (j : Int) < (mm : Int) := by omega
                  obtain ⟨hle, hpar⟩ := HPar.out j hjm
                  have HPr : Hid _ := hpar
                  obtain ⟨Eb, hEb⟩ : ∃ Eb, wr.heap.size = Eb := ⟨_, rfl⟩
                  have HEb : Hid (wr.heap.size = Eb) := hEb
                  have hpE : pb < Eb := by rw [← hEb]; exact box_lt HPd3.out
                  have hjE : Hid (j < E.length) := by show _ < _; rw [HEl.out]; exact hjm
                  obtain ⟨gj, hj', hh0, hh1, hgl, hgp, hgh⟩ : ∃ g h, ((gf E j).length = 0 → h = g) ∧ ((gf E j).length ≠ 0 → g = gb j ∧ h = g + 1) ∧ w.heap.size ≤ g ∧ h ≤ pb ∧ g ≤ h := by
                    by_cases hn : (gf E j).length = 0
                    · exact ⟨w.heap.size, w.heap.size, fun _ => rfl, fun h => absurd hn h, Nat.le_refl _, Nat.le_of_lt Hzp.out, Nat.le_refl _⟩
                    · obtain ⟨h1, h2⟩ := HGb.out j hjm (fun e => hn (by rw [e]; rfl))
                      exact ⟨gb j, gb j + 1, fun h => absurd h hn, fun _ => ⟨rfl, rfl⟩, h1, h2, Nat.le_succ _⟩
                  have HRd : Hid (∀ ws, TuI P E ks gb j ws → (gf E j).length ≠ 0 → (ks j).1 = some ⟨gj, 0, none⟩ ∧ ∃ cs, ws.heap[gj]? = some (.cells cs 3 (0, 0)) ∧ intsN (gf E j).length (gf E j) cs) := fun ws h hn => by rw [(hh1 hn).1]; exact h.read hjE.out hn
                  have HNx : Hid (∀ W ws, TuI P E ks gb j W → Out gj hj' W ws → ((gf E j).length ≠ 0 → ∃ cs, ws.heap[gj]? = some (.cells cs 3 (0, 0)) ∧ intsN (gf E j).length (tT P (gf E j)) cs) → TuI P E ks gb (j + 1) ws) := fun W ws h ho hc => h.next hjE.out ho hh0 hh1 HInc.out hc
                  have HKn : Hid (∀ W ws, TuI P E ks gb j W → Out gj hj' W ws → KeepNot 3 W ws) := fun W ws h ho => KeepNot.of_outh ho hh0 (fun hn => (hh1 hn).2) (fun hn => by obtain ⟨-, cs, e, -⟩ := HRd.out W h hn; exact ⟨cs, e⟩)
                  have hh1' : (gf E j).length ≠ 0 → hj' = gj + 1 := fun hn => (hh1 hn).2
                  clear hpar hh1 hh0
                  generalize gf E j = le at *
                  generalize (ks j).1 = kj at *
                  generalize (ks j).2 = cj at *
                  obtain ⟨nl, hnl⟩ : ∃ nl, le.length = nl := ⟨_, rfl⟩
                  have HNL : Hid (le.length = nl) := hnl
                  rw [hnl] at t0 hle hh1' HPr HRd HNx
                  clear hnl
                  obtain ⟨W2, hW2⟩ : ∃ W2, wr.alloc (.cells #[.slice none 0 0] 44) = W2 := ⟨_, rfl⟩
                  have bb : Below wr.heap.size wr W2 := by subst hW2; exact below_alloc _ _
                  have HE2 : Hid (W2.heap[Eb]? = some (.cells #[.slice none 0 0] 44 (0, 0))) := by subst hW2 hEb; exact al1 _ _
                  obtain ⟨x0, f0⟩ := box1_cells HE2.out
                  obtain ⟨Wf, hWf⟩ : ∃ Wf, W2.setCell ⟨Eb, 0, none⟩ (.slice kj nl cj) = Wf := ⟨_, rfl⟩
                  have oa : Out Eb (Eb + 1) W2 Wf := by subst hWf; exact out_setCell _ _ _ _
                  have HEf : Hid (Wf.heap[Eb]? = some (.cells #[.slice kj nl cj] 44 (0, 0))) := by subst hWf; exact box1_set HE2.out
                  obtain ⟨y0, -⟩ := box1_cells HEf.out
                  have cf : Below wr.heap.size wr Wf := bb.trans ((oa.below (by have := box_lt HE2.out; omega)).mono (by omega))
                  have Hcf : Hid (Below wr.heap.size wr Wf) := cf
                  have HTf : Hid (TuI P E ks gb j Wf) := HTu.out.below cf
                  have HPf : Hid (Wf.heap[pb]? = some (.cells d 3 (0, 0))) := box_on HPd3.out cf
                  clear cf oa bb
                  go_wp2_with fail
                  clear x0 f0 y0 t0 hW2 hWf
                  go_loopw [99] (fun s99 ws => ∃ t : Nat, t ≤ nl ∧ s99 = .int .i64 (t : Int) ∧ Hid (Out gj hj' Wf ws) ∧ Hid (nl ≠ 0 → ∃ cs, ws.heap[gj]? = some (.cells cs 3 (0, 0)) ∧ (∀ i, i < t → cs[i]? = some (iv (gi (tT P le) i))) ∧ ∀ i, t ≤ i → i < nl → cs[i]? = some (iv (gi le i)))) (fun s99 _ => nl - (intOf s99).toNat)
                  case atStart => exact ⟨0, Nat.zero_le _, rfl, Out.refl _ _ _, fun hn => by obtain ⟨-, cs, e1, e2⟩ := HRd.out Wf HTf.out hn; exact ⟨cs, e1, fun i hi => absurd hi (by omega), fun i _ hi => e2 i hi⟩⟩
                  case round =>
                    obtain ⟨t, ht, rfl, HOt, HCs⟩ := hrel
                    by_cases htn : t < nl
                    · obtain ⟨cs, hcs, hc1, hc2⟩ := HCs.out (by omega)
                      have hkj := (HRd.out Wf HTf.out (by omega)).1
                      subst hkj
                      have htn' : (t : Int) < (nl : Int) := by omega
                      have hh2 := hh1' (by omega)
                      have hct := hc2 t (Nat.le_refl _) htn
                      obtain ⟨hp1, hp2⟩ := HPr.out t htn
                      have HTt : Hid (gi (tT P le) t = (plc P (gi le t).toNat : Int)) := tT_at P le (by rw [HNL.out]; exact htn)
                      obtain ⟨r, hr⟩ : ∃ r : Nat, gi le t = (r : Int) := ⟨(gi le t).toNat, by omega⟩
                      rw [hr] at hct hp1 hp2 HTt
                      simp only [Int.toNat_natCast] at HTt
                      have hrq : r < q := by omega
                      have p0 : wr.cell? ⟨gj, t, none⟩ = some (.int .i64 (r : Int)) := cell_of_block hcs hct
                      have k0 : wr.cell? ⟨Eb, 0, none⟩ = some (.slice (some ⟨gj, 0, none⟩) nl cj) := (box1_cells (box_out HEf.out HOt.out (by omega))).1
                      have pl : wr.cell? ⟨pb, r, none⟩ = some (.int .i64 (plc P r : Int)) := cell_of_block (box_out HPf.out HOt.out (by omega)) (HIn.out r hrq)
                      have HCb : Hid (wr.heap[gj]? = some (.cells cs 3 (0, 0))) := hcs
                      have HC1 : Hid (∀ i, i < t → cs[i]? = some (iv (gi (tT P le) i))) := hc1
                      have HC2 : Hid (∀ i, t ≤ i → i < nl → cs[i]? = some (iv (gi le i))) := hc2
                      have hcz : Hid (t < cs.size) := (Array.getElem?_eq_some_iff.1 hct).1
                      clear hcs hc1 hc2 hct hr hp1 hp2
                      have SB : Hid (∀ W, Below wr.heap.size wr W → W.cell? ⟨Eb, 0, none⟩ = some (.slice (some ⟨gj, 0, none⟩) nl cj) ∧ W.cell? ⟨pb, r, none⟩ = some (.int .i64 (plc P r : Int)) ∧ W.cell? ⟨gj, t, none⟩ = some (.int .i64 (r : Int)) ∧ Below wr.heap.size wr W) := fun W h => ⟨cell_on k0 h, cell_on pl h, cell_on p0 h, h⟩
                      clear k0 pl
                      go_wp2_with fail
                      refine wp_region_noPanic ?_
                      refine wp_region_L (fun W => W.cell? ⟨Eb, 0, none⟩ = some (.slice (some ⟨gj, 0, none⟩) nl cj) ∧ W.cell? ⟨pb, r, none⟩ = some (.int .i64 (plc P r : Int)) ∧ W.cell? ⟨gj, t, none⟩ = some (.int .i64 (r : Int)) ∧ Below wr.heap.size wr W) 8 9 (by kernel_rfl) rfl (SB.out _ (Below.drew (Below.refl _ _))) (fun hS0 => ?_)
                      refine tkL (i := 0) (d := 104) (v := ?_) rfl rfl (by kernel_rfl) (by kernel_rfl) (by kernel_rfl) (by kernel_rfl) (fun _ _ _ h => h) (Or.inl ⟨by rfl, by intro wq hSq; obtain ⟨hq1, hq2, hq3, hq4⟩ := hSq; go_simp; try with_reducible rfl⟩) (by assumption) ?_
                      simp only [List.setIfInBounds_toArray, List.set_cons_zero, List.set_cons_succ]
                      refine tkL (i := 1) (d := 105) (v := ?_) rfl rfl (by kernel_rfl) (by kernel_rfl) (by kernel_rfl) (by kernel_rfl) (fun _ _ _ h => h) (Or.inl ⟨by rfl, by intro wq hSq; obtain ⟨hq1, hq2, hq3, hq4⟩ := hSq; go_simp; try with_reducible rfl⟩) (by assumption) ?_
                      simp only [List.setIfInBounds_toArray, List.set_cons_zero, List.set_cons_succ]
                      refine tkL (i := 2) (d := 106) (v := ?_) rfl rfl (by kernel_rfl) (by kernel_rfl) (by kernel_rfl) (by kernel_rfl) (fun _ _ _ h => h) (Or.inl ⟨by rfl, by intro wq hSq; obtain ⟨hq1, hq2, hq3, hq4⟩ := hSq; go_simp; try with_reducible rfl⟩) (by assumption) ?_
                      simp only [List.setIfInBounds_toArray, List.set_cons_zero, List.set_cons_succ]
                      refine tkL (i := 3) (d := 107) (v := ?_) rfl rfl (by kernel_rfl) (by kernel_rfl) (by kernel_rfl) (by kernel_rfl) (fun _ _ _ h => h) (Or.inl ⟨by rfl, by intro wq hSq; obtain ⟨hq1, hq2, hq3, hq4⟩ := hSq; go_simp; try with_reducible rfl⟩) (by assumption) ?_
                      simp only [List.setIfInBounds_toArray, List.set_cons_zero, List.set_cons_succ]
                      refine tkL (i := 4) (d := 108) (v := ?_) rfl rfl (by kernel_rfl) (by kernel_rfl) (by kernel_rfl) (by kernel_rfl) (fun _ _ _ h => h) (Or.inl ⟨by rfl, by intro wq hSq; obtain ⟨hq1, hq2, hq3, hq4⟩ := hSq; go_simp; try with_reducible rfl⟩) (by assumption) ?_
                      simp only [List.setIfInBounds_toArray, List.set_cons_zero, List.set_cons_succ]
                      refine tkL (i := 5) (d := 109) (v := ?_) rfl rfl (by kernel_rfl) (by kernel_rfl) (by kernel_rfl) (by kernel_rfl) (fun _ _ _ h => h) (Or.inl ⟨by rfl, by intro wq hSq; obtain ⟨hq1, hq2, hq3, hq4⟩ := hSq; go_simp; try with_reducible rfl⟩) (by assumption) ?_
                      simp only [List.setIfInBounds_toArray, List.set_cons_zero, List.set_cons_succ]
                      refine tkL (i := 6) (d := 110) (v := ?_) rfl rfl (by kernel_rfl) (by kernel_rfl) (by kernel_rfl) (by kernel_rfl) (fun _ _ _ h => h) (Or.inl ⟨by rfl, by intro wq hSq; obtain ⟨hq1, hq2, hq3, hq4⟩ := hSq; go_simp; try with_reducible rfl⟩) (by assumption) ?_
                      simp only [List.setIfInBounds_toArray, List.set_cons_zero, List.set_cons_succ]
                      refine tkL (i := 7) (d := 111) (v := ?_) rfl rfl (by kernel_rfl) (by kernel_rfl) (by kernel_rfl) (by kernel_rfl) (fun _ _ _ h => h) (Or.inl ⟨by rfl, by intro wq hSq; obtain ⟨hq1, hq2, hq3, hq4⟩ := hSq; go_simp; try with_reducible rfl⟩) (by assumption) ?_
                      simp only [List.setIfInBounds_toArray, List.set_cons_zero, List.set_cons_succ]
                      refine lastL rfl (by kernel_rfl) (by kernel_rfl) (fun K hK => ?_)
                      rw [if_pos (by rfl)]
                      obtain ⟨-, -, hq3, -⟩ := hS0
                      have HPw : Hid (wr.drew.heap[gj]? = some (.cells cs 3 (0, 0))) := HCb.out
                      have frw := free_of_block (i := t) HPw.out
                      go_simp
                      refine hK.out _ _ (NoPanic.normal ?_)
                      clear hK K
                      have O8 : Hid (Out gj hj' Wf (wr.drew.setCell ⟨gj, t, none⟩ (.int .i64 (plc P r : Int)))) := (HOt.out.trans (Out.of_below (Below.drew (Below.refl wr.heap.size wr)))).setCell (Nat.le_refl _) (by omega) _ _
                      clear SB frw hq3
                      go_wp2
                      go_roundw
                      case rel =>
                        refine ⟨t + 1, by omega, by go_num, O8, fun _ => ⟨_, block_set HPw.out, fun i hi => ?_, fun i hi hi2 => ?_⟩⟩
                        · by_cases e : i = t
                          · subst e; rw [set_at hcz.out, HTt.out]
                          · rw [set_ne e]; exact HC1.out i (by omega)
                        · rw [set_ne (by omega)]; exact HC2.out i (by omega) hi2
                      case measure => simp [intOf]; omega
                    · have htn' : t = nl := by omega
                      subst htn'
                      have HK2 : Hid (KeepNot 3 W10 wr ∧ W10.heap.size ≤ wr.heap.size ∧ Below w.heap.size w wr) := ⟨(HK.out.1.trans (KeepNot.of_below Hcf.out 3)).trans (HKn.out Wf wr HTf.out HOt.out), Nat.le_trans (Nat.le_trans HK.out.2.1 Hcf.out.size) HOt.out.size, (HK.out.2.2.trans (Hcf.out.mono HK.out.2.2.size)).trans ((HOt.out.below (by have := box_lt HPf.out; omega)).mono hgl)⟩
                      have HP2 : Hid (wr.heap[pb]? = some (.cells d 3 (0, 0))) := box_out HPf.out HOt.out (by omega)
                      have HT2 : Hid (TuI P E ks gb (j + 1) wr) := HNx.out Wf wr HTf.out HOt.out (fun hn => by obtain ⟨cs, e1, e2, -⟩ := HCs.out hn; exact ⟨cs, e1, e2⟩)
                      go_wp2_with fail
                      go_roundw
                      case rel => exact ⟨j + 1, by omega, by go_num, HK2, HP2, HT2⟩
                      case measure => simp [intOf]; omega
                · have hjm' : j = mm := by omega
                  subst hjm'
                  have R10 : Hid (wr.heap[z + 1]? = some (.cells #[.slice none 0 0, .slice none 0 0] 30 (0, 0))) := HK.out.1 _ _ _ (box_on (HD8.out.2.2.1 _ _ _ R3.out (by decide)) Hbw.out) (by decide)
                  obtain ⟨r0, r1, f0, f1⟩ := box2_cells R10.out
                  obtain ⟨W11, hW11⟩ : ∃ W11, (wr.setCell ⟨z + 1, 0, none⟩ (.slice y (plc P q) c)).setCell ⟨z + 1, 1, none⟩ (.slice y8 j c8) = W11 := ⟨_, rfl⟩
                  have X11 : W11.heap[z + 1]? = some (.cells #[.slice y (plc P q) c, .slice y8 j c8] 30 (0, 0)) := by subst hW11; exact box2_set R10.out
                  have o11 : Hid (Out (z + 1) (z + 1 + 1) wr W11) := by subst hW11; exact ((Out.refl _ _ _).setCell (by omega) (by omega) _ _).setCell (by omega) (by omega) _ _
                  obtain ⟨t0, t1, -, -⟩ := box2_cells X11
                  have g11 : Hid (Below w.heap.size w W11) := HK.out.2.2.trans ((o11.out.below (Nat.le_of_lt (box_lt R10.out))).mono (by have := Hz.out; omega))
                  have HDe : Hid (drV u f = ⟨kp P, E.map (tT P)⟩) := by show _ = _; unfold drV; rw [Hl.out, HP.out, HE.out]; rfl
                  have HLn : Hid ((E.map (tT P)).length = j) := by show _ = _; rw [List.length_map, HEl.out]
                  have HV11 : Hid (RdV W11 (vv y (plc P q) c y8 j c8) (drV u f)) := by
                    rw [HDe.out]
                    refine RdV.out (w := wr) ⟨y, c, y8, c8, pb + 1, U.heap.size, ?_, ?_, ks, ?_, fun i hi => ⟨gb i, ?_⟩⟩ o11.out R10.out
                    · show vv y (plc P q) c y8 j c8 = vv y (kp P).length c y8 (E.map (tT P)).length c8
                      rw [HLn.out, Hpq.out]
                    · have h := HK.out.1.owns HOw.out (by decide)
                      rw [Hpq.out] at h
                      exact h
                    · show wr.ownsRow _ _ _ (.slice y8 (E.map (tT P)).length c8) (E.map (tT P)).length (fvs (E.map (tT P)) ks)
                      rw [fvs_map, HLn.out]
                      exact HRow.out wr HK.out.1
                    · rw [gf_map, tT_len]
                      have hi' : i < j := by have h := hi; rw [HLn.out] at h; exact h
                      have h := HTu.out i (by rw [HEl.out]; exact hi')
                      rw [if_pos hi'] at h
                      exact h
                  have HDO : Hid (D = drV u f ∧ O = true) := by
                    rcases HR.out with ⟨-, e1, e2⟩ | ⟨h, -, -⟩
                    · exact ⟨e1, e2⟩
                    · exact absurd ⟨HGv.out, hx.1, by rw [Hm.out]; exact hx.2⟩ h
                  clear X11
                  go_wp2
                  exact bodyPost_ret (v := .tuple #[vv y (plc P q) c y8 j c8, .bool true]) (by simp [results, Try.results5, go_sem, t0, t1]) rfl ⟨g11.out, _, by rw [HDO.out.2], by rw [HDO.out.1]; exact HV11.out⟩
    · obtain ⟨m, hm⟩ : ∃ m, u.fs.length = m := ⟨_, rfl⟩
      have hm20 : u.fs.length ≤ 20 := hg.1.2
      have Hm : Hid (u.fs.length = m) := hm
      rw [hm] at hm20 H1 HC cG hW0 i1 hx ⊢
      clear hg hm
      have cI := fun W => l1In_any x 0 ((m : Int) - 1) W
      rw [show (decide (0 ≤ x) && decide (x ≤ (m : Int) - 1)) = false by simp; omega] at cI
      go_enter Try.func5, Try.ntmps5
      go_wp2_with fail
      refine cG.mono ?_
      rintro e w1 ⟨rfl, b1⟩
      clear i0 i1 cG hW0
      have K1 : Hid (w1.heap[z]? = some (.cells #[.slice a u.pc.length ca, .slice a' m ca'] 30 (0, 0))) := box_on H1.out b1
      obtain ⟨i0, i1, -, -⟩ := box2_cells K1.out
      obtain ⟨W', hW', ⟨r0, r1, f0, f1⟩, ⟨t0, t1⟩, HZ⟩ := ZERO.out (fun h => hx ⟨h.2.1, by have := h.2.2; rwa [Hm.out] at this⟩) w1 (box_on H2.out b1) (Below.comp q0 b1)
      obtain ⟨hO, hZ1, hZ2⟩ := HZ.out
      have HZ1 : Hid _ := hZ1
      have HZ2 : Hid _ := hZ2
      clear hZ1 hZ2 HZ
      go_wp2_with (go_at_call 14; refine (cI _).mono ?_; rintro e w' ⟨rfl, hww⟩; rw [hww])
      exact bodyPost_ret (v := .tuple #[vv none 0 0 none 0 0, .bool false]) (by simp [results, Try.results5, go_sem, t0, t1]) rfl ⟨HZ1.out, _, by rw [hO], HZ2.out⟩
  · have c0 := specGood_any (vv a u.pc.length ca a' u.fs.length ca') u false W0 (HC.out _ q0) HFS.out.1 HFS.out.2 ⟨fun h => (by cases h), fun h => absurd h hg⟩
    go_enter Try.func5, Try.ntmps5
    go_wp2_with fail
    refine c0.mono ?_
    rintro e w1 ⟨rfl, b1⟩
    obtain ⟨W', hW', ⟨r0, r1, f0, f1⟩, ⟨t0, t1⟩, HZ⟩ := ZERO.out (fun h => hg h.1) w1 (box_on H2.out b1) (Below.comp q0 b1)
    obtain ⟨hO, hZ1, hZ2⟩ := HZ.out
    have HZ1 : Hid _ := hZ1
    have HZ2 : Hid _ := hZ2
    clear hZ1 hZ2 HZ hW0 i0 i1 c0
    go_wp2
    exact bodyPost_ret (v := .tuple #[vv none 0 0 none 0 0, .bool false]) (by simp [results, Try.results5, go_sem, t0, t1]) rfl ⟨HZ1.out, _, by rw [hO], HZ2.out⟩
end Go.Proofs.Ytfphffbclpmobaa
