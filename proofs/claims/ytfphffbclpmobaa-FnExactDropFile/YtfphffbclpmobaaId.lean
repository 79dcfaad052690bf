import Derived.Test.YtfphffbclpmobaaC3
import Derived.Test.YtfphffbclpmobaaDq
import Derived.Test.YtfphffbclpmobaaM8
import Derived.Test.YtfphffbclpmobaaM5
/- impl.DropFile. -/
namespace Go.Proofs.Ytfphffbclpmobaa
open Go.ChangeShapes Go.WideShapes Go.ChangeAt Go.RowKit Go.Maps
set_option linter.unusedVariables false
open Hd

attribute [local go_sem] Oper.semAt_some

theorem few_drop {u : Va} (hg : GV u) {f : Nat} (hf : f < u.fs.length) : FewT ((fsT u).eraseIdx f) := by
  have key : ∀ i, i < (fsT u).length → (gt (fsT u) i).length ≤ 1000 ∧ ∀ k, k < (gt (fsT u) i).length → (gs (gt (fsT u) i) k).size ≤ maxLen := fun i h1 => by
    rw [fsT_len] at h1
    rw [fsT_at u h1]
    have hf := hg.2.1 i h1
    refine ⟨by rw [txs_len]; have := hf.2; omega, fun k hk => ?_⟩
    rw [txs_len] at hk
    rw [txs_at _ hk]
    have h3 := hf.1 k hk
    have := (hg.2.2 (gi (gf u.fs i) k).toNat (by omega)).1.2
    unfold maxLen
    omega
  have hl : ((fsT u).eraseIdx f).length = u.fs.length - 1 := by rw [List.length_eraseIdx, if_pos (by rw [fsT_len]; exact hf), fsT_len]
  refine ⟨by rw [hl]; have := hg.1.2; omega, fun i hi => ?_⟩
  rw [hl] at hi
  have hge : gt ((fsT u).eraseIdx f) i = gt (fsT u) (if i < f then i else i + 1) := by
    unfold gt
    simp only [List.getD_eq_getElem?_getD, List.getElem?_eraseIdx]
    split <;> rfl
  rw [hge]
  exact key _ (by rw [fsT_len]; split <;> omega)
theorem liv_size {u : Va} (hg : GV u) {f : Nat} (hf : f < u.fs.length) : ∀ e, e ∈ livF 0 (dsL u.pc (gf u.fs f)) → e.tx.size ≤ 24 := fun e he => by
  obtain ⟨⟨i, hi, e1, -⟩, -⟩ := livF_mem.1 he
  rw [dsL_len] at hi
  have h2 := (dsL_at (gf u.fs f) u.pc hi (gv_pos hg hf)).1
  rw [e1] at h2
  simp only at h2
  rw [h2]
  exact (hg.2.2 i hi).1.2
set_option maxRecDepth 20000 in
set_option maxHeartbeats 8000000 in
theorem implDrop_any (v : Value) (u D : Va) (O : Bool) (x : Int) (w : World) (hc : VAt w v u) (hf : FewV u) (hs : Sml u) (hR : drR u x D O) :
    Calls Try.prog 7 #[v, .int .i64 x] w fun e w' => Below w.heap.size w w' ∧ ∃ v', e = .returned (.tuple #[v', .bool O]) ∧ VOwn w' w.heap.size w'.heap.size v' D := by
  have cO := fun W h => opened_any v u W (hc.below h) hf hs
  have HR : Hid (drR u x D O) := hR
  obtain ⟨a, ca, a', ca', rfl, -, -, -, -⟩ := hc
  obtain ⟨r, hr⟩ : ∃ r, w.heap.size = r := ⟨_, rfl⟩
  have Hr : Hid (w.heap.size = r) := hr
  obtain ⟨W0, hW0⟩ : ∃ W0, (w.alloc (.cells #[.slice a u.pc.length ca, .slice a' u.fs.length ca'] 30)).alloc (.cells #[.slice none 0 0, .slice none 0 0] 30) = W0 := ⟨_, rfl⟩
  have q0 : Below w.heap.size w W0 := by subst hW0; exact ba2 _ _ _
  obtain ⟨B1, B2⟩ : W0.heap[r]? = some (.cells #[.slice a u.pc.length ca, .slice a' u.fs.length ca'] 30 (0, 0)) ∧ W0.heap[r + 1]? = some (.cells #[.slice none 0 0, .slice none 0 0] 30 (0, 0)) := by subst hW0 hr; exact al2 _ _ _
  have H2 : Hid _ := B2
  obtain ⟨i0, i1, -, -⟩ := box2_cells B1
  clear B1 B2 hf hs hR
  have c := cO W0 q0
  clear cO
  have ZERO : Hid (¬ drOk u x → ∀ W, Below W0.heap.size W0 W → ∃ W', (W.setCell ⟨r + 1, 0, none⟩ (.slice none 0 0)).setCell ⟨r + 1, 1, none⟩ (.slice none 0 0) = W' ∧ (W.cell? ⟨r + 1, 0, none⟩ = some (.slice none 0 0) ∧ W.cell? ⟨r + 1, 1, none⟩ = some (.slice none 0 0) ∧ W.frozen? ⟨r + 1, 0, none⟩ = false ∧ W.frozen? ⟨r + 1, 1, none⟩ = false) ∧ (W'.cell? ⟨r + 1, 0, none⟩ = some (.slice none 0 0) ∧ W'.cell? ⟨r + 1, 1, none⟩ = some (.slice none 0 0)) ∧ Hid (O = false ∧ Below w.heap.size w W' ∧ VOwn W' w.heap.size W'.heap.size (vv none 0 0 none 0 0) D)) := fun hno W hb => by
    have hB := box_on H2.out hb
    have o1 : Out (r + 1) (r + 1 + 1) W ((W.setCell ⟨r + 1, 0, none⟩ (.slice none 0 0)).setCell ⟨r + 1, 1, none⟩ (.slice none 0 0)) := ((Out.refl _ _ _).setCell (by omega) (by omega) _ _).setCell (by omega) (by omega) _ _
    obtain ⟨t0, t1, -, -⟩ := box2_cells (box2_set (x0 := .slice none 0 0) (x1 := .slice none 0 0) hB)
    have hbw : Below w.heap.size w ((W.setCell ⟨r + 1, 0, none⟩ (.slice none 0 0)).setCell ⟨r + 1, 1, none⟩ (.slice none 0 0)) := (Below.comp q0 hb).trans ((o1.below (Nat.le_of_lt (box_lt hB))).mono (by have := Hr.out; omega))
    refine ⟨_, rfl, box2_cells hB, ⟨t0, t1⟩, ?_, hbw, ?_⟩
    · rcases HR.out with ⟨h, -⟩ | ⟨-, -, h⟩
      · exact absurd h hno
      · exact h
    · rcases HR.out with ⟨h, -⟩ | ⟨-, h, -⟩
      · exact absurd h hno
      · rw [h]; exact vz_own hbw.size
  go_enter Try.func7, Try.ntmps7
  go_wp2_with fail
  refine c.mono ?_
  rintro e w1 ⟨hOp, b1⟩
  clear i0 i1 hW0 c
  rcases hOp with ⟨hg, M, y, n, rfl, hM0, hGM, hn1, hn2, hF⟩ | ⟨hg, rfl⟩
  · have HGv : Hid (GV u) := hg
    obtain ⟨yx, yc, rfl⟩ := hF.form
    have HF1 : Hid (FRow w1 W0.heap.size M M (.slice yx (fsT u).length yc) (fsT u)) := hF
    clear hg hF
    have hnf20 : (fsT u).length ≤ 20 := by rw [fsT_len]; exact HGv.out.1.2
    obtain ⟨nf, hnf⟩ : ∃ nf, (fsT u).length = nf := ⟨_, rfl⟩
    have Hnf : Hid ((fsT u).length = nf) := hnf
    have Hnu : Hid (u.fs.length = nf) := by show _ = _; rw [← hnf, fsT_len]
    rw [hnf] at HF1 hnf20 ⊢
    clear hnf
    have hMlt := hGM.lt
    obtain ⟨ob, hob⟩ : ∃ ob, w1.heap.size = ob := ⟨_, rfl⟩
    have Hob : Hid (w1.heap.size = ob) := hob
    obtain ⟨W1, hW1⟩ : ∃ W1, w1.alloc (.cells #[.map (some M), .slice yx nf yc] 52) = W1 := ⟨_, rfl⟩
    have q1 : Below w1.heap.size w1 W1 := by subst hW1; exact below_alloc _ _
    have HO1 : Hid (W1.heap[ob]? = some (.cells #[.map (some M), .slice yx nf yc] 52 (0, 0))) := by subst hW1 hob; exact al1 _ _
    have b01 : Below W0.heap.size W0 W1 := Below.comp b1 q1
    have HF2 : Hid (FRow W1 W0.heap.size ob M (.slice yx nf yc) (fsT u)) := (HF1.out.fresh (by rw [Hob.out]; exact Nat.le_refl _)).below q1
    have HG1 : Hid (GM W1 M n (oG u).1 (oG u).2) := hGM.below q1
    clear hGM
    have cH := fun W => hasFile_any (.map (some M)) (.slice yx nf yc) yx nf yc x W ⟨_, rfl⟩ rfl (by omega)
    obtain ⟨o0, o1, -, -⟩ := box2_cells HO1.out
    by_cases hx : 0 ≤ x ∧ x < nf
    · rw [show (decide (0 ≤ x) && decide (x < (nf : Int))) = true by simp; omega] at cH
      obtain ⟨f, rfl⟩ : ∃ f : Nat, x = (f : Int) := ⟨x.toNat, by omega⟩
      have hfn : f < u.fs.length := by rw [Hnu.out]; omega
      go_wp2_with fail
      refine (cH _).mono ?_
      rintro e w2 ⟨rfl, b2⟩
      clear cH o0 o1 hW1
      have b02 : Below W0.heap.size W0 w2 := Below.comp b01 b2
      have HO2 : Hid (w2.heap[ob]? = some (.cells #[.map (some M), .slice yx nf yc] 52 (0, 0))) := box_on HO1.out b2
      have hgt : gt (fsT u) f = txs u.pc (gf u.fs f) := fsT_at u hfn
      have hparts := (HGv.out.2.1 f hfn).2
      have cF := dropFile_any W0.heap.size ob M n (oG u).2 f (oG u).1 (.slice yx nf yc) (fsT u) w2 HO2.out (by have := b1.size; omega) hM0 (by omega) (HG1.out.below b2) (by rw [hgt, txs_len]; omega) (HF2.out.below b2) (by rw [Hnf.out]; omega) (by rw [Hnf.out]; omega) (fun k hk => by
        rw [hgt, txs_len] at hk
        refine ⟨?_, ?_⟩
        · rw [hgt, txs_at _ hk]
          have h3 := (HGv.out.2.1 f hfn).1 k hk
          have := (HGv.out.2.2 (gi (gf u.fs f) k).toNat (by omega)).1.2
          unfold maxLen; omega
        · rw [hgt]
          exact dr_look HGv.out hfn hk)
      rw [hgt, txs_len, show ((oG u).1, (oG u).2) = oG u from rfl] at cF
      have hrz := dr_rep HGv.out hfn (gf u.fs f).length (Nat.le_refl _)
      rw [List.take_of_length_le (by rw [txs_len]; exact Nat.le_refl _), List.take_of_length_le (Nat.le_refl _)] at hrz
      have hsz := liv_size HGv.out hfn
      have hfew := few_drop HGv.out hfn
      have hfiles := dr_files HGv.out hfn
      have hel : ((fsT u).eraseIdx f).length = nf - 1 := by rw [List.length_eraseIdx, if_pos (by rw [Hnf.out]; omega), Hnf.out]
      have hkl : (livF 0 (dsL u.pc (gf u.fs f))).length ≤ 100 := by rw [livF_len]; have h1 := kp_le (dsL u.pc (gf u.fs f)); rw [dsL_len] at h1; have := HGv.out.1.1; omega
      have hnm := livF_nm (dsL u.pc (gf u.fs f)) 0
      have HD : Hid (drV u f = ⟨kp (dsL u.pc (gf u.fs f)), (drV u f).fs⟩) := rfl
      obtain ⟨F', hF'⟩ : ∃ F', (fsT u).eraseIdx f = F' := ⟨_, rfl⟩
      rw [hF'] at cF hfew hfiles hel
      obtain ⟨G', hG'⟩ : ∃ G', drL (oG u) (txs u.pc (gf u.fs f)) = G' := ⟨_, rfl⟩
      rw [hG'] at cF hrz
      obtain ⟨P', hP'⟩ : ∃ P', dsL u.pc (gf u.fs f) = P' := ⟨_, rfl⟩
      rw [hP'] at hrz hsz hfiles hkl hnm HD
      clear hF' hG' hP'
      have HC : Hid (∀ (y' : Value) W, GM W M (n + (gf u.fs f).length) G'.1 G'.2 → RdF W y' F' → Calls Try.prog 21 #[.agg #[.map (some M), y']] W fun e w' => ClR (livF 0 P') F' W e w') := fun y' W hG hFR => closed_any M (n + (gf u.fs f).length) G'.1 (livF 0 P') F' y' W (by rw [← hrz.2]; exact hG) hrz.1 hsz (by omega) hFR hfew
      have HFin : Hid (∀ w3 e w4, ClR (livF 0 P') F' w3 e w4 → Below w3.heap.size w3 w4 ∧ ∃ p1 p2 p3 p4 p5 p6, e = .returned (.tuple #[vv p1 p2 p3 p4 p5 p6, .bool O]) ∧ (VOwn w4 w3.heap.size w4.heap.size (vv p1 p2 p3 p4 p5 p6) D)) := fun w3 e w4 ⟨hb, h⟩ => by
        refine ⟨hb, ?_⟩
        rcases h with ⟨k1, k2, v', rfl, k3⟩ | ⟨k1, rfl⟩
        · rcases HR.out with ⟨-, e1, e2⟩ | ⟨h', -⟩
          · rw [hnm, hfiles] at k3
            have e3 : D = ⟨kp P', (drV u f).fs⟩ := by rw [e1]; exact HD.out
            obtain ⟨a1, c1, a2, c2, e4, -⟩ := k3.at_
            subst e4
            exact ⟨_, _, _, _, _, _, by rw [e2], by rw [e3]; exact k3⟩
          · exact absurd ⟨HGv.out, hx.1, by rw [Hnu.out]; exact hx.2⟩ h'
        · exact absurd ⟨hkl, by rw [hel]; omega⟩ k1
      clear hrz hsz hfew hfiles hel hkl hnm hgt
      go_wp2_with fail
      refine cF.mono ?_
      rintro e w3 ⟨rfl, b3, y', hO3, hG3, hF3⟩
      have b03 : Below W0.heap.size W0 w3 := b02.trans (b3.mono (Nat.le_refl _))
      have HO3 : Hid _ := hO3
      have cL := HC.out _ w3 hG3 hF3
      obtain ⟨yx', yc', hy', -⟩ := hF3
      subst hy'
      obtain ⟨o0, o1, -, -⟩ := box2_cells hO3
      clear hG3 hO3 cF
      generalize F'.length = mf at *
      go_wp2_with fail
      refine cL.mono ?_
      rintro e w4 hcl
      obtain ⟨b4, p1, p2, p3, p4, p5, p6, rfl, hv⟩ := HFin.out w3 e w4 hcl
      have HV : Hid _ := hv
      have H4 : Hid (w4.heap[r + 1]? = some (.cells #[.slice none 0 0, .slice none 0 0] 30 (0, 0))) := box_on (box_on H2.out b03) b4
      obtain ⟨r0, r1, f0, f1⟩ := box2_cells H4.out
      obtain ⟨W5, hW5⟩ : ∃ W5, (w4.setCell ⟨r + 1, 0, none⟩ (.slice p1 p2 p3)).setCell ⟨r + 1, 1, none⟩ (.slice p4 p5 p6) = W5 := ⟨_, rfl⟩
      have H5 : W5.heap[r + 1]? = some (.cells #[.slice p1 p2 p3, .slice p4 p5 p6] 30 (0, 0)) := by subst hW5; exact box2_set H4.out
      have o5 : Hid (Out (r + 1) (r + 1 + 1) w4 W5) := by subst hW5; exact ((Out.refl _ _ _).setCell (by omega) (by omega) _ _).setCell (by omega) (by omega) _ _
      obtain ⟨t0, t1, -, -⟩ := box2_cells H5
      have hz3 : r + 1 < w3.heap.size := box_lt (box_on H2.out b03)
      have hg5 : Hid (Below w.heap.size w W5) := ((Below.comp q0 b03).trans (b4.mono (Below.comp q0 b03).size)).trans ((o5.out.below (Nat.le_of_lt (box_lt H4.out))).mono (by have := Hr.out; omega))
      have HV5 : Hid (VOwn W5 w.heap.size W5.heap.size (vv p1 p2 p3 p4 p5 p6) D) := (VOwn.out HV.out o5.out (.inr (Nat.le_of_lt_succ (Nat.lt_succ_of_le hz3)))).mono (Below.comp q0 b03).size o5.out.size
      clear hv hcl o0 o1 H5
      go_wp2
      exact bodyPost_ret (v := .tuple #[vv p1 p2 p3 p4 p5 p6, .bool O]) (by simp [results, Try.results7, go_sem, t0, t1]) rfl ⟨hg5.out, _, rfl, HV5.out⟩
    · rw [show (decide (0 ≤ x) && decide (x < (nf : Int))) = false by simp; omega] at cH
      go_wp2_with fail
      refine (cH _).mono ?_
      rintro e w2 ⟨rfl, b2⟩
      have b02 : Below W0.heap.size W0 w2 := Below.comp b01 b2
      obtain ⟨W', hW', ⟨r0, r1, f0, f1⟩, ⟨t0, t1⟩, HZ⟩ := ZERO.out (fun h => hx ⟨h.2.1, by have := h.2.2; rwa [Hnu.out] at this⟩) w2 b02
      obtain ⟨hO, hZ1, hZ2⟩ := HZ.out
      have HZ1 : Hid _ := hZ1
      have HZ2 : Hid _ := hZ2
      clear hW1 hZ1 hZ2 HZ o0 o1 cH
      go_wp2
      exact bodyPost_ret (v := .tuple #[vv none 0 0 none 0 0, .bool false]) (by simp [results, Try.results7, go_sem, t0, t1]) rfl ⟨HZ1.out, _, by rw [hO], HZ2.out⟩
  · obtain ⟨Wz, hWz⟩ : ∃ Wz, w1.alloc (.cells #[.map none, .slice none 0 0] 52) = Wz := ⟨_, rfl⟩
    have HBz : Hid (Wz.heap[w1.heap.size]? = some (.cells #[.map none, .slice none 0 0] 52 (0, 0))) := by subst hWz; exact al1 _ _
    obtain ⟨xz0, xz1, fz0, fz1⟩ := box2_cells HBz.out
    obtain ⟨W1, hW1⟩ : ∃ W1, (Wz.setCell ⟨w1.heap.size, 0, none⟩ (.map none)).setCell ⟨w1.heap.size, 1, none⟩ (.slice none 0 0) = W1 := ⟨_, rfl⟩
    have qz : Below w1.heap.size w1 Wz := by subst hWz; exact below_alloc _ _
    have o1 : Out w1.heap.size (w1.heap.size + 1) Wz W1 := by subst hW1; exact ((Out.refl _ _ _).setCell (by omega) (by omega) _ _).setCell (by omega) (by omega) _ _
    have q1 : Below w1.heap.size w1 W1 := qz.trans (o1.below qz.size)
    obtain ⟨W', hW', ⟨r0, r1, f0, f1⟩, ⟨t0, t1⟩, HZ⟩ := ZERO.out (fun h => hg h.1) W1 (Below.comp b1 q1)
    obtain ⟨hO, hZ1, hZ2⟩ := HZ.out
    have HZ1 : Hid _ := hZ1
    have HZ2 : Hid _ := hZ2
    clear hZ1 hZ2 HZ
    go_wp2
    exact bodyPost_ret (v := .tuple #[vv none 0 0 none 0 0, .bool false]) (by simp [results, Try.results7, go_sem, t0, t1]) rfl ⟨HZ1.out, _, by rw [hO], HZ2.out⟩
end Go.Proofs.Ytfphffbclpmobaa
