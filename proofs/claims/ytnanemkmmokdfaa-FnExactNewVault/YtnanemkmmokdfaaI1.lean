import Derived.Test.YtnanemkmmokdfaaC3
import Derived.Test.YtnanemkmmokdfaaP8
import Derived.Test.YtnanemkmmokdfaaD1
import Derived.Test.YtnanemkmmokdfaaM5
/- impl.PutText. -/
namespace Go.Proofs.Ytnanemkmmokdfaa
open Go.ChangeShapes Go.WideShapes Go.ChangeAt Go.RowKit Go.Maps
set_option linter.unusedVariables false
open Hd

attribute [local go_sem] Oper.semAt_some

/-- Whether a text can be put. -/
def ptOk (u : Va) (s : ByteArray) : Prop := GV u ∧ s.size ≤ 400 ∧ GV (ptV u (paR s))
def vz : Va := ⟨[], []⟩
/-- What PutText tells. -/
def ptR (u : Va) (s : ByteArray) (D : Va) (O : Bool) : Prop := (ptOk u s ∧ D = ptV u (paR s) ∧ O = true) ∨ (¬ ptOk u s ∧ D = vz ∧ O = false)
theorem ptR_ex (u : Va) (s : ByteArray) : ∃ D O, ptR u s D O := by
  by_cases h : ptOk u s
  · exact ⟨_, _, .inl ⟨h, rfl, rfl⟩⟩
  · exact ⟨_, _, .inr ⟨h, rfl, rfl⟩⟩
theorem vz_own {w : World} {B C : Nat} (h : B ≤ C) : VOwn w B C (vv none 0 0 none 0 0) vz :=
  ⟨none, 0, .slice none 0 0, 0, C, 0, rfl, Nat.le_refl _, h, Nat.zero_le _, .inr (Nat.le_refl _), NB.nil, FOwn.nil⟩
theorem gs_mem {l : List ByteArray} {i : Nat} (h : i < l.length) : gs l i ∈ l := by
  have : gs l i = l[i] := by simp [gs, h]
  rw [this]
  exact List.getElem_mem h
theorem mem_gs {l : List ByteArray} {t : ByteArray} (h : t ∈ l) : ∃ i, i < l.length ∧ gs l i = t := by
  obtain ⟨i, hi, e⟩ := List.getElem_of_mem h
  exact ⟨i, hi, by rw [← e]; simp [gs, hi]⟩
/-- A block laid later is apart from the rows. -/
theorem FRow.fresh {w : World} {lo e1 e2 ob : Nat} {y : Value} {F : List (List ByteArray)} (h : FRow w lo e1 e2 y F) (ho : w.heap.size ≤ ob) : FRow w lo ob e2 y F := by
  have hlt := h.lt
  obtain ⟨vs, h1, h2, h3⟩ := h
  refine ⟨vs, h1, fun k hk => ⟨by have := hlt k hk; omega, (h2 k hk).2⟩, fun i hi => ?_⟩
  obtain ⟨v, g1, a, c, g2, g3, g4⟩ := h3 i hi
  refine ⟨v, g1, a, c, g2, g3, fun hn => ?_⟩
  obtain ⟨b, off, p1, p2, p3, p4, p5, p6⟩ := g4 hn
  have := lt_of_cell (p6 0 (by omega))
  exact ⟨b, off, p1, p2, by omega, p4, p5, p6⟩
theorem gt_len (F : List (List ByteArray)) (x : List ByteArray) (i : Nat) (hi : i < (F ++ [x]).length) : (i < F.length ∧ gt (F ++ [x]) i = gt F i) ∨ gt (F ++ [x]) i = x := by
  simp only [List.length_append, List.length_singleton] at hi
  by_cases e : i < F.length
  · exact .inl ⟨e, gt_snoc_lt e⟩
  · have : i = F.length := by omega
    subst this
    exact .inr gt_snoc
theorem few_put {u : Va} (hg : GV u) (s : ByteArray) : FewT (fsT u ++ [paR s]) := by
  obtain ⟨p1, p2⟩ := paR_fits s
  refine ⟨by rw [List.length_append, fsT_len]; have := hg.1.2; simp; omega, fun i hi => ?_⟩
  rcases gt_len _ _ i hi with ⟨h1, h2⟩ | h2
  · rw [h2]
    rw [fsT_len] at h1
    rw [fsT_at u h1]
    have hf := hg.2.1 i h1
    refine ⟨by rw [txs_len]; have := hf.2; omega, fun k hk => ?_⟩
    rw [txs_len] at hk
    rw [txs_at _ hk]
    have h3 := hf.1 k hk
    have := (hg.2.2 (gi (gf u.fs i) k).toNat (by omega)).1.2
    unfold maxLen
    omega
  · rw [h2]
    exact ⟨by omega, fun k hk => by have := (p2 k hk).2; unfold maxLen; omega⟩
set_option maxRecDepth 20000 in
set_option maxHeartbeats 8000000 in
theorem implPut_any (v : Value) (u D : Va) (O : Bool) (s : ByteArray) (w : World) (hc : VAt w v u) (hf : FewV u) (hs : Sml u) (hl : s.size ≤ 9223372036854775807) (hR : ptR u s D O) :
    Calls Try.prog 40 #[v, .string s] w fun e w' => Below w.heap.size w w' ∧ ∃ v', e = .returned (.tuple #[v', .bool O]) ∧ VOwn w' w.heap.size w'.heap.size v' D := by
  have cO := fun W h => opened_any v u W (hc.below h) hf hs
  have cQ := fun W => implPieces_any s W hl
  have HPf : Hid ((paR s).length ≤ 134 ∧ ∀ i, i < (paR s).length → 1 ≤ (gs (paR s) i).size ∧ (gs (paR s) i).size ≤ 24) := paR_fits s
  have HR : Hid (ptR u s D O) := hR
  obtain ⟨a, ca, a', ca', rfl, -, -, -, -⟩ := hc
  obtain ⟨r, hr⟩ : ∃ r, w.heap.size = r := ⟨_, rfl⟩
  have Hr : Hid (w.heap.size = r) := hr
  obtain ⟨W0, hW0⟩ : ∃ W0, (w.alloc (.cells #[.slice a u.pc.length ca, .slice a' u.fs.length ca'] 40)).alloc (.cells #[.slice none 0 0, .slice none 0 0] 40) = W0 := ⟨_, rfl⟩
  have q0 : Below w.heap.size w W0 := by subst hW0; exact ba2 _ _ _
  obtain ⟨B1, B2⟩ : W0.heap[r]? = some (.cells #[.slice a u.pc.length ca, .slice a' u.fs.length ca'] 40 (0, 0)) ∧ W0.heap[r + 1]? = some (.cells #[.slice none 0 0, .slice none 0 0] 40 (0, 0)) := by subst hW0 hr; exact al2 _ _ _
  have H2 : Hid _ := B2
  obtain ⟨i0, i1, -, -⟩ := box2_cells B1
  clear B1 B2 hf hs hl hR
  have c := cO W0 q0
  clear cO
  have ZERO : Hid (¬ ptOk u s → ∀ W, Below W0.heap.size W0 W → ∃ W', (W.setCell ⟨r + 1, 0, none⟩ (.slice none 0 0)).setCell ⟨r + 1, 1, none⟩ (.slice none 0 0) = W' ∧ (W.cell? ⟨r + 1, 0, none⟩ = some (.slice none 0 0) ∧ W.cell? ⟨r + 1, 1, none⟩ = some (.slice none 0 0) ∧ W.frozen? ⟨r + 1, 0, none⟩ = false ∧ W.frozen? ⟨r + 1, 1, none⟩ = false) ∧ (W'.cell? ⟨r + 1, 0, none⟩ = some (.slice none 0 0) ∧ W'.cell? ⟨r + 1, 1, none⟩ = some (.slice none 0 0)) ∧ Hid (O = false ∧ Below w.heap.size w W' ∧ VOwn W' w.heap.size W'.heap.size (vv none 0 0 none 0 0) D)) := fun hno W hb => by
    have hB := box_on H2.out hb
    have o1 : Out (r + 1) (r + 1 + 1) W ((W.setCell ⟨r + 1, 0, none⟩ (.slice none 0 0)).setCell ⟨r + 1, 1, none⟩ (.slice none 0 0)) := ((Out.refl _ _ _).setCell (by omega) (by omega) _ _).setCell (by omega) (by omega) _ _
    obtain ⟨t0, t1, -, -⟩ := box2_cells (box2_set (x0 := .slice none 0 0) (x1 := .slice none 0 0) hB)
    have hbw : Below w.heap.size w ((W.setCell ⟨r + 1, 0, none⟩ (.slice none 0 0)).setCell ⟨r + 1, 1, none⟩ (.slice none 0 0)) := (Below.comp q0 hb).trans ((o1.below (Nat.le_of_lt (box_lt hB))).mono (by have := Hr.out; omega))
    refine ⟨_, rfl, box2_cells hB, ⟨t0, t1⟩, ?_, hbw, ?_⟩
    · rcases HR.out with ⟨h, -⟩ | ⟨-, -, h⟩
      · exact absurd h hno
      · exact h
    · rcases HR.out with ⟨h, -⟩ | ⟨-, h, -⟩
      · exact absurd h hno
      · rw [h]; exact vz_own hbw.size
  go_enter Try.func40, Try.ntmps40
  go_wp2_with fail
  refine c.mono ?_
  rintro e w1 ⟨hOp, b1⟩
  clear i0 i1 hW0 c
  rcases hOp with ⟨hg, M, y, n, rfl, hM0, hGM, hn1, hn2, hF⟩ | ⟨hg, rfl⟩
  · have HGv : Hid (GV u) := hg
    obtain ⟨yx, yc, rfl⟩ := hF.form
    have HF1 : Hid (FRow w1 W0.heap.size M M (.slice yx (fsT u).length yc) (fsT u)) := hF
    clear hg hF
    obtain ⟨nf, hnf⟩ : ∃ nf, (fsT u).length = nf := ⟨_, rfl⟩
    have Hnf : Hid ((fsT u).length = nf) := hnf
    rw [hnf] at HF1 ⊢
    clear hnf
    have hMlt := hGM.lt
    obtain ⟨ob, hob⟩ : ∃ ob, w1.heap.size = ob := ⟨_, rfl⟩
    have Hob : Hid (w1.heap.size = ob) := hob
    obtain ⟨W1, hW1⟩ : ∃ W1, w1.alloc (.cells #[.map (some M), .slice yx nf yc] 90) = W1 := ⟨_, rfl⟩
    have q1 : Below w1.heap.size w1 W1 := by subst hW1; exact below_alloc _ _
    have HO1 : Hid (W1.heap[ob]? = some (.cells #[.map (some M), .slice yx nf yc] 90 (0, 0))) := by subst hW1 hob; exact al1 _ _
    have b01 : Below W0.heap.size W0 W1 := Below.comp b1 q1
    have HF2 : Hid (FRow W1 W0.heap.size ob M (.slice yx nf yc) (fsT u)) := (HF1.out.fresh (by rw [Hob.out]; exact Nat.le_refl _)).below q1
    have HG1 : Hid (GM W1 M n (oG u).1 (oG u).2) := hGM.below q1
    clear hGM
    go_wp2_with fail
    refine (cQ _).mono ?_
    rintro e w2 ⟨b2, l, rfl, hol⟩
    obtain ⟨la, lc, rfl, hlc, -⟩ := hol.strs
    have b02 : Below W0.heap.size W0 w2 := Below.comp b01 b2
    by_cases h4 : s.size ≤ 400
    · rw [decide_eq_true h4]
      have HT : Hid (TRow w2 W0.heap.size ob M (Value.slice yx nf yc).ownBlock (.slice la (paR s).length lc) (paR s)) := TRow.of_own hol b01.size (box_lt HO1.out) (by have := q1.size; omega) (fun k hk => HF2.out.lt k hk)
      have HO2 : Hid (w2.heap[ob]? = some (.cells #[.map (some M), .slice yx nf yc] 90 (0, 0))) := box_on HO1.out b2
      have hQs : Qs (oG u).1 (200 * u.fs.length) := adF_Qs u.pc u.fs u.fs.length (Nat.le_refl _) HGv.out.2.1
      have hnum := good_num HGv.out
      have cF := addFile_any W0.heap.size ob M n (oG u).2 (200 * u.fs.length) (oG u).1 (.slice yx nf yc) (fsT u) la lc (paR s) w2 HO2.out (by have := b1.size; omega) hM0 (by omega) (HG1.out.below b2) (by have := HPf.out.1; omega) (by omega) hQs (by have := HPf.out.1; have := HGv.out.1.2; omega) (HF2.out.below b2) (by rw [fsT_len]; have := HGv.out.1.2; omega) HT.out (fun i hi => by have := (HPf.out.2 i hi).2; unfold maxLen; omega) b02.size
      rw [show ((oG u).1, (oG u).2) = oG u from rfl] at cF
      have hrep := stL_rep (paR s) (u.pc, []) (good_rep HGv.out) hnum
      have hlen := (stL_len (paR s) (u.pc, [])).2.2
      have hold := stL_old (paR s) (u.pc, []) (fun t => 1 ≤ t.size ∧ t.size ≤ 24) (fun i hi => (HGv.out.2.2 i hi).1) (fun t ht => by obtain ⟨i, hi, e⟩ := mem_gs ht; rw [← e]; exact HPf.out.2 i hi)
      have hfil := pt_files HGv.out (paR s)
      have hgood := pt_good HGv.out (l := paR s) (by have := HPf.out.1; omega) (fun t ht => by obtain ⟨i, hi, e⟩ := mem_gs ht; rw [← e]; exact HPf.out.2 i hi)
      have hpcl : (ptV u (paR s)).pc = (stL (u.pc, []) (paR s)).1 := rfl
      have hfew := few_put HGv.out s
      have hfl : (ptV u (paR s)).fs.length = (fsT u ++ [paR s]).length := by simp [ptV, fsT_len]
      rw [hpcl] at hfil hgood
      obtain ⟨F', hF'⟩ : ∃ F', fsT u ++ [paR s] = F' := ⟨_, rfl⟩
      rw [hF'] at cF hfil hfew hfl
      clear hF'
      obtain ⟨P, hP⟩ : ∃ P, (stL (u.pc, []) (paR s)).1 = P := ⟨_, rfl⟩
      rw [hP] at hrep hlen hold hfil hgood hpcl
      have cC := fun (y' : Value) W (hG : GM W M (n + (paR s).length) (adL (oG u) (paR s)).1 (adL (oG u) (paR s)).2) (hFR : RdF W y' F') => closed_any M (n + (paR s).length) (adL (oG u) (paR s)).1 (enF 0 P) F' y' W (by rw [enF_len, ← hrep.2]; exact hG) (rep_ens hrep.1) (fun e he => by obtain ⟨i, hi, e1, -⟩ := (enF_mem P 0 e).1 he; have := (hold i hi).2; rw [e1] at this; exact this) (by rw [enF_len]; have := HPf.out.1; have := HGv.out.1.1; simp only at hlen; omega) hFR hfew
      have HC : Hid _ := cC
      have HFin : Hid (∀ w3 e w4, ClR (enF 0 P) F' w3 e w4 → Below w3.heap.size w3 w4 ∧ ∃ p1 p2 p3 p4 p5 p6, e = .returned (.tuple #[vv p1 p2 p3 p4 p5 p6, .bool O]) ∧ (VOwn w4 w3.heap.size w4.heap.size (vv p1 p2 p3 p4 p5 p6) D)) := fun w3 e w4 ⟨hb, h⟩ => by
        refine ⟨hb, ?_⟩
        rcases h with ⟨k1, k2, v', rfl, k3⟩ | ⟨k1, rfl⟩
        · have hok : ptOk u s := ⟨HGv.out, h4, hgood.2 ⟨by rw [enF_len] at k1; exact k1, by rw [hfl]; exact k2⟩⟩
          rcases HR.out with ⟨-, e1, e2⟩ | ⟨h', -⟩
          · rw [enF_nm, hfil] at k3
            have e3 : D = ⟨P, (ptV u (paR s)).fs⟩ := by rw [e1, ← hpcl]
            obtain ⟨a1, c1, a2, c2, e4, -⟩ := k3.at_
            subst e4
            exact ⟨_, _, _, _, _, _, by rw [e2], by rw [e3]; exact k3⟩
          · exact absurd hok h'
        · have hno : ¬ ptOk u s := fun h => k1 (by rw [enF_len]; have := h.2.2.1; rw [hfl, hpcl] at this; exact this)
          rcases HR.out with ⟨h', -⟩ | ⟨-, e1, e2⟩
          · exact absurd h' hno
          · exact ⟨_, _, _, _, _, _, by rw [e2], by rw [e1]; exact vz_own hb.size⟩
      clear cC hrep hlen hold hfil hgood hpcl hfew hfl hP hQs hnum hol cQ
      go_wp2_with fail
      refine cF.mono ?_
      rintro e w3 ⟨rfl, b3, y', hO3, hG3, hF3⟩
      have b03 : Below W0.heap.size W0 w3 := b02.trans (b3.mono (Nat.le_refl _))
      have HO3 : Hid _ := hO3
      obtain ⟨yx', yc', hy'⟩ := hF3.form
      subst hy'
      have cL := HC.out _ w3 hG3 hF3.rd
      obtain ⟨o0, o1, -, -⟩ := box2_cells hO3
      clear hG3 hF3 hO3 cF hW1
      go_wp2_with fail
      refine cL.mono ?_
      rintro e w4 hcl
      obtain ⟨b4, p1, p2, p3, p4, p5, p6, rfl, hv⟩ := HFin.out w3 e w4 hcl
      have HV : Hid _ := hv
      have H4 : Hid (w4.heap[r + 1]? = some (.cells #[.slice none 0 0, .slice none 0 0] 40 (0, 0))) := box_on (box_on H2.out b03) b4
      obtain ⟨r0, r1, f0, f1⟩ := box2_cells H4.out
      obtain ⟨W5, hW5⟩ : ∃ W5, (w4.setCell ⟨r + 1, 0, none⟩ (.slice p1 p2 p3)).setCell ⟨r + 1, 1, none⟩ (.slice p4 p5 p6) = W5 := ⟨_, rfl⟩
      have H5 : W5.heap[r + 1]? = some (.cells #[.slice p1 p2 p3, .slice p4 p5 p6] 40 (0, 0)) := by subst hW5; exact box2_set H4.out
      have o5 : Hid (Out (r + 1) (r + 1 + 1) w4 W5) := by subst hW5; exact ((Out.refl _ _ _).setCell (by omega) (by omega) _ _).setCell (by omega) (by omega) _ _
      obtain ⟨t0, t1, -, -⟩ := box2_cells H5
      have hz3 : r + 1 < w3.heap.size := box_lt (box_on H2.out b03)
      have hg5 : Hid (Below w.heap.size w W5) := ((Below.comp q0 b03).trans (b4.mono (Below.comp q0 b03).size)).trans ((o5.out.below (Nat.le_of_lt (box_lt H4.out))).mono (by have := Hr.out; omega))
      have HV5 : Hid (VOwn W5 w.heap.size W5.heap.size (vv p1 p2 p3 p4 p5 p6) D) := (VOwn.out HV.out o5.out (.inr (Nat.le_of_lt_succ (Nat.lt_succ_of_le hz3)))).mono (Below.comp q0 b03).size o5.out.size
      clear hv hcl o0 o1 H5
      go_wp2
      exact bodyPost_ret (v := .tuple #[vv p1 p2 p3 p4 p5 p6, .bool O]) (by simp [results, Try.results40, go_sem, t0, t1]) rfl ⟨hg5.out, _, rfl, HV5.out⟩
    · rw [decide_eq_false h4]
      obtain ⟨W', hW', ⟨r0, r1, f0, f1⟩, ⟨t0, t1⟩, HZ⟩ := ZERO.out (fun h => h4 h.2.1) w2 b02
      obtain ⟨hO, hZ1, hZ2⟩ := HZ.out
      have HZ1 : Hid _ := hZ1
      have HZ2 : Hid _ := hZ2
      clear cQ hol hW1 hZ1 hZ2 HZ
      go_wp2
      exact bodyPost_ret (v := .tuple #[vv none 0 0 none 0 0, .bool false]) (by simp [results, Try.results40, go_sem, t0, t1]) rfl ⟨HZ1.out, _, by rw [hO], HZ2.out⟩
  · obtain ⟨Wz, hWz⟩ : ∃ Wz, w1.alloc (.cells #[.map none, .slice none 0 0] 90) = Wz := ⟨_, rfl⟩
    have HBz : Hid (Wz.heap[w1.heap.size]? = some (.cells #[.map none, .slice none 0 0] 90 (0, 0))) := by subst hWz; exact al1 _ _
    obtain ⟨xz0, xz1, fz0, fz1⟩ := box2_cells HBz.out
    obtain ⟨W1, hW1⟩ : ∃ W1, (Wz.setCell ⟨w1.heap.size, 0, none⟩ (.map none)).setCell ⟨w1.heap.size, 1, none⟩ (.slice none 0 0) = W1 := ⟨_, rfl⟩
    have qz : Below w1.heap.size w1 Wz := by subst hWz; exact below_alloc _ _
    have o1 : Out w1.heap.size (w1.heap.size + 1) Wz W1 := by subst hW1; exact ((Out.refl _ _ _).setCell (by omega) (by omega) _ _).setCell (by omega) (by omega) _ _
    have q1 : Below w1.heap.size w1 W1 := qz.trans (o1.below qz.size)
    go_wp2_with fail
    refine (cQ _).mono ?_
    rintro e w2 ⟨b2, l, rfl, hol⟩
    obtain ⟨W', hW', ⟨r0, r1, f0, f1⟩, ⟨t0, t1⟩, HZ⟩ := ZERO.out (fun h => hg h.1) w2 (Below.comp b1 (Below.comp q1 b2))
    obtain ⟨hO, hZ1, hZ2⟩ := HZ.out
    have HZ1 : Hid _ := hZ1
    have HZ2 : Hid _ := hZ2
    clear cQ hol hW1 hZ1 hZ2 HZ hWz xz0 xz1 fz0 fz1
    go_wp2
    exact bodyPost_ret (v := .tuple #[vv none 0 0 none 0 0, .bool false]) (by simp [results, Try.results40, go_sem, t0, t1]) rfl ⟨HZ1.out, _, by rw [hO], HZ2.out⟩
end Go.Proofs.Ytnanemkmmokdfaa
