import Derived.Test.YtfmgaenedkjmkaaC3a
/- The program: a directory's lists copied, one exchanged. -/
namespace Go.Proofs.Ytfmgaenedkjmkaa
open Go.ChangeShapes Go.WideShapes Go.ChangeAt Go.RowKit
set_option linter.unusedVariables false
open Hd

attribute [local go_sem] Oper.semAt_some

abbrev Z27 : Obj := .cells #[.int .i64 0, .slice none 0 0, .slice none 0 0] 32
set_option maxHeartbeats 8000000 in
set_option maxRecDepth 20000 in
theorem exchange_any (v : Value) (d : Dr) (s : ByteArray) (ac : Option Addr) (cc : Nat) (come : List Nm) (k : Nat) (w : World) (hsm : Sml d) (hG : GS d) (hs : s.size ≤ 9223372036854775807) (hcm : come.length ≤ 1) (hcn : Nms w ac come) (hk : AtN (bkL d s) s k) (hc : DirAt w v d) :
    Calls Try.prog 42 #[v, .string s, .slice ac come.length cc] w fun e w' => Below w.heap.size w w' ∧ ∃ v', e = .returned v' ∧ DOwn w' w.heap.size w'.heap.size v' (exD d (bkN d s) (exR (bkL d s) s k come)) := by
  obtain ⟨a, ca, a', ca', rfl, hca, hca', ha, ha'⟩ := hc
  have HD : Hid (∀ W, Below w.heap.size w W → DirAt W (dv d.dp a d.sl.length ca a' d.bs.length ca') d) := fun W h => ⟨a, ca, a', ca', rfl, hca, hca', ha.below h, ha'.below h⟩
  obtain ⟨cs, hcs, hcsrc⟩ := ha'.cells
  have hisrc := At.src ha
  have HBk : Hid (Bks w a' d.bs) := ha'
  clear ha ha' hca hca'
  have hs1 := hsm.1
  have hs2 := hsm.2.1
  have HG : Hid (GS d) := hG
  have HCs : Hid (BkCs w d.bs cs) := hcs
  have hcl := hcs.1
  have hc1 := hcs.2.1
  clear hcs hsm hG
  unfold dv at *
  obtain ⟨DP, hDP⟩ : ∃ DP, d.dp = DP := ⟨_, rfl⟩
  obtain ⟨n, hn⟩ : ∃ n, d.sl.length = n := ⟨_, rfl⟩
  obtain ⟨m, hm⟩ : ∃ m, d.bs.length = m := ⟨_, rfl⟩
  have HDP : Hid _ := hDP
  have Hn : Hid _ := hn
  have Hm : Hid _ := hm
  have hil : (cis d.sl).length = n := by rw [cis_len, hn]
  rw [hDP, hn, hm] at HD ⊢
  rw [hn] at hs1 hisrc
  rw [hm] at hs2 hcsrc hcl
  clear hDP hn hm
  obtain ⟨W0, hW0⟩ : ∃ W0, (w.alloc (.cells #[.int .i64 DP, .slice a n ca, .slice a' m ca'] 32)).alloc Z27 = W0 := ⟨_, rfl⟩
  have q0 : Below w.heap.size w W0 := by subst hW0; exact ba2 _ _ _
  obtain ⟨B1, B2⟩ : W0.heap[w.heap.size]? = some (.cells #[.int .i64 DP, .slice a n ca, .slice a' m ca'] 32 (0, 0)) ∧ W0.heap[w.heap.size + 1]? = some (.cells #[.int .i64 0, .slice none 0 0, .slice none 0 0] 32 (0, 0)) := by subst hW0; exact al2 _ _ _
  have HA : Hid _ := B1
  have HB : Hid _ := B2
  have z0 := box_lt B2
  have hsrc_on : ∀ {W : World} {x : Option Addr} {q : Nat} {l : List Value}, (q = 0 ∨ ∃ ad, x = some ad ∧ ∀ j u, l[j]? = some u → w.cell? (ad.add j) = some u) → Below w.heap.size w W → (q = 0 ∨ ∃ ad, x = some ad ∧ ∀ j u, l[j]? = some u → W.cell? (ad.add j) = some u) := fun h hb => by
    rcases h with h | ⟨ad, e, h⟩
    · exact .inl h
    · exact .inr ⟨ad, e, fun j u hj => by have := h j u hj; rw [hb.cell (p := ad.add j) (World.block_lt_of_cell? w _ this)]; exact this⟩
  have HcI : Hid (∀ W, Below w.heap.size w W → Calls Try.prog 70 #[.slice a n ca] W fun e w' => Below W.heap.size W w' ∧ e = .returned (.slice (some ⟨W.heap.size, 0, none⟩) n n) ∧ w'.heap[W.heap.size]? = some (.cells (cis d.sl).toArray 3 (0, 0))) := fun W h => copyInt_any a ca n (cis d.sl) W hil (cis_one _) hs1 (hsrc_on hisrc h)
  have HcB : Hid (∀ W, Below w.heap.size w W → Calls Try.prog 71 #[.slice a' m ca'] W fun e w' => Below W.heap.size W w' ∧ e = .returned (.slice (some ⟨W.heap.size, 0, none⟩) m m) ∧ w'.heap[W.heap.size]? = some (.cells cs.toArray 63 (0, 0))) := fun W h => copyBk_any a' ca' m cs W hcl hc1 hs2 (hsrc_on hcsrc h)
  clear hsrc_on hisrc hcsrc hil hc1
  have SB : Hid (∀ W, Below W0.heap.size W0 W → W.cell? ⟨w.heap.size, 0, none⟩ = some (.int .i64 DP) ∧ W.cell? ⟨w.heap.size, 1, none⟩ = some (.slice a n ca) ∧ W.cell? ⟨w.heap.size, 2, none⟩ = some (.slice a' m ca') ∧ Below W0.heap.size W0 W) := fun W z => ⟨(box3_cells (box_on HA.out z)).1, (box3_cells (box_on HA.out z)).2.1, (box3_cells (box_on HA.out z)).2.2.1, z⟩
  clear B1 B2
  go_enter Try.func42, Try.ntmps42
  go_upto_region 1 with fail
  clear hW0
  go_cut [7] (fun sx wx => ∃ F gI gB, sx = .pointer (some ⟨F, 0, none⟩) ∧ wx.heap[F]? = some (.cells #[.int .i64 DP, .slice (some ⟨gI, 0, none⟩) n n, .slice (some ⟨gB, 0, none⟩) m m] 32 (0, 0)) ∧ wx.heap[gI]? = some (.cells (cis d.sl).toArray 3 (0, 0)) ∧ wx.heap[gB]? = some (.cells cs.toArray 63 (0, 0)) ∧ W0.heap.size ≤ F ∧ W0.heap.size ≤ gI ∧ W0.heap.size ≤ gB ∧ Below W0.heap.size W0 wx)
  case first =>
    go_region_held3 (fun W => W.cell? ⟨w.heap.size, 0, none⟩ = some (.int .i64 DP) ∧ W.cell? ⟨w.heap.size, 1, none⟩ = some (.slice a n ca) ∧ W.cell? ⟨w.heap.size, 2, none⟩ = some (.slice a' m ca') ∧ Below W0.heap.size W0 W)
      ((refine SB.out _ ?_; first | assumption | exact Below.drew (Below.refl _ _) | exact Below.drew (below_alloc _ _) | exact below_alloc _ _ | exact Below.comp bB (below_alloc _ _) | exact Below.comp bA (below_alloc _ _) | exact ((bB.setCell (Nat.le_refl _) _).setCell (Nat.le_refl _) _).setCell (Nat.le_refl _) _ | exact ((bB.setCell bA.size _).setCell bA.size _).setCell bA.size _))
      (first
      | (go_at_call 70; obtain ⟨-, -, -, hw0⟩ := ‹_ ∧ _ ∧ _ ∧ Below W0.heap.size W0 _›; refine (HcI.out _ (Below.comp q0 hw0)).mono ?_; rintro e w3 ⟨b3, rfl, hI3⟩; (first | (have hF3 : w3.heap[W0.heap.size]? = some (.cells #[.int .i64 0, .slice none 0 0, .slice none 0 0] 32 (0, 0)) := box_on (w := (W0.alloc Z27).drew) (al1 W0 _) b3) | skip); have bA := Below.comp hw0 b3)
      | (go_at_call 71; refine (HcB.out _ (by first | exact Below.comp q0 bA | exact Below.comp q0 (Below.comp bA (below_alloc _ _)))).mono ?_; rintro e w4 ⟨b4, rfl, hB4⟩; (first | (have hI4 := box_on hI3 b4) | (have hI4 := box_on (box_on hI3 (below_alloc _ Z27)) b4)); (first | (have hF4 := box_on hF3 b4; obtain ⟨f0, f1, f2, f3, f4, f5⟩ := box3_cells hF4) | (have hF4 := box_on (al1 w3 Z27) b4; obtain ⟨f0, f1, f2, f3, f4, f5⟩ := box3_cells hF4) | skip); have bB : Below W0.heap.size W0 w4 := (by first | exact Below.comp bA b4 | exact Below.comp (Below.comp bA (below_alloc _ _)) b4)))
    all_goals go_wp2_with fail
    all_goals go_meet
    all_goals
      have y3 := box_lt hI3
      have y4 := b4.size
      have y5 := box_lt hB4
      have y6 := b3.size
      simp at hI4 hB4 y3 y4 y5 y6
    · exact ⟨w4.heap.size, W0.heap.size, w3.heap.size, rfl, al1 w4 _, box_on hI4 (below_alloc _ _), box_on hB4 (below_alloc _ _), bB.size, Nat.le_refl _, bA.size, Below.comp bB (below_alloc _ _)⟩
    · exact ⟨w3.heap.size, W0.heap.size, w3.heap.size + 1, rfl, box3_set hF4, box_out hI4 (box3_out _ _ _ _ _) (by omega), box_out hB4 (box3_out _ _ _ _ _) (by omega), by omega, Nat.le_refl _, by omega, bB.trans (((box3_out _ _ _ _ _).below (by omega)).mono (by omega))⟩
    · exact ⟨W0.heap.size, W0.heap.size + 1, w3.heap.size, rfl, box3_set hF4, box_out hI4 (box3_out _ _ _ _ _) (by omega), box_out hB4 (box3_out _ _ _ _ _) (by omega), Nat.le_refl _, by omega, by omega, bB.trans (((box3_out _ _ _ _ _).below (by omega)).mono (by omega))⟩
  case rest =>
    obtain ⟨F, gI, gB, rfl, hF, hI, hB, hF1, hI1, hB1, b1⟩ := hcut
    generalize wc = w1 at *
    have HF : Hid (w1.heap[F]? = some (.cells #[.int .i64 DP, .slice (some ⟨gI, 0, none⟩) n n, .slice (some ⟨gB, 0, none⟩) m m] 32 (0, 0))) := hF
    have HI : Hid (w1.heap[gI]? = some (.cells (cis d.sl).toArray 3 (0, 0))) := hI
    have HB1 : Hid (w1.heap[gB]? = some (.cells cs.toArray 63 (0, 0))) := hB
    have hFB : F ≠ gB := fun e => by rw [e, hB] at hF; simp at hF
    have hIB : gI ≠ gB := fun e => by rw [e, hB] at hI; simp at hI
    have zF := box_lt hF
    have zI := box_lt hI
    have zB := box_lt hB
    have HFB : Hid _ := hFB
    have HIB : Hid _ := hIB
    clear hF hI hB hFB hIB SB HcI HcB
    have g1 := Below.comp q0 b1
    obtain ⟨x0, x1, x2, -, -, -⟩ := box3_cells (box_on HA.out b1)
    go_wp2_with fail
    clear x0 x1 x2
    go_loopw [23] (fun i wr => ∃ (kk : Nat) (c : Array Value) (kb : Nat → Nat), kk ≤ m ∧ i = .int .i64 kk ∧ Hid (wr.heap[gB]? = some (.cells c 63 (0, 0))) ∧ c.size = m * 2 ∧ Hid (BksIn wr w1.heap.size wr.heap.size c kb d.bs kk) ∧ Hid (∀ i, kk ≤ i → i < m → c[i * 2]? = some (.int .i64 (gb d.bs i).dp)) ∧ Hid (∀ r, r < kk → w1.heap.size ≤ kb r ∧ kb r < wr.heap.size ∧ ∀ r', r' < r → kb r' < kb r) ∧ Out gB (gB + 1) w1 wr) (fun i _ => m - (intOf i).toNat)
    case atStart => exact ⟨0, cs.toArray, fun _ => 0, Nat.zero_le _, rfl, HB1, by simpa using hcl, fun i hi => absurd hi (by omega), fun i _ hi => by have := (HCs.out.2.2 i (by rw [Hm.out]; exact hi)).1; simpa using this, fun r hr => absurd hr (by omega), Out.refl _ _ _⟩
    case round =>
      obtain ⟨kk, c, kb, hkk, rfl, HC, hcs, HBs, HDp, HKb, ho⟩ := hrel
      have hbw : Below w.heap.size w wr := g1.trans ((ho.below (by omega)).mono (by have := q0.size; omega))
      have hzr := ho.size
      by_cases hlt : kk < m
      · obtain ⟨bb, boff, rfl, hbc⟩ := HBk.out (by rw [Hm.out]; omega)
        obtain ⟨na, nc, y0, y1, y2, y3⟩ := (hbc kk (by rw [Hm.out]; exact hlt)).below hbw
        have hlen := (good_names HG.out (j := kk) (by rw [Hm.out]; exact hlt)).1
        have hdp := HDp.out kk (Nat.le_refl _) hlt
        clear hbc y3
        obtain ⟨nd, hnd⟩ : ∃ nd, gb d.bs kk = nd := ⟨_, rfl⟩
        have Hnd : Hid _ := hnd
        rw [hnd] at y0 y1 y2 hlen hdp
        clear hnd
        obtain ⟨dk, l⟩ := nd
        simp only at y0 y1 y2 hlen hdp
        have Hdp : Hid _ := hdp
        clear hdp
        obtain ⟨E, hE⟩ : ∃ E, wr.heap.size = E := ⟨_, rfl⟩
        obtain ⟨W2, hW2⟩ : ∃ W2, wr.alloc (.cells #[.int .i64 dk, .slice na l.length nc] 63) = W2 := ⟨_, rfl⟩
        have b2 : Below wr.heap.size wr W2 := by subst hW2; exact below_alloc _ _
        have HE : Hid (W2.heap[E]? = some (.cells #[.int .i64 dk, .slice na l.length nc] 63 (0, 0))) := by subst hW2 hE; exact al1 _ _
        have hEB : gB < E := by rw [← hE]; omega
        have HF2 : Hid (W2.heap[F]? = some (.cells #[.int .i64 DP, .slice (some ⟨gI, 0, none⟩) n n, .slice (some ⟨gB, 0, none⟩) m m] 32 (0, 0))) := box_on (box_out HF.out ho (by have : F ≠ gB := HFB.out; omega)) b2
        have HC2 : Hid (W2.heap[gB]? = some (.cells c 63 (0, 0))) := box_on HC.out b2
        have cN := fun W h => copyNm_any na nc l.length (cns l) W (cns_len l) (cns_one l) (by omega) h
        have Hy2 : Hid (Nms W2 na l) := y2.below b2
        have SB5 : Hid (∀ W, Out gB (gB + 1) W2 W → W.cell? ⟨F, 2, none⟩ = some (.slice (some ⟨gB, 0, none⟩) m m) ∧ W.cell? ⟨E, 1, none⟩ = some (.slice na l.length nc) ∧ Out gB (gB + 1) W2 W) := fun W z => ⟨(box3_cells (box_out HF2.out z (by have : F ≠ gB := HFB.out; omega))).2.2.1, (box2_cells (box_out HE.out z (by omega))).2.1, z⟩
        have hkm : (kk : Int) < (m : Int) := by omega
        obtain ⟨nl, hnl⟩ : ∃ nl, l.length = nl := ⟨_, rfl⟩
        have Hnl : Hid _ := hnl
        rw [hnl] at y1 cN SB5 hlen hW2 HE
        clear hnl y2
        go_wp2_with fail
        clear y0 y1 hW2
        go_region_held3 (fun W => W.cell? ⟨F, 2, none⟩ = some (.slice (some ⟨gB, 0, none⟩) m m) ∧ W.cell? ⟨E, 1, none⟩ = some (.slice na nl nc) ∧ Out gB (gB + 1) W2 W)
          ((refine SB5.out _ ?_; first | assumption | exact Out.of_below (Below.drew (Below.refl _ _)) | exact oA.setCell (Nat.le_refl _) (Nat.lt_succ_self _) _ _))
          (first
          | (go_at_call 72; obtain ⟨-, -, hw0⟩ := ‹_ ∧ _ ∧ Out gB (gB + 1) W2 _›; refine (cN _ (by have := Nms.src (Hy2.out.below (Below.drew (Below.refl _ _))); rw [Hnl.out] at this; exact this)).mono ?_; rintro e w5 ⟨b5, rfl, hN5⟩; have oA : Out gB (gB + 1) W2 w5 := hw0.trans (Out.of_below b5); have HC5 : Hid (w5.heap[gB]? = some (.cells c 63 (0, 0))) := box_on (w := W2.drew) HC2.out b5; have e1 : w5.cell? ⟨gB, kk * 2 + 1, none⟩ = some c[kk * 2 + 1] := cell_of_block HC5.out (by simp); have e2 := free_of_block (i := kk * 2 + 1) HC5.out))
        go_wp2_with fail
        go_round
        case rel =>
          have hn := Hnl.out
          subst hn
          have b25 := Below.comp (Below.drew b2) b5
          simp at b5 hN5
          have hE' : E = wr.heap.size := hE.symm
          subst hE'
          have z2 := b2.size
          have z5 : W2.heap.size ≤ w5.heap.size := b5.size
          have hz3 : w5.heap.size ≤ (w5.setCell ⟨gB, kk * 2 + 1, none⟩ (.slice (some ⟨W2.heap.size, 0, none⟩) l.length l.length)).heap.size := by simp
          have hg5 := box_lt hN5
          have o5 : Out gB (gB + 1) w1 w5 := ho.trans ((Out.of_below b2).trans oA)
          have m5 : NB w5 w1.heap.size w5.heap.size (.slice (some ⟨W2.heap.size, 0, none⟩) l.length l.length) l W2.heap.size := ⟨_, _, rfl, Nat.le_refl _, fun _ => ⟨rfl, by omega, hg5, _, hN5, fun i hi => by have := cns_at l i hi; simpa using this⟩⟩
          refine ⟨kk + 1, _, kbPut kb kk W2.heap.size, by omega, by go_num, block_set HC5.out, by simpa using hcs, ?_, ?_, ?_, o5.setCell (Nat.le_refl _) (Nat.lt_succ_self _) _ _⟩
          · have hkb' : ∀ r, r < kk → kb r ≠ gB := fun r hr => by have h : w1.heap.size ≤ kb r := (HKb.out r hr).1; omega
            have := BksIn.put1 (HBs.out.below b25) ((Out.refl _ _ _).setCell (Nat.le_refl _) (Nat.lt_succ_self _) (kk * 2 + 1) (.slice (some ⟨W2.heap.size, 0, none⟩) l.length l.length)) (C' := w5.heap.size) (by omega) (by omega) (by rw [Hnd.out]; exact Hdp.out) hkb' (by rw [Hnd.out]; exact m5) (by omega)
            show BksIn _ _ _ _ _ _ _
            simpa using this
          · intro i hi1 hi2
            rw [set_ne (by omega)]
            exact HDp.out i (by omega) hi2
          · intro r hr
            by_cases e0 : r = kk
            · subst e0
              rw [kbPut_0]
              exact ⟨by omega, Nat.lt_of_lt_of_le hg5 hz3, fun r' hr' => by rw [kbPut_ne _ _ _ (by omega)]; have := (HKb.out r' hr').2.1; omega⟩
            · have hr2 : r < kk := by omega
              rw [kbPut_ne _ _ _ e0]
              obtain ⟨u1, u2, u3⟩ := HKb.out r hr2
              exact ⟨u1, Nat.lt_of_lt_of_le (by omega : kb r < w5.heap.size) hz3, fun r' hr' => by rw [kbPut_ne _ _ _ (by omega)]; exact u3 r' hr'⟩
        case measure => simp [intOf]; omega
      · have hkm : kk = m := by omega
        subst hkm
        have hj := (good_bk HG.out s).2
        obtain ⟨h4, hris⟩ := good_names HG.out hj
        obtain ⟨bb, boff, rfl, hbc⟩ := HBk.out (by omega)
        have HBc := hbc _ hj
        rw [Hm.out] at hj
        have hgW := q0.size
        have HAr : Hid (wr.heap[w.heap.size]? = some (.cells #[.int .i64 DP, .slice a n ca, .slice (some ⟨bb, boff, none⟩) kk ca'] 32 (0, 0))) := box_out (box_on HA.out b1) ho (by omega)
        have HBr : Hid (wr.heap[w.heap.size + 1]? = some Z27) := box_out (box_on HB.out b1) ho (by omega)
        have HFr : Hid (wr.heap[F]? = some (.cells #[.int .i64 DP, .slice (some ⟨gI, 0, none⟩) n n, .slice (some ⟨gB, 0, none⟩) kk kk] 32 (0, 0))) := box_out HF.out ho (by have : F ≠ gB := HFB.out; omega)
        have HIr : Hid (wr.heap[gI]? = some (.cells (cis d.sl).toArray 3 (0, 0))) := box_out HI.out ho (by have : gI ≠ gB := HIB.out; omega)
        have cB : Calls Try.prog 64 #[.agg #[.int .i64 DP, .slice a n ca, .slice (some ⟨bb, boff, none⟩) kk ca'], .string s] wr (fun e w' => e = .returned (.int .i64 (bkN d s : Nat)) ∧ Below wr.heap.size wr w') := by have := bucketFor_any _ d s wr HG.out.1 hs (HD.out wr hbw); rw [bkOf_is HG.out] at this; exact this
        have hbb : bb < w.heap.size := by obtain ⟨_, _, q, _⟩ := HBc; exact World.block_lt_of_cell? w _ q
        clear hbc HD HA HB HF HI HB1 HCs HBk HDp hcl
        obtain ⟨x0, x1, x2, -, -, -⟩ := box3_cells HAr.out
        have HL : Hid (bkL d s = (gb d.bs (bkN d s)).ns) := rfl
        unfold bkL at hk
        obtain ⟨j, hjj⟩ : ∃ j, bkN d s = j := ⟨_, rfl⟩
        have Hj : Hid _ := hjj
        rw [hjj] at hj h4 hris HBc hk cB HL
        clear hjj
        obtain ⟨l, hl⟩ : ∃ l, (gb d.bs j).ns = l := ⟨_, rfl⟩
        have Hl : Hid _ := hl
        rw [hl] at h4 hris hk
        go_wp2_with fail
        refine cB.mono ?_
        rintro e w6 ⟨rfl, b6⟩
        clear cB x0 x1 x2
        obtain ⟨na, nc, y0, y1, y2, y3⟩ := HBc.below (Below.comp hbw b6)
        rw [hl] at y1 y2 y3
        clear y0 hl HBc
        have HX : Hid (∀ W, Below w6.heap.size w6 W → Calls Try.prog 73 #[.slice na l.length nc, .string s, .slice ac come.length cc] W fun e w' => Below W.heap.size W w' ∧ ∃ x c g, e = .returned (.slice x (exR l s k come).length c) ∧ NB w' W.heap.size w'.heap.size (.slice x (exR l s k come).length c) (exR l s k come) g) := fun W h => exchangeIn_any na ac nc cc k s l come W (by omega) hcm y3 (y2.below h) (hcn.below (Below.comp (Below.comp hbw b6) h)) hris hk
        clear y2 hris y3 hk
        obtain ⟨nl, hnl⟩ : ∃ nl, l.length = nl := ⟨_, rfl⟩
        have Hnl : Hid _ := hnl
        rw [hnl] at y1 HX h4
        clear hnl
        have HF7 : Hid (w6.heap[F]? = some (.cells #[.int .i64 DP, .slice (some ⟨gI, 0, none⟩) n n, .slice (some ⟨gB, 0, none⟩) kk kk] 32 (0, 0))) := box_on HFr.out b6
        have HC7 : Hid (w6.heap[gB]? = some (.cells c 63 (0, 0))) := box_on HC.out b6
        have HA7 : Hid (w6.heap[w.heap.size]? = some (.cells #[.int .i64 DP, .slice a n ca, .slice (some ⟨bb, boff, none⟩) kk ca'] 32 (0, 0))) := box_on HAr.out b6
        have hz6 := b6.size
        have SB13 : Hid (∀ W, Out gB (gB + 1) w6 W → W.cell? ⟨F, 2, none⟩ = some (.slice (some ⟨gB, 0, none⟩) kk kk) ∧ W.cell? ⟨w.heap.size, 2, none⟩ = some (.slice (some ⟨bb, boff, none⟩) kk ca') ∧ W.cell? ⟨bb, boff + j * 2 + 1, none⟩ = some (.slice na nl nc) ∧ Out gB (gB + 1) w6 W) := fun W z => ⟨(box3_cells (box_out HF7.out z (by have : F ≠ gB := HFB.out; omega))).2.2.1, (box3_cells (box_out HA7.out z (by omega))).2.2.1, by rw [(z.below (by omega)).cell (p := ⟨bb, boff + j * 2 + 1, none⟩) (show bb < gB by omega)]; exact y1, z⟩
        clear y1
        have hjm : (j : Int) < (kk : Int) := by omega
        go_wp2_with fail
        go_region_held3 (fun W => W.cell? ⟨F, 2, none⟩ = some (.slice (some ⟨gB, 0, none⟩) kk kk) ∧ W.cell? ⟨w.heap.size, 2, none⟩ = some (.slice (some ⟨bb, boff, none⟩) kk ca') ∧ W.cell? ⟨bb, boff + j * 2 + 1, none⟩ = some (.slice na nl nc) ∧ Out gB (gB + 1) w6 W)
          ((refine SB13.out _ ?_; first | assumption | exact Out.of_below (Below.drew (Below.refl _ _)) | exact Out.of_below (Below.refl _ _) | exact oA.setCell (Nat.le_refl _) (Nat.lt_succ_self _) _ _))
          (first
          | (go_at_call 73; refine (HX.out _ (Below.drew (Below.refl _ _))).mono ?_; rintro e w8 ⟨b8, x, cx, g, rfl, hN8⟩; have b78 : Below w6.heap.size w6 w8 := Below.comp (Below.drew (Below.refl w6.heap.size w6)) b8; have oA : Out gB (gB + 1) w6 w8 := Out.of_below b78; have HC8 : Hid (w8.heap[gB]? = some (.cells c 63 (0, 0))) := box_on HC7.out b78; have e1 : w8.cell? ⟨gB, j * 2 + 1, none⟩ = some c[j * 2 + 1] := cell_of_block HC8.out (by simp); have e2 := free_of_block (i := j * 2 + 1) HC8.out))
        obtain ⟨ws, hws⟩ : ∃ ws, w8.setCell ⟨gB, j * 2 + 1, none⟩ (.slice x (exR l s k come).length cx) = ws := ⟨_, rfl⟩
        rw [hws]
        have os : Out gB (gB + 1) wr ws := by subst hws; exact ((Out.of_below b6).trans oA).setCell (Nat.le_refl _) (Nat.lt_succ_self _) _ _
        have hFs := box_out HFr.out os (by have : F ≠ gB := HFB.out; omega)
        have hBs := box_out HBr.out os (by omega)
        obtain ⟨x0, x1, x2, -, -, -⟩ := box3_cells hFs
        obtain ⟨f0, f1, f2, f3, f4, f5⟩ := box3_cells hBs
        have HW : Hid _ := hws
        clear hws e1 e2
        go_wp2_with fail
        have hz8 := b78.size
        have o9 : Out (w.heap.size + 1) (w.heap.size + 2) ws (((ws.setCell ⟨w.heap.size + 1, 0, none⟩ (.int .i64 DP)).setCell ⟨w.heap.size + 1, 1, none⟩ (.slice (some ⟨gI, 0, none⟩) n n)).setCell ⟨w.heap.size + 1, 2, none⟩ (.slice (some ⟨gB, 0, none⟩) kk kk)) := box3_out _ _ _ _ _
        have hN10 := hN8.mono (B' := w6.heap.size) (C' := w8.heap.size) (by simp) (Nat.le_refl _)
        obtain ⟨t0, t1, t2, -, -, -⟩ := box3_cells (box3_set hBs (x0 := .int .i64 DP) (x1 := .slice (some ⟨gI, 0, none⟩) n n) (x2 := .slice (some ⟨gB, 0, none⟩) kk kk))
        refine bodyPost_ret (v := .agg #[.int .i64 DP, .slice (some ⟨gI, 0, none⟩) n n, .slice (some ⟨gB, 0, none⟩) kk kk]) (by simp [results, Try.results42, go_sem, t0, t1, t2]) rfl ⟨?_, _, rfl, ?_⟩
        · exact hbw.trans (((os.below (by omega)).mono (by omega)).trans ((o9.below (by have := box_lt hBs; omega)).mono (by omega)))
        · rw [HL.out, Hj.out, Hl.out]
          exact ex_own (w1 := w1) (w8 := w8) (kb := kb) (c := c) (D := w6.heap.size) HDP.out Hn.out Hm.out hj (box_on (box_on HIr.out b6) b78) HC8.out hcs ((HBs.out.below (Below.comp b6 b78)).mono (Nat.le_refl _) (by omega)) (fun r hr => by obtain ⟨u1, u2, u3⟩ := HKb.out r hr; exact ⟨u1, by omega, u3⟩) hN10 (by omega) zI zB HIB.out (by omega) (by omega) (by omega) (by omega) HW.out.symm o9
end Go.Proofs.Ytfmgaenedkjmkaa
