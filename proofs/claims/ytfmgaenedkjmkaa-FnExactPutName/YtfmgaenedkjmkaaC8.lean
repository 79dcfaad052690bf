import Derived.Test.YtfmgaenedkjmkaaC7
import Derived.Test.YtfmgaenedkjmkaaOL
import Derived.Deep.DeepCutAuto
/- The specification: a name that goes. -/
namespace Go.Proofs.Ytfmgaenedkjmkaa
open Go.ChangeShapes Go.WideShapes Go.ChangeAt Go.RowKit
set_option linter.unusedVariables false
open Hd

attribute [local go_sem] Oper.semAt_some

set_option maxHeartbeats 8000000 in
set_option maxRecDepth 20000 in
theorem specDrop_any (v : Value) (d : Dr) (s : ByteArray) (w : World) (hsm : Sml d) (hf : FewD d) (hs : s.size ≤ 9223372036854775807) (hc : DirAt w v d) {D : Dr} {B : Bool} (hDB : DpOk d s D B) :
    Calls Try.prog 15 #[v, .string s] w fun e w' => Below w.heap.size w w' ∧ ∃ v', e = .returned (.tuple #[v', .bool B]) ∧ DOwn w' w.heap.size w'.heap.size v' D := by
  obtain ⟨g, hg⟩ := tel_ex (GS d)
  have cG : ∀ W x, DirAt W x d → Calls Try.prog 28 #[x] W (fun e w' => e = .returned (.bool g) ∧ Below W.heap.size W w') := fun W x h => (specGood_any x d W hsm hf h).mono (fun e w' q => ⟨q.1.is hg, q.2⟩)
  have cN := fun W => l8Name_any s W hs
  have HBu : Hid (∀ W x, GS d → DirAt W x d → Calls Try.prog 32 #[x, .string s] W (fun e w' => e = .returned (.int .i64 (bkN d s : Nat)) ∧ Below W.heap.size W w')) := fun W x h hd => by have := l8Bucket_any x d s W h.1 hs hd; rw [bkOf_is h] at this; exact this
  have HOw : Hid (∀ W x, GS d → DirAt W x d → Calls Try.prog 31 #[x] W fun e w' => Below W.heap.size W w' ∧ ∃ v', e = .returned v' ∧ DOwn w' W.heap.size w'.heap.size v' d) := fun W x h hd => l8Own_any x d W hsm (fun i hi => by have := (good_names h hi).1; omega) hd
  have HZ : Hid (B = false → D = ⟨0, [], []⟩) := hDB.2.1
  have HNo : Hid (g = false ∨ isN s = false → B = false) := fun h => hDB.1 (fun q => by
    rcases h with h | h
    · have := hg.2 q.1; rw [h] at this; cases this
    · rw [h] at q; exact absurd q.2 (by simp))
  have HYes : Hid (g = true → isN s = true → GS d ∧ ∃ k, AtN (bkL d s) s k ∧ B = hasN (bkL d s) s k ∧ (B = true → D = exD d (bkN d s) (exR (bkL d s) s k []))) := fun h h' => ⟨hg.1 h, hDB.2.2 (hg.1 h) h'⟩
  obtain ⟨a, c, a', c', rfl, hca, hca', ha, ha'⟩ := hc
  have HD : Hid (∀ W, Below w.heap.size w W → DirAt W (dv d.dp a d.sl.length c a' d.bs.length c') d) := fun W h => ⟨a, c, a', c', rfl, hca, hca', ha.below h, ha'.below h⟩
  clear ha ha' hca hca' hg hsm hf hDB
  unfold dv at *
  obtain ⟨DP, hDP⟩ : ∃ DP, d.dp = DP := ⟨_, rfl⟩
  obtain ⟨n, hn⟩ : ∃ n, d.sl.length = n := ⟨_, rfl⟩
  obtain ⟨m, hm⟩ : ∃ m, d.bs.length = m := ⟨_, rfl⟩
  have HDP : Hid _ := hDP
  have Hn : Hid _ := hn
  have Hm : Hid _ := hm
  rw [hDP, hn, hm] at HD ⊢
  clear hDP hn hm
  obtain ⟨o, ho⟩ : ∃ o, isN s = o := ⟨_, rfl⟩
  have Ho : Hid _ := ho
  rw [ho] at cN HNo HYes
  clear ho
  obtain ⟨W0, hW0⟩ : ∃ W0, (w.alloc (.cells #[.int .i64 DP, .slice a n c, .slice a' m c'] 32)).alloc Z27 = W0 := ⟨_, rfl⟩
  have q0 : Below w.heap.size w W0 := by subst hW0; exact ba2 _ _ _
  obtain ⟨B1, B2⟩ : W0.heap[w.heap.size]? = some (.cells #[.int .i64 DP, .slice a n c, .slice a' m c'] 32 (0, 0)) ∧ W0.heap[w.heap.size + 1]? = some (.cells #[.int .i64 0, .slice none 0 0, .slice none 0 0] 32 (0, 0)) := by subst hW0; exact al2 _ _ _
  have HA : Hid _ := B1
  have HB : Hid _ := B2
  have z0 := box_lt B2
  obtain ⟨x0, x1, x2, -, -, -⟩ := box3_cells B1
  clear B1 B2
  go_enter Try.func15, Try.ntmps15
  go_wp2_with fail
  refine (cG _ _ (HD.out _ q0)).mono ?_
  rintro e w1 ⟨rfl, b1⟩
  have g1 := Below.comp q0 b1
  clear x0 x1 x2 hW0 cG
  have z1 := b1.size
  have HA1 : Hid (w1.heap[w.heap.size]? = some (.cells #[.int .i64 DP, .slice a n c, .slice a' m c'] 32 (0, 0))) := box_on HA.out b1
  have HB1 : Hid (w1.heap[w.heap.size + 1]? = some Z27) := box_on HB.out b1
  clear HA HB
  have HNO : Hid (∀ W, Below w.heap.size w W → W.heap[w.heap.size + 1]? = some Z27 → B = false → Below w.heap.size w (((W.setCell ⟨w.heap.size + 1, 0, none⟩ (.int .i64 0)).setCell ⟨w.heap.size + 1, 1, none⟩ (.slice none 0 0)).setCell ⟨w.heap.size + 1, 2, none⟩ (.slice none 0 0)) ∧ ∃ v', Ending.returned (.tuple #[.agg #[.int .i64 0, .slice none 0 0, .slice none 0 0], .bool false]) = .returned (.tuple #[v', .bool B]) ∧ DOwn (((W.setCell ⟨w.heap.size + 1, 0, none⟩ (.int .i64 0)).setCell ⟨w.heap.size + 1, 1, none⟩ (.slice none 0 0)).setCell ⟨w.heap.size + 1, 2, none⟩ (.slice none 0 0)) w.heap.size (((W.setCell ⟨w.heap.size + 1, 0, none⟩ (.int .i64 0)).setCell ⟨w.heap.size + 1, 1, none⟩ (.slice none 0 0)).setCell ⟨w.heap.size + 1, 2, none⟩ (.slice none 0 0)).heap.size v' D) := fun W hW hb hB => by
    have := box_lt hb
    refine ⟨hW.trans ((box3_out _ _ _ _ _).below (by omega) |>.mono (by omega)), _, by rw [hB], ?_⟩
    rw [HZ.out hB]
    exact own_zero _ _ _
  cases g with
  | false =>
    have hB := HNo.out (by simp)
    obtain ⟨f0, f1, f2, f3, f4, f5⟩ := box3_cells HB1.out
    go_wp2_with fail
    obtain ⟨t0, t1, t2, -, -, -⟩ := box3_cells (box3_set HB1.out (x0 := .int .i64 0) (x1 := .slice none 0 0) (x2 := .slice none 0 0))
    exact bodyPost_ret (v := .tuple #[.agg #[.int .i64 0, .slice none 0 0, .slice none 0 0], .bool false]) (by simp [results, Try.results15, go_sem, t0, t1, t2]) rfl (HNO.out _ g1 HB1.out hB)
  | true =>
    go_wp2_with fail
    refine (cN _).mono ?_
    rintro e w2 ⟨rfl, hww⟩
    have hww := hww.symm
    subst hww
    cases o with
    | false =>
      have hB := HNo.out (by simp)
      obtain ⟨f0, f1, f2, f3, f4, f5⟩ := box3_cells HB1.out
      go_wp2_with fail
      obtain ⟨t0, t1, t2, -, -, -⟩ := box3_cells (box3_set HB1.out (x0 := .int .i64 0) (x1 := .slice none 0 0) (x2 := .slice none 0 0))
      exact bodyPost_ret (v := .tuple #[.agg #[.int .i64 0, .slice none 0 0, .slice none 0 0], .bool false]) (by simp [results, Try.results15, go_sem, t0, t1, t2]) rfl (HNO.out _ g1 HB1.out hB)
    | true =>
      obtain ⟨hG, k, hk, hBh, hDk⟩ := HYes.out (by simp) (by simp)
      have HGd : Hid (GS d) := hG
      have HDk : Hid _ := hDk
      have HBh : Hid _ := hBh
      have hj := (good_bk hG s).2
      obtain ⟨h4, hris⟩ := good_names hG hj
      have cO := HOw.out w1 _ hG (HD.out _ g1)
      have cB := fun W x h => HBu.out W x hG h
      clear HNo HYes hG hDk hBh HBu HOw HD cN
      obtain ⟨x0, x1, x2, x3, x4, x5⟩ := box3_cells HA1.out
      go_wp2_with fail
      refine cO.mono ?_
      rintro e w3 ⟨b3, v3, rfl, own3⟩
      clear cO x0 x1 x2 x3 x4 x5
      have own3' := own3
      obtain ⟨xi, aa, cc, gs, rfl, h1, h2, h3⟩ := own3
      have h2' := h2
      obtain ⟨ai, ci, rfl, -, -⟩ := h2'
      have hbs0 : d.bs ≠ [] := fun q => by rw [q] at hj; exact absurd hj (by simp)
      obtain ⟨gB, cs, kb, k1, k2, rfl, k4, k5, k6, k7⟩ := h3 hbs0
      have hA3 := box_on HA1.out b3
      have z3 := b3.size
      have hgsC : d.sl = [] → gs < w3.heap.size := fun q => by
        have := HGd.out.1.2.2
        rw [q] at this
        have h2 := Nat.pos_of_ne_zero (n := 2 ^ d.dp.toNat) (by simp)
        simp at this
        omega
      have K4 : Hid _ := k4
      have K5 : Hid _ := k5
      have K6 : Hid _ := k6
      have K7 : Hid _ := k7
      have H2 : Hid (IB w3 w1.heap.size w3.heap.size (.slice ai d.sl.length ci) d.sl gs) := h2
      have HgsC : Hid _ := hgsC
      have Hcc : Hid _ := h1
      obtain ⟨W4, hW4⟩ : ∃ W4, ((w3.setCell ⟨w.heap.size, 0, none⟩ (.int .i64 d.dp)).setCell ⟨w.heap.size, 1, none⟩ (.slice ai d.sl.length ci)).setCell ⟨w.heap.size, 2, none⟩ (.slice (some ⟨gB, 0, none⟩) d.bs.length cc) = W4 := ⟨_, rfl⟩
      have o4 : Out w.heap.size (w.heap.size + 1) w3 W4 := by subst hW4; exact box3_out _ _ _ _ _
      have HA4 : Hid (W4.heap[w.heap.size]? = some (.cells #[.int .i64 d.dp, .slice ai d.sl.length ci, .slice (some ⟨gB, 0, none⟩) d.bs.length cc] 32 (0, 0))) := by subst hW4; exact box3_set hA3
      have HB4 : Hid (W4.heap[w.heap.size + 1]? = some Z27) := box_out (box_on HB1.out b3) o4 (by omega)
      have hC4 : W4.heap[gB]? = some (.cells cs 63 (0, 0)) := box_out k4 o4 (by omega)
      have HC4 : Hid _ := hC4
      obtain ⟨qj0, vj, qj1, qj2⟩ := k6 _ hj
      have cB1 := cB W4 _ (own3'.out o4 (.inr (by omega))).at_
      obtain ⟨na, nc, rfl, y3, y2⟩ := (qj2.out' o4 (.inr (by omega))).names
      clear h1 h2 h3 k4 k5 k6 k7 own3' cB qj2 qj0 hgsC
      obtain ⟨x0, x1, x2, x3, x4, x5⟩ := box3_cells hA3
      obtain ⟨t0, t1, t2, -, -, -⟩ := box3_cells HA4.out
      have y1 := cell_of_block hC4 qj1
      have HL : Hid (bkL d s = (gb d.bs (bkN d s)).ns) := rfl
      unfold bkL at hk
      obtain ⟨j, hjj⟩ : ∃ j, bkN d s = j := ⟨_, rfl⟩
      have Hj : Hid _ := hjj
      rw [hjj] at hj h4 hris hk cB1 y1 y2 y3 HL
      clear hjj qj1
      obtain ⟨l, hl⟩ : ∃ l, (gb d.bs j).ns = l := ⟨_, rfl⟩
      have Hl : Hid _ := hl
      rw [hl] at h4 hris hk y1 y2 y3
      clear hl
      have cA := fun W h => l8At_any na l nc s k W (by omega) h hk
      have Hy2 : Hid (Nms W4 na l) := y2
      have hkl := hk.1
      obtain ⟨r, hr⟩ : ∃ r, hasN l s k = r := ⟨_, rfl⟩
      have Hr : Hid _ := hr
      rw [hr] at cA
      have hr1 : r = true → k < l.length := fun h => by subst h; simp [hasN] at hr; exact hr.1
      have hBr : B = r := by have := HBh.out; rw [HL.out, Hl.out, hr] at this; exact this
      clear hr hk y2 hris
      obtain ⟨nl, hnl⟩ : ∃ nl, l.length = nl := ⟨_, rfl⟩
      have Hnl : Hid _ := hnl
      rw [hnl] at y1 y3 cA h4 hkl hr1
      clear hnl
      rw [HDP.out, Hn.out, Hm.out] at hW4 HA4 cB1 ⊢
      rw [Hm.out] at hj t2
      rw [HDP.out] at t0
      rw [Hn.out] at t1
      have hjm : (j : Int) < (m : Int) := by omega
      go_wp2_with fail
      refine cB1.mono ?_
      rintro e w5 ⟨rfl, b5⟩
      clear cB1 x0 x1 x2 x3 x4 x5 t0 t1 t2 hW4
      obtain ⟨t0, t1, t2, -, -, -⟩ := box3_cells (box_on HA4.out b5)
      have y1' := cell_on y1 b5
      go_wp2_with fail
      refine (cA _ (Hy2.out.below b5)).mono ?_
      rintro e w6 ⟨rfl, b6⟩
      clear cA t0 t1 t2 y1'
      have g6 := Below.comp b5 b6
      have gw6 : Below w.heap.size w w6 := (g1.trans (b3.mono (by omega))).trans ((o4.below (by omega)).trans (g6.mono (by have := o4.size; omega)))
      have hB6 := box_on HB4.out g6
      cases r with
      | false =>
        obtain ⟨f0, f1, f2, f3, f4, f5⟩ := box3_cells hB6
        go_wp2_with fail
        obtain ⟨t0, t1, t2, -, -, -⟩ := box3_cells (box3_set hB6 (x0 := .int .i64 0) (x1 := .slice none 0 0) (x2 := .slice none 0 0))
        exact bodyPost_ret (v := .tuple #[.agg #[.int .i64 0, .slice none 0 0, .slice none 0 0], .bool false]) (by simp [results, Try.results15, go_sem, t0, t1, t2]) rfl (HNO.out _ gw6 hB6 hBr)
      | true =>
        have hK : k + 1 ≤ nl := hr1 rfl
        have hT := slice_to na nl nc k (by omega)
        have hF : ∀ w, (Instr.slice 48 (.slice na nl nc) (some (.int .i64 ((k : Int) + 1))) none none).run Try.prog w = .ok (.slice (subA na (k + 1) nc) (nl - (k + 1)) (nc - (k + 1))) w := fun w => slice_from na nl nc (k + 1) hK w
        have hwr : IntKind.i64.wrap ((k : Int) + 1) = (k : Int) + 1 := wrapI (by omega) (by omega)
        have HA6 : Hid (w6.heap[w.heap.size]? = some (.cells #[.int .i64 DP, .slice ai n ci, .slice (some ⟨gB, 0, none⟩) m cc] 32 (0, 0))) := box_on HA4.out g6
        have HC6 : Hid (w6.heap[gB]? = some (.cells cs 63 (0, 0))) := box_on HC4.out g6
        have Hc6 : Hid (w6.cell? ⟨gB, j * 2 + 1, none⟩ = some (.slice na nl nc)) := cell_on y1 g6
        have SB : Hid (∀ W, Below w6.heap.size w6 W → W.cell? ⟨w.heap.size, 2, none⟩ = some (.slice (some ⟨gB, 0, none⟩) m cc) ∧ W.cell? ⟨gB, j * 2 + 1, none⟩ = some (.slice na nl nc) ∧ Below w6.heap.size w6 W) := fun W z => ⟨(box3_cells (box_on HA6.out z)).2.2.1, cell_on Hc6.out z, z⟩
        have hc6 : w6.cell? ⟨gB, j * 2 + 1, none⟩ = some (.slice na nl nc) := Hc6.out
        have hc6a : (w6.alloc (.cells #[] 36)).cell? ⟨gB, j * 2 + 1, none⟩ = some (.slice na nl nc) := cell_on Hc6.out (below_alloc _ _)
        have Hl1 : Hid ((l.take k).length = k) := by show _ = _; have := Hnl.out; simp; omega
        have Hl2 : Hid ((l.drop (k + 1)).length = nl - (k + 1)) := by show _ = _; simp [Hnl.out]
        have ST1 : Hid (∀ W, Below w6.heap.size w6 W → k = 0 ∨ ∃ ad, subA na 0 nc = some ad ∧ ∀ j u, (cns (l.take k))[j]? = some u → W.cell? (ad.add j) = some u) := fun W z => by
          have := ((Hy2.out.below (Below.comp g6 z)).take nc k (by rw [Hnl.out]; exact hkl)).src
          rw [Hl1.out] at this
          exact this
        have ST2 : Hid (∀ W, Below w6.heap.size w6 W → nl - (k + 1) = 0 ∨ ∃ ad, subA na (k + 1) nc = some ad ∧ ∀ j u, (cns (l.drop (k + 1)))[j]? = some u → W.cell? (ad.add j) = some u) := fun W z => by
          have := ((Hy2.out.below (Below.comp g6 z)).drop nc (k + 1) (by rw [Hnl.out]; exact y3)).src
          rw [Hl2.out] at this
          exact this
        have HR : Hid ((exR l s k []).length = k + (nl - (k + 1)) ∧ cns (exR l s k []) = cns (l.take k) ++ cns (l.drop (k + 1))) := by
          have e : exR l s k [] = l.take k ++ l.drop (k + 1) := by unfold exR; rw [Hr.out]; simp
          refine ⟨?_, ?_⟩
          · rw [e, List.length_append, Hl1.out, Hl2.out]
          · rw [e, cns_app]
        have HFin : Hid (∀ w9 y9 cy9, Below w6.heap.size w6 w9 → w9.ownsRow w6.heap.size 36 2 (.slice y9 (k + (nl - (k + 1))) cy9) (k + (nl - (k + 1))) (cns (l.take k) ++ cns (l.drop (k + 1))) → ∀ w', Out (w.heap.size + 1) (w.heap.size + 2) (w9.setCell ⟨gB, j * 2 + 1, none⟩ (.slice y9 (k + (nl - (k + 1))) cy9)) w' → DOwn w' w.heap.size w'.heap.size (.agg #[.int .i64 DP, .slice ai n ci, .slice (some ⟨gB, 0, none⟩) m cc]) D) := fun w9 y9 cy9 b9 own9 w' ho => by
          have hD := HDk.out hBr
          rw [HL.out, Hj.out, Hl.out] at hD
          rw [hD]
          have own : OwnN w9 w6.heap.size (.slice y9 (k + (nl - (k + 1))) cy9) (exR l s k []) := by
            unfold OwnN
            rw [HR.out.1, HR.out.2]
            exact own9
          obtain ⟨g, hg⟩ := own.nb
          have g9 := Below.comp g6 b9
          have z49 := g9.size
          have z4 := o4.size
          have z6 := b9.size
          have z46 := g6.size
          have hdp := HDP.out
          have hn := Hn.out
          have hm := Hm.out
          subst hdp hn hm
          refine (swap_own (C := w3.heap.size) (D := w6.heap.size) (kb := kb) (c := cs) Hcc.out hj ((H2.out.out' o4 (.inr (by omega))).below g9) k1 k2 (box_on HC4.out g9) K5.out (fun i hi => ?_) K7.out hg (by omega) (by omega) HgsC.out rfl ho (by omega)).mono (by omega) (Nat.le_refl _)
          obtain ⟨p0, p, p1, p2⟩ := K6.out i hi
          exact ⟨p0, p, p1, (p2.out' o4 (.inr (by omega))).below g9⟩
        have HB6 : Hid _ := hB6
        go_wp2_with fail
        refine wp_region_L (fun W => W.cell? ⟨w.heap.size, 2, none⟩ = some (.slice (some ⟨gB, 0, none⟩) m cc) ∧ W.cell? ⟨gB, j * 2 + 1, none⟩ = some (.slice na nl nc) ∧ Below w6.heap.size w6 W) 25 26 (by kernel_rfl) rfl (SB.out _ (Below.drew (Below.refl _ _))) (fun hS0 => ?_)
        refine tkL (i := 0) (d := 37) (v := ?_) rfl rfl (by kernel_rfl) (by kernel_rfl) (by kernel_rfl) (by kernel_rfl) (fun _ _ _ h => h) (Or.inl ⟨by rfl, by intro wq hSq; obtain ⟨hq1, hq2, hq3⟩ := hSq; go_simp; try with_reducible rfl⟩) (by assumption) ?_
        simp only [List.setIfInBounds_toArray, List.set_cons_zero, List.set_cons_succ]
        refine tkL (i := 1) (d := 38) (v := ?_) rfl rfl (by kernel_rfl) (by kernel_rfl) (by kernel_rfl) (by kernel_rfl) (fun _ _ _ h => h) (Or.inl ⟨by rfl, by intro wq hSq; obtain ⟨hq1, hq2, hq3⟩ := hSq; go_simp; try with_reducible rfl⟩) (by assumption) ?_
        simp only [List.setIfInBounds_toArray, List.set_cons_zero, List.set_cons_succ]
        refine tkL (i := 2) (d := 39) (v := ?_) rfl rfl (by kernel_rfl) (by kernel_rfl) (by kernel_rfl) (by kernel_rfl) (fun _ _ _ h => h) (Or.inl ⟨by rfl, by intro wq hSq; obtain ⟨hq1, hq2, hq3⟩ := hSq; go_simp; try with_reducible rfl⟩) (by assumption) ?_
        simp only [List.setIfInBounds_toArray, List.set_cons_zero, List.set_cons_succ]
        refine tkL (i := 4) (d := 41) (v := ?_) rfl rfl (by kernel_rfl) (by kernel_rfl) (by kernel_rfl) (by kernel_rfl) (fun _ _ _ h => h) (Or.inl ⟨by rfl, by intro wq hSq; obtain ⟨hq1, hq2, hq3⟩ := hSq; go_simp; try with_reducible rfl⟩) (by assumption) ?_
        simp only [List.setIfInBounds_toArray, List.set_cons_zero, List.set_cons_succ]
        refine tkL (i := 5) (d := 42) (v := ?_) rfl rfl (by kernel_rfl) (by kernel_rfl) (by kernel_rfl) (by kernel_rfl) (fun _ _ _ h => h) (Or.inl ⟨by rfl, by intro wq hSq; obtain ⟨hq1, hq2, hq3⟩ := hSq; go_simp; try with_reducible rfl⟩) (by assumption) ?_
        simp only [List.setIfInBounds_toArray, List.set_cons_zero, List.set_cons_succ]
        refine tkL (i := 6) (d := 43) (v := ?_) rfl rfl (by kernel_rfl) (by kernel_rfl) (by kernel_rfl) (by kernel_rfl) (fun _ _ _ h => h) (Or.inl ⟨by rfl, by intro wq hSq; obtain ⟨hq1, hq2, hq3⟩ := hSq; go_simp; try with_reducible rfl⟩) (by assumption) ?_
        simp only [List.setIfInBounds_toArray, List.set_cons_zero, List.set_cons_succ]
        refine tkL (i := 7) (d := 44) (v := ?_) rfl rfl (by kernel_rfl) (by kernel_rfl) (by kernel_rfl) (by kernel_rfl) (fun _ _ _ h => h) (Or.inl ⟨by rfl, by intro wq hSq; obtain ⟨hq1, hq2, hq3⟩ := hSq; go_simp; try with_reducible rfl⟩) (by assumption) ?_
        simp only [List.setIfInBounds_toArray, List.set_cons_zero, List.set_cons_succ]
        refine tkL (i := 8) (d := 45) (v := ?_) rfl rfl (by kernel_rfl) (by kernel_rfl) (by kernel_rfl) (by kernel_rfl) (fun _ _ _ h => h) (Or.inl ⟨by rfl, by intro wq hSq; obtain ⟨hq1, hq2, hq3⟩ := hSq; go_simp; try with_reducible rfl⟩) (by assumption) ?_
        simp only [List.setIfInBounds_toArray, List.set_cons_zero, List.set_cons_succ]
        refine tkL (i := 9) (d := 46) (v := ?_) rfl rfl (by kernel_rfl) (by kernel_rfl) (by kernel_rfl) (by kernel_rfl) (fun _ _ _ h => h) (Or.inl ⟨by rfl, by intro wq hSq; obtain ⟨hq1, hq2, hq3⟩ := hSq; go_simp; try with_reducible rfl⟩) (by assumption) ?_
        simp only [List.setIfInBounds_toArray, List.set_cons_zero, List.set_cons_succ]
        refine tkL (i := 10) (d := 47) (v := ?_) rfl rfl (by kernel_rfl) (by kernel_rfl) (by kernel_rfl) (by kernel_rfl) (fun _ _ _ h => h) (Or.inl ⟨by rfl, by intro wq hSq; obtain ⟨hq1, hq2, hq3⟩ := hSq; go_simp; try with_reducible rfl⟩) (by assumption) ?_
        simp only [List.setIfInBounds_toArray, List.set_cons_zero, List.set_cons_succ]
        refine tkL (i := 11) (d := 48) (v := ?_) rfl rfl (by kernel_rfl) (by kernel_rfl) (by kernel_rfl) (by kernel_rfl) (fun _ _ _ h => h) (Or.inl ⟨by rfl, by intro wq hSq; obtain ⟨hq1, hq2, hq3⟩ := hSq; go_simp; try with_reducible rfl⟩) (by assumption) ?_
        simp only [List.setIfInBounds_toArray, List.set_cons_zero, List.set_cons_succ]
        refine tkL (i := 13) (d := 50) (v := ?_) rfl rfl (by kernel_rfl) (by kernel_rfl) (by kernel_rfl) (by kernel_rfl) (fun _ _ _ h => h) (Or.inl ⟨by rfl, by intro wq hSq; obtain ⟨hq1, hq2, hq3⟩ := hSq; go_simp; try with_reducible rfl⟩) (by assumption) ?_
        simp only [List.setIfInBounds_toArray, List.set_cons_zero, List.set_cons_succ]
        refine tkL (i := 14) (d := 51) (v := ?_) rfl rfl (by kernel_rfl) (by kernel_rfl) (by kernel_rfl) (by kernel_rfl) (fun _ _ _ h => h) (Or.inl ⟨by rfl, by intro wq hSq; obtain ⟨hq1, hq2, hq3⟩ := hSq; go_simp; try with_reducible rfl⟩) (by assumption) ?_
        simp only [List.setIfInBounds_toArray, List.set_cons_zero, List.set_cons_succ]
        refine tkL (i := 15) (d := 52) (v := ?_) rfl rfl (by kernel_rfl) (by kernel_rfl) (by kernel_rfl) (by kernel_rfl) (fun _ _ _ h => h) (Or.inl ⟨by rfl, by intro wq hSq; obtain ⟨hq1, hq2, hq3⟩ := hSq; go_simp; try with_reducible rfl⟩) (by assumption) ?_
        simp only [List.setIfInBounds_toArray, List.set_cons_zero, List.set_cons_succ]
        refine tkL (i := 16) (d := 53) (v := ?_) rfl rfl (by kernel_rfl) (by kernel_rfl) (by kernel_rfl) (by kernel_rfl) (fun _ _ _ h => h) (Or.inl ⟨by rfl, by intro wq hSq; obtain ⟨hq1, hq2, hq3⟩ := hSq; go_simp; try with_reducible rfl⟩) (by assumption) ?_
        simp only [List.setIfInBounds_toArray, List.set_cons_zero, List.set_cons_succ]
        refine tkL (i := 17) (d := 54) (v := ?_) rfl rfl (by kernel_rfl) (by kernel_rfl) (by kernel_rfl) (by kernel_rfl) (fun _ _ _ h => h) (Or.inl ⟨by rfl, by intro wq hSq; obtain ⟨hq1, hq2, hq3⟩ := hSq; go_simp; try with_reducible rfl⟩) (by assumption) ?_
        simp only [List.setIfInBounds_toArray, List.set_cons_zero, List.set_cons_succ]
        refine tkL (i := 18) (d := 55) (v := ?_) rfl rfl (by kernel_rfl) (by kernel_rfl) (by kernel_rfl) (by kernel_rfl) (fun _ _ _ h => h) (Or.inl ⟨by rfl, by intro wq hSq; obtain ⟨hq1, hq2, hq3⟩ := hSq; go_simp; try with_reducible rfl⟩) (by assumption) ?_
        simp only [List.setIfInBounds_toArray, List.set_cons_zero, List.set_cons_succ]
        refine tkL (i := 19) (d := 56) (v := ?_) rfl rfl (by kernel_rfl) (by kernel_rfl) (by kernel_rfl) (by kernel_rfl) (fun _ _ _ h => h) (Or.inl ⟨by rfl, by intro wq hSq; obtain ⟨hq1, hq2, hq3⟩ := hSq; go_simp; try with_reducible rfl⟩) (by assumption) ?_
        simp only [List.setIfInBounds_toArray, List.set_cons_zero, List.set_cons_succ]
        refine tkL (i := 20) (d := 57) (v := ?_) rfl rfl (by kernel_rfl) (by kernel_rfl) (by kernel_rfl) (by kernel_rfl) (fun _ _ _ h => h) (Or.inl ⟨by rfl, by intro wq hSq; obtain ⟨hq1, hq2, hq3⟩ := hSq; go_simp; try with_reducible rfl⟩) (by assumption) ?_
        simp only [List.setIfInBounds_toArray, List.set_cons_zero, List.set_cons_succ]
        refine tkL (i := 21) (d := 58) (v := ?_) rfl rfl (by kernel_rfl) (by kernel_rfl) (by kernel_rfl) (by kernel_rfl) (fun _ _ _ h => h) (Or.inl ⟨by rfl, by intro wq hSq; obtain ⟨hq1, hq2, hq3⟩ := hSq; go_simp; try with_reducible rfl⟩) (by assumption) ?_
        simp only [List.setIfInBounds_toArray, List.set_cons_zero, List.set_cons_succ]
        refine oneL (i := 3) rfl (by kernel_rfl) (fun K hK => ?_)
        go_simp
        refine hK.out _ _ (SB.out _ (by first | exact below_alloc _ _ | exact Below.drew (below_alloc _ _) | exact Below.comp (Below.drew (Below.refl _ w6)) (below_alloc _ _))) (fun hS1 => ?_)
        clear hK K
        refine oneL (i := 12) rfl (by kernel_rfl) (fun K hK => ?_)
        refine step_append_src (by rfl) _ _ 48 (by rfl) w6.heap.size 36 _ 2 24 Try.underlying48 info47 rfl (by decide) (.slice (some ⟨w6.heap.size, 0, none⟩) 0 0) 0 [] rfl (own_empty w6 36 2) (subA na 0 nc) k nc (cns (l.take k)) rfl (by rw [cns_len, Hl1.out]) (ST1.out _ hS1.2.2) (cns_one _) (by omega) (by decide) (below_alloc w6 _).size ?_
        intro v8 w8 own8 gr8
        have b8 : Below w6.heap.size w6 w8 := grown_on hS1.2.2 (below_alloc w6 _).size (own_empty w6 36 2) gr8
        rw [Nat.zero_add, List.nil_append] at own8
        obtain ⟨y8, cy8, rfl⟩ := owns_form own8
        refine hK.out _ _ (SB.out _ b8) (fun hS2 => ?_)
        clear hK K
        show wpAnyL _ _ _ _ _ _ _ _ { tmps := Array.setIfInBounds _ 49 _, defers := _ } _
        simp only [List.setIfInBounds_toArray, List.set_cons_zero, List.set_cons_succ]
        refine oneL (i := 22) rfl (by kernel_rfl) (fun K hK => ?_)
        refine step_append_src (by rfl) _ _ 48 (by rfl) w6.heap.size 36 _ 2 24 Try.underlying48 info47 rfl (by decide) (.slice y8 k cy8) k (cns (l.take k)) rfl own8 (subA na (k + 1) nc) (nl - (k + 1)) (nc - (k + 1)) (cns (l.drop (k + 1))) rfl (by rw [cns_len, Hl2.out]) (ST2.out _ b8) (cns_one _) (by omega) (by decide) b8.size ?_
        intro v9 w9 own9 gr9
        have b9 : Below w6.heap.size w6 w9 := grown_on b8 b8.size own8 gr9
        obtain ⟨y9, cy9, rfl⟩ := owns_form own9
        have HC9 : Hid (w9.heap[gB]? = some (.cells cs 63 (0, 0))) := box_on HC6.out b9
        refine hK.out _ _ (SB.out _ b9) (fun hS3 => ?_)
        clear hK K
        show wpAnyL _ _ _ _ _ _ _ _ { tmps := Array.setIfInBounds _ 59 _, defers := _ } _
        simp only [List.setIfInBounds_toArray, List.set_cons_zero, List.set_cons_succ]
        refine oneL (i := 23) rfl (by kernel_rfl) (fun K hK => ?_)
        go_simp
        refine hK.out _ _ hS3 (fun hS4 => ?_)
        clear hK K
        refine tkL (i := 24) (d := 61) (v := ?_) rfl rfl (by kernel_rfl) (by kernel_rfl) (by kernel_rfl) (by kernel_rfl) (fun _ _ _ h => h) (Or.inl ⟨by rfl, by intro wq hSq; obtain ⟨hq1, hq2, hq3⟩ := hSq; go_simp; try with_reducible rfl⟩) (by assumption) ?_
        simp only [List.setIfInBounds_toArray, List.set_cons_zero, List.set_cons_succ]
        refine lastL (last := 25) rfl (by kernel_rfl) (by kernel_rfl) (fun K hK => ?_)
        have e1 : w9.cell? ⟨gB, j * 2 + 1, none⟩ = some (.slice na nl nc) := cell_on Hc6.out b9
        have e2 := free_of_block (i := j * 2 + 1) HC9.out
        go_simp
        refine hK.out _ _ ?_
        clear hK K
        all_goals
          obtain ⟨ws, hws⟩ : ∃ ws, w9.setCell ⟨gB, j * 2 + 1, none⟩ (.slice y9 (k + (nl - (k + 1))) cy9) = ws := ⟨_, rfl⟩
          rw [hws]
          have os : Out gB (gB + 1) w6 ws := by subst hws; exact (Out.of_below b9).setCell (Nat.le_refl _) (Nat.lt_succ_self _) _ _
          have hAs := box_out HA6.out os (by omega)
          have hBs := box_out HB6.out os (by omega)
          obtain ⟨x0, x1, x2, -, -, -⟩ := box3_cells hAs
          obtain ⟨f0, f1, f2, f3, f4, f5⟩ := box3_cells hBs
          have HW : Hid _ := hws
          clear hws e1 e2 hT hF
          go_wp2_with fail
          obtain ⟨t0, t1, t2, -, -, -⟩ := box3_cells (box3_set hBs (x0 := .int .i64 DP) (x1 := .slice ai n ci) (x2 := .slice (some ⟨gB, 0, none⟩) m cc))
          have o9 := box3_out ws (w.heap.size + 1) (.int .i64 DP) (.slice ai n ci) (.slice (some ⟨gB, 0, none⟩) m cc)
          refine bodyPost_ret (v := .tuple #[.agg #[.int .i64 DP, .slice ai n ci, .slice (some ⟨gB, 0, none⟩) m cc], .bool true]) (by simp [results, Try.results15, go_sem, t0, t1, t2]) rfl ⟨?_, _, by rw [hBr], HFin.out w9 y9 cy9 b9 own9 _ (by rw [HW.out]; exact o9)⟩
          have zz := box_lt hBs
          have z6 := box_lt HC6.out
          exact gw6.trans (((os.below (by omega)).mono (by omega)).trans ((o9.below (by omega)).mono (by omega)))
end Go.Proofs.Ytfmgaenedkjmkaa
