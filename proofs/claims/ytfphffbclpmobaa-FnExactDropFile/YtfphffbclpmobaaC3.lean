import Derived.Test.YtfphffbclpmobaaS2
import Derived.Test.YtfphffbclpmobaaN1
import Derived.Test.YtfphffbclpmobaaX2
/- impl.closed. -/
namespace Go.Proofs.Ytfphffbclpmobaa
open Go.ChangeShapes Go.WideShapes Go.ChangeAt Go.RowKit Go.Maps
set_option linter.unusedVariables false
open Hd

attribute [local go_sem] Oper.semAt_some

/-- Rows of texts that can be read. -/
def RdF (w : World) (y : Value) (F : List (List ByteArray)) : Prop :=
  ∃ a c, y = .slice a F.length c ∧ (F.length ≠ 0 → ∃ g, a = some ⟨g, 0, none⟩ ∧ ∀ i, i < F.length → ∃ v, w.cell? ⟨g, i, none⟩ = some v ∧ ∃ ta tc, v = .slice ta (gt F i).length tc ∧ Strs w ta (gt F i))
theorem FRow.rd {w : World} {lo e1 e2 : Nat} {y : Value} {F : List (List ByteArray)} (h : FRow w lo e1 e2 y F) : RdF w y F := by
  obtain ⟨x, c, hy⟩ := h.form
  refine ⟨x, c, hy, fun hn => ?_⟩
  obtain ⟨g, c', e, hr⟩ := h.read hn
  rw [hy] at e
  simp only [Value.slice.injEq, true_and] at e
  refine ⟨g, e.1, fun i hi => ?_⟩
  obtain ⟨v, h1, h2⟩ := hr i hi
  obtain ⟨ta, tc, e1, -, e2⟩ := h2.strs
  exact ⟨v, h1, ta, tc, e1, e2⟩
theorem RdF.below {w w' : World} {y : Value} {F : List (List ByteArray)} (h : RdF w y F) (hb : Below w.heap.size w w') : RdF w' y F := by
  obtain ⟨a, c, hy, hr⟩ := h
  refine ⟨a, c, hy, fun hn => ?_⟩
  obtain ⟨g, e, hr⟩ := hr hn
  refine ⟨g, e, fun i hi => ?_⟩
  obtain ⟨v, h1, ta, tc, e1, e2⟩ := hr i hi
  exact ⟨v, cell_on h1 hb, ta, tc, e1, At.below e2 hb⟩
/-- Texts that a map of numbers can be asked for. -/
def FewT (F : List (List ByteArray)) : Prop := F.length ≤ 1000 ∧ ∀ i, i < F.length → (gt F i).length ≤ 1000 ∧ ∀ k, k < (gt F i).length → (gs (gt F i) k).size ≤ maxLen
/-- What closed tells. -/
def ClR (E : List En) (F : List (List ByteArray)) (w : World) (e : Ending) (w' : World) : Prop :=
  Below w.heap.size w w' ∧ ((E.length ≤ 100 ∧ F.length ≤ 20 ∧ ∃ v, e = .returned (.tuple #[v, .bool true]) ∧ VOwn w' w.heap.size w'.heap.size v ⟨E.map toNm, clF (E.map toNm) F⟩) ∨ (¬ (E.length ≤ 100 ∧ F.length ≤ 20) ∧ e = .returned (.tuple #[vv none 0 0 none 0 0, .bool false])))
theorem FiIn.put2 {w W : World} {B s C C' : Nat} {c : Array Value} {kb : Nat → Nat} {L : List (List Int)} {k g : Nat} {x : Value} (h : FiIn w B C c kb L k) (ho : ∀ j, j < w.heap.size → j ≠ s → W.heap[j]? = w.heap[j]?) (hC : C ≤ C') (hcs : k + 1 ≤ c.size) (hkb : ∀ r, r < k → kb r ≠ s)
    (m1 : IB W B C' x (gf L k) g) : FiIn W B C' (c.setIfInBounds k x) (kbPut kb k g) L (k + 1) := by
  intro i hi
  by_cases e : i = k
  · subst e
    rw [kbPut_0]
    exact ⟨x, by rw [set_at (by omega)], m1⟩
  · obtain ⟨v, h1, h3⟩ := h i (by omega)
    rw [kbPut_ne _ _ _ (by omega)]
    exact ⟨v, by rw [set_ne (by omega)]; exact h1, (h3.mono (Nat.le_refl _) hC).same (fun _ hg => ho _ hg (hkb i (by omega)))⟩
theorem clF_at {P : List Nm} {F : List (List ByteArray)} {i : Nat} (h : i < F.length) : gf (clF P F) i = (gt F i).map (nuF P P.length) := by
  simp [clF, gf, gt, h]
theorem clF_gi {P : List Nm} {F : List (List ByteArray)} {i j : Nat} (h : i < F.length) (hj : j < (gt F i).length) : gi (gf (clF P F) i) j = nuF P P.length (gs (gt F i) j) := by
  rw [clF_at h]
  simp [gi, gs, hj]
set_option maxRecDepth 20000 in
set_option maxHeartbeats 8000000 in
theorem closed_any (M n : Nat) (g : SG) (E : List En) (F : List (List ByteArray)) (y : Value) (w : World) (hG : GM w M n g E.length) (hE : Ens g E) (hsz : ∀ e, e ∈ E → e.tx.size ≤ 24) (hEn : E.length ≤ 1000) (hF : RdF w y F) (hFt : FewT F) :
    Calls Try.prog 21 #[.agg #[.map (some M), y]] w fun e w' => ClR E F w e w' := by
  have HRd : Hid (∀ W, Below w.heap.size w W → RdF W y F) := fun W h => hF.below h
  obtain ⟨yx, yc, rfl, -⟩ := hF
  have hm1 := hFt.1
  have HFt : Hid (FewT F) := hFt
  clear hFt
  have cA := fun W => areFew_any E.length F.length W (by omega) (by omega)
  obtain ⟨N, hN⟩ : ∃ N, E.length = N := ⟨_, rfl⟩
  obtain ⟨m, hm⟩ : ∃ m, F.length = m := ⟨_, rfl⟩
  have HN : Hid (E.length = N) := hN
  have Hm : Hid (F.length = m) := hm
  rw [hN, hm] at cA
  rw [hN] at hG hEn
  rw [hm] at hm1 HRd ⊢
  clear hN hm
  obtain ⟨s, hs⟩ : ∃ s, w.heap.size = s := ⟨_, rfl⟩
  have Hs : Hid (w.heap.size = s) := hs
  obtain ⟨W0, hW0⟩ : ∃ W0, (w.alloc (.cells #[.map (some M), .slice yx m yc] 52)).alloc (.cells #[.slice none 0 0, .slice none 0 0] 30) = W0 := ⟨_, rfl⟩
  have q0 : Below w.heap.size w W0 := by subst hW0; exact ba2 _ _ _
  obtain ⟨B1, B2⟩ : W0.heap[s]? = some (.cells #[.map (some M), .slice yx m yc] 52 (0, 0)) ∧ W0.heap[s + 1]? = some (.cells #[.slice none 0 0, .slice none 0 0] 30 (0, 0)) := by subst hW0 hs; exact al2 _ _ _
  have H1 : Hid _ := B1
  have H2 : Hid _ := B2
  have hln := (hG.below q0).len 3
  obtain ⟨i0, i1, -, -⟩ := box2_cells B1
  obtain ⟨r0, r1, f0, f1⟩ := box2_cells B2
  clear B1 B2
  by_cases hfew : N ≤ 100 ∧ m ≤ 20
  · rw [show (decide (N ≤ 100) && decide (m ≤ 20)) = true by simp; exact hfew] at cA
    have HFew : Hid (N ≤ 100 ∧ m ≤ 20) := hfew
    clear hfew
    have cP := inOrder_any M n N g E yx m yc W0 (hG.below q0) hE hsz (by rw [HN.out]; exact hEn)
    have HszP : Hid (∀ i, i < N → (gm (E.map toNm) i).nm.size ≤ maxLen) := fun i hi => by
      have hi' : i < E.length := by rw [HN.out]; exact hi
      have := hsz E[i] (List.getElem_mem hi')
      have e1 : gm (E.map toNm) i = toNm E[i] := by simp [gm, hi']
      rw [e1]
      unfold maxLen
      show (E[i]).tx.size ≤ _
      omega
    have HP : Hid ((E.map toNm).length = N) := by show _ = _; rw [List.length_map]; exact HN.out
    generalize hPP : E.map toNm = P at *
    have HPP : Hid (E.map toNm = P) := hPP
    clear hPP hE hsz hG
    go_enter Try.func21, Try.ntmps21
    go_wp2_with (go_at_call 33; refine (cA _).mono ?_; rintro e W9 ⟨rfl, e9⟩; subst W9)
    refine cP.mono ?_
    rintro e w1 ⟨b1, v, gb, rfl, hnb⟩
    obtain ⟨pa, pc, hv, hpc, hpr⟩ := id hnb
    rw [HP.out] at hv hpc
    subst hv
    have HNB : Hid (NB w1 W0.heap.size w1.heap.size (.slice pa N pc) P gb) := hnb
    have HNm : Hid (Nms w1 pa P) := by
      obtain ⟨a', c', e', -, h'⟩ := hnb.names
      simp only [Value.slice.injEq] at e'
      obtain ⟨rfl, -, rfl⟩ := e'
      exact h'
    clear i0 i1 r0 r1 f0 f1 hln hW0 cA cP hnb hpr
    have K1 : Hid (w1.heap[s]? = some (.cells #[.map (some M), .slice yx m yc] 52 (0, 0))) := box_on H1.out b1
    have K2 : Hid (w1.heap[s + 1]? = some (.cells #[.slice none 0 0, .slice none 0 0] 30 (0, 0))) := box_on H2.out b1
    have g1 : Below w.heap.size w w1 := Below.comp q0 b1
    have Hz0 : Hid (s + 1 < W0.heap.size ∧ W0.heap.size ≤ w1.heap.size) := ⟨box_lt H2.out, b1.size⟩
    obtain ⟨nb, hnb⟩ : ∃ nb, w1.heap.size = nb := ⟨_, rfl⟩
    have HNb : Hid (w1.heap.size = nb) := hnb
    obtain ⟨W2, hW2⟩ : ∃ W2, w1.alloc (.map #[] 0) = W2 := ⟨_, rfl⟩
    have q2 : Below nb w1 W2 := by subst hW2 hnb; exact below_alloc _ _
    have HM0 : Hid (NM W2 nb 0 (nuF P 0)) := by subst hW2 hnb; exact NM.made w1
    have hmm := @run_makeMap
      Try.prog
    go_wp2_with fail
    clear hmm hW2
    go_loopw [27] (fun i ws => ∃ (k : Nat), k ≤ N ∧ i = .int .i64 (k : Int) ∧ Hid (NM ws nb k (nuF P k)) ∧ Below nb w1 ws) (fun i _ => N - (intOf i).toNat)
    case atStart => exact ⟨0, Nat.zero_le _, rfl, HM0, q2⟩
    case round =>
      obtain ⟨k, hk, rfl, HK, hb⟩ := hrel
      by_cases hlt : k < N
      · obtain ⟨pb, poff, rfl, hpc2⟩ := (HNm.out.below (by rw [HNb.out]; exact hb)) (by rw [HP.out]; omega)
        obtain ⟨z0, z1⟩ := hpc2 k (by rw [HP.out]; exact hlt)
        clear hpc2
        have hkn' : (k : Int) < (N : Int) := by omega
        have HSt : Hid (nuF P (k + 1) = upN (nuF P k) (gm P k).nm (k : Int)) := rfl
        have HSz : Hid ((gm P k).nm.size ≤ maxLen) := HszP.out k hlt
        generalize nuF P k = S at HK HSt
        generalize (gm P k).nm = tx at *
        generalize (gm P k).fl = fl at *
        obtain ⟨W3, hW3⟩ : ∃ W3, wr.alloc (.cells #[.string tx, .int .i64 fl] 46) = W3 := ⟨_, rfl⟩
        have b3 : Below wr.heap.size wr W3 := by subst hW3; exact below_alloc _ _
        obtain ⟨Q, hQ⟩ : ∃ Q, wr.heap.size = Q := ⟨_, rfl⟩
        obtain ⟨u0, u1, -, -⟩ := box2_cells (show W3.heap[Q]? = some (.cells #[.string tx, .int .i64 fl] 46 (0, 0)) by subst hW3 hQ; exact al1 _ _)
        have hN3 := HK.out.below b3
        have B3 : Hid (Below nb w1 W3) := hb.trans (b3.mono (by have := HK.out.lt; omega))
        go_wp2_with (at_mapUpdate; refine wpList_nput _ rfl _ _ _ rfl nb k _ tx (k : Int) rfl hN3 (by omega) HSz.out rfl rfl ?_; intro w4 hN4 ht4; have B4 : Hid (Below nb w1 w4) := B3.out.trans ((turned_out ht4).below (Nat.le_of_lt hN3.lt)); have HN4 : Hid _ := hN4; clear hN4 ht4)
        go_roundw
        case rel => exact ⟨k + 1, by omega, by go_num, by rw [HSt.out]; exact HN4, B4.out⟩
        case measure => simp [intOf]; omega
      · have hkn : k = N := by omega
        subst hkn
        obtain ⟨V, hV⟩ : ∃ V, V = wr := ⟨_, rfl⟩
        subst hV
        have hsn : s + 1 < nb := by have := HNb.out; have := Hz0.out; omega
        have KV1 : Hid (V.heap[s]? = some (.cells #[.map (some M), .slice yx m yc] 52 (0, 0))) := box_bel K1.out hb (by omega)
        have KV2 : Hid (V.heap[s + 1]? = some (.cells #[.slice none 0 0, .slice none 0 0] 30 (0, 0))) := box_bel K2.out hb hsn
        have HKN : Hid (NM V nb k (nuF P k)) := HK
        have NBV : Hid (NB V W0.heap.size w1.heap.size (.slice pa k pc) P gb) := HNB.out.below (by rw [HNb.out]; exact hb)
        have gV : Hid (Below w.heap.size w V) := g1.trans (hb.mono (by have := Hs.out; omega))
        have HRV : Hid (RdF V (.slice yx m yc) F) := HRd.out V gV.out
        obtain ⟨fb, hfb⟩ : ∃ fb, V.heap.size = fb := ⟨_, rfl⟩
        have Hfb : Hid (V.heap.size = fb) := hfb
        have Hnf : Hid (nb < fb) := by show _ < _; have := HKN.out.lt; omega
        obtain ⟨e0, e1, -, -⟩ := box2_cells KV1.out
        have hmk := make_any (P := Try.prog) 28 44 _ 1 24 Try.underlying28 infoF .i64 .i64 m (by omega) (by omega)
        obtain ⟨W5, hW5⟩ : ∃ W5, V.alloc (.cells (made (.agg #[.slice none 0 0]) m) 44) = W5 := ⟨_, rfl⟩
        have q5 : Below V.heap.size V W5 := by subst hW5; exact below_alloc _ _
        have HF5 : Hid (W5.heap[fb]? = some (.cells (made (.agg #[.slice none 0 0]) m) 44 (0, 0))) := by subst hW5 hfb; exact al1 _ _
        obtain ⟨e2, e3, -, -⟩ := box2_cells (box_on KV1.out q5)
        have hq5 : Hid (Below fb V W5) := by show Below _ _ _; rw [← hfb]; exact q5
        clear HK hlt hb HM0 q2
        go_wp2_with fail
        clear e0 e1 e2 e3 hmk hW5
        go_loopw [44] (fun i ws => ∃ (j : Nat) (c : Array Value) (kb : Nat → Nat), j ≤ m ∧ i = .int .i64 (j : Int) ∧ Hid (ws.heap[fb]? = some (.cells c 44 (0, 0))) ∧ c.size = m ∧ Hid (FiIn ws fb ws.heap.size c kb (clF P F) j) ∧ Hid (∀ r, r < j → fb < kb r ∧ kb r < ws.heap.size ∧ ∀ r', r' < r → kb r' < kb r) ∧ Below fb V ws) (fun i _ => m - (intOf i).toNat)
        case atStart => exact ⟨0, _, fun _ => 0, Nat.zero_le _, rfl, HF5, by rw [size_made], fun i hi => absurd hi (by omega), fun r hr => absurd hr (by omega), hq5.out⟩
        case round =>
          obtain ⟨j, c, kb, hj, rfl, HB, hcs, HFi, Hkb, hb5⟩ := hrel
          obtain ⟨U, hU⟩ : ∃ U, U = wr := ⟨_, rfl⟩
          subst hU
          have hzU : fb < U.heap.size := box_lt HB.out
          by_cases hlt : j < m
          · obtain ⟨ra, rc, ery, hrr⟩ := HRV.out
            simp only [Value.slice.injEq] at ery
            obtain ⟨rfl, -, rfl⟩ := ery
            obtain ⟨rg, rfl, hrc⟩ := hrr (by rw [Hm.out]; omega)
            obtain ⟨v, h1, ta, tc, rfl, hst⟩ := hrc j (by rw [Hm.out]; exact hlt)
            clear hrr hrc
            have h2 := cell_on h1 (by rw [hfb]; exact hb5 : Below V.heap.size V U)
            have HTs : Hid (∀ W, Below fb V W → Strs W ta (gt F j)) := fun W h => At.below hst (by rw [Hfb.out]; exact h)
            have htl1 := (HFt.out.2 j (by rw [Hm.out]; exact hlt)).1
            obtain ⟨tl, htl⟩ : ∃ tl, (gt F j).length = tl := ⟨_, rfl⟩
            have Htl : Hid ((gt F j).length = tl) := htl
            rw [htl] at h2 htl1
            clear h1 hst htl
            have hjm : (j : Int) < (m : Int) := by omega
            have hmk3 := make_any (P := Try.prog) 42 3 _ 1 8 Try.underlying42 info3 .i64 .i64 tl (by omega) (by omega)
            obtain ⟨pb, hpb⟩ : ∃ pb, U.heap.size = pb := ⟨_, rfl⟩
            have Hpb : Hid (U.heap.size = pb) := hpb
            obtain ⟨W6, hW6⟩ : ∃ W6, U.alloc (.cells (made (.int .i64 0) tl) 3) = W6 := ⟨_, rfl⟩
            have q6 : Below U.heap.size U W6 := by subst hW6; exact below_alloc _ _
            have HP6 : Hid (W6.heap[pb]? = some (.cells (made (.int .i64 0) tl) 3 (0, 0))) := by subst hW6 hpb; exact al1 _ _
            have HB6 : Hid (W6.heap[fb]? = some (.cells c 44 (0, 0))) := box_on HB.out q6
            have g0 : W6.cell? ⟨fb, j, none⟩ = some c[j] := cell_of_block HB6.out (by simp)
            have fr0 := free_of_block (i := j) HB6.out
            obtain ⟨W7, hW7⟩ : ∃ W7, W6.setCell ⟨fb, j, none⟩ (.slice (some ⟨pb, 0, none⟩) tl tl) = W7 := ⟨_, rfl⟩
            have HB7 : Hid (W7.heap[fb]? = some (.cells (c.setIfInBounds j (.slice (some ⟨pb, 0, none⟩) tl tl)) 44 (0, 0))) := by subst hW7; exact block_set HB6.out
            have o7 : Hid (Out fb (fb + 1) W6 W7) := by subst hW7; exact out_setCell _ _ _ _
            have HP7 : Hid (W7.heap[pb]? = some (.cells (made (.int .i64 0) tl) 3 (0, 0))) := box_out HP6.out o7.out (by omega)
            have Hq6 : Hid (Below pb U W6) := by show Below _ _ _; rw [← hpb]; exact q6
            have HU7 : Hid (Below fb V W7) := (hb5.trans (Hq6.out.mono (by omega))).trans (o7.out.below (Nat.le_of_lt (box_lt HB6.out)))
            have hfp : fb < pb := by omega
            clear q6
            go_wp2_with fail
            clear hmk3 g0 fr0 h2 hW6 hW7 hpb
            go_loopw [58] (fun i ws => ∃ (q : Nat) (d : Array Value), q ≤ tl ∧ i = .int .i64 (q : Int) ∧ Hid (ws.heap[pb]? = some (.cells d 3 (0, 0))) ∧ d.size = tl ∧ Hid (intsN q (gf (clF P F) j) d) ∧ Out pb (pb + 1) W7 ws) (fun i _ => tl - (intOf i).toNat)
            case atStart => exact ⟨0, _, Nat.zero_le _, rfl, HP7, by rw [size_made], fun i hi => absurd hi (by omega), Out.refl _ _ _⟩
            case round =>
              obtain ⟨q, d, hq, rfl, HPd, hds, HIn, ho⟩ := hrel
              have hbi : Below fb V wr := HU7.out.trans ((ho.below (Nat.le_of_lt (box_lt HP7.out))).mono (by omega))
              by_cases hqt : q < tl
              · obtain ⟨tb, toff, rfl, hcl⟩ := (HTs.out wr hbi) (by rw [Htl.out]; omega)
                have t0 : wr.cell? ⟨tb, toff + q, none⟩ = some (.string (gs (gt F j) q)) := hcl q (by rw [Htl.out]; exact hqt)
                clear hcl
                have hqm : (q : Int) < (tl : Int) := by omega
                have HSz : Hid ((gs (gt F j) q).size ≤ maxLen) := (HFt.out.2 j (by rw [Hm.out]; exact hlt)).2 q (by rw [Htl.out]; exact hqt)
                have HGi : Hid (gi (gf (clF P F) j) q = nuF P k (gs (gt F j) q)) := by
                  show _ = _
                  rw [clF_gi (by rw [Hm.out]; exact hlt) (by rw [Htl.out]; exact hqt), HP.out]
                have HBi : Hid (wr.heap[fb]? = some (.cells (c.setIfInBounds j (.slice (some ⟨pb, 0, none⟩) tl tl)) 44 (0, 0))) := box_out HB7.out ho (by omega)
                have k0 : wr.cell? ⟨fb, j, none⟩ = some (.slice (some ⟨pb, 0, none⟩) tl tl) := cell_of_block HBi.out (set_at (by omega) _)
                have p0 : wr.cell? ⟨pb, q, none⟩ = some d[q] := cell_of_block HPd.out (by simp)
                have HNw : Hid (NM wr nb k (nuF P k)) := HKN.out.below (by rw [Hfb.out]; exact hbi)
                obtain ⟨tx, htx⟩ : ∃ tx, gs (gt F j) q = tx := ⟨_, rfl⟩
                rw [htx] at t0 HSz HGi
                clear htx
                obtain ⟨nx, hnx⟩ : ∃ nx, nuF P k tx = nx := ⟨_, rfl⟩
                obtain ⟨dq, hdq⟩ : ∃ dq, d[q] = dq := ⟨_, rfl⟩
                rw [hdq] at p0
                have HG2 : Hid (gi (gf (clF P F) j) q = nx) := by rw [← hnx]; exact HGi
                have SB : Hid (∀ W, Below wr.heap.size wr W → W.cell? ⟨fb, j, none⟩ = some (.slice (some ⟨pb, 0, none⟩) tl tl) ∧ W.cell? ⟨pb, q, none⟩ = some dq ∧ (Instr.lookup 80 (.map (some nb)) (.string tx) false).run Try.prog W = .ok (.int .i64 nx) W ∧ Below wr.heap.size wr W) := fun W h => ⟨cell_on k0 h, cell_on p0 h, by have := (HNw.out.below h).look tx HSz.out; rw [hnx] at this; exact this, h⟩
                clear k0 p0 hdq hnx
                go_wp2_with fail
                clear t0
                refine wp_region_noPanic ?_
                refine wp_region_L (fun W => W.cell? ⟨fb, j, none⟩ = some (.slice (some ⟨pb, 0, none⟩) tl tl) ∧ W.cell? ⟨pb, q, none⟩ = some dq ∧ (Instr.lookup 80 (.map (some nb)) (.string tx) false).run Try.prog W = .ok (.int .i64 nx) W ∧ Below wr.heap.size wr W) 10 11 (by kernel_rfl) rfl (SB.out _ (Below.drew (Below.refl _ _))) (fun hS0 => ?_)
                refine tkL (i := 0) (d := 63) (v := ?_) rfl rfl (by kernel_rfl) (by kernel_rfl) (by kernel_rfl) (by kernel_rfl) (fun _ _ _ h => h) (Or.inl ⟨by rfl, by intro wq hSq; obtain ⟨hq1, hq2, hq3, hq4⟩ := hSq; go_simp; try with_reducible rfl⟩) (by assumption) ?_
                simp only [List.setIfInBounds_toArray, List.set_cons_zero, List.set_cons_succ]
                refine tkL (i := 1) (d := 64) (v := ?_) rfl rfl (by kernel_rfl) (by kernel_rfl) (by kernel_rfl) (by kernel_rfl) (fun _ _ _ h => h) (Or.inl ⟨by rfl, by intro wq hSq; obtain ⟨hq1, hq2, hq3, hq4⟩ := hSq; go_simp; try with_reducible rfl⟩) (by assumption) ?_
                simp only [List.setIfInBounds_toArray, List.set_cons_zero, List.set_cons_succ]
                refine tkL (i := 2) (d := 65) (v := ?_) rfl rfl (by kernel_rfl) (by kernel_rfl) (by kernel_rfl) (by kernel_rfl) (fun _ _ _ h => h) (Or.inl ⟨by rfl, by intro wq hSq; obtain ⟨hq1, hq2, hq3, hq4⟩ := hSq; go_simp; try with_reducible rfl⟩) (by assumption) ?_
                simp only [List.setIfInBounds_toArray, List.set_cons_zero, List.set_cons_succ]
                refine tkL (i := 3) (d := 66) (v := ?_) rfl rfl (by kernel_rfl) (by kernel_rfl) (by kernel_rfl) (by kernel_rfl) (fun _ _ _ h => h) (Or.inl ⟨by rfl, by intro wq hSq; obtain ⟨hq1, hq2, hq3, hq4⟩ := hSq; go_simp; try with_reducible rfl⟩) (by assumption) ?_
                simp only [List.setIfInBounds_toArray, List.set_cons_zero, List.set_cons_succ]
                refine tkL (i := 4) (d := 67) (v := ?_) rfl rfl (by kernel_rfl) (by kernel_rfl) (by kernel_rfl) (by kernel_rfl) (fun _ _ _ h => h) (Or.inl ⟨by rfl, by intro wq hSq; obtain ⟨hq1, hq2, hq3, hq4⟩ := hSq; go_simp; try with_reducible rfl⟩) (by assumption) ?_
                simp only [List.setIfInBounds_toArray, List.set_cons_zero, List.set_cons_succ]
                refine tkL (i := 5) (d := 68) (v := ?_) rfl rfl (by kernel_rfl) (by kernel_rfl) (by kernel_rfl) (by kernel_rfl) (fun _ _ _ h => h) (Or.inl ⟨by rfl, by intro wq hSq; obtain ⟨hq1, hq2, hq3, hq4⟩ := hSq; go_simp; try with_reducible rfl⟩) (by assumption) ?_
                simp only [List.setIfInBounds_toArray, List.set_cons_zero, List.set_cons_succ]
                refine tkL (i := 6) (d := 69) (v := ?_) rfl rfl (by kernel_rfl) (by kernel_rfl) (by kernel_rfl) (by kernel_rfl) (fun _ _ _ h => h) (Or.inl ⟨by rfl, by intro wq hSq; obtain ⟨hq1, hq2, hq3, hq4⟩ := hSq; go_simp; try with_reducible rfl⟩) (by assumption) ?_
                simp only [List.setIfInBounds_toArray, List.set_cons_zero, List.set_cons_succ]
                refine tkL (i := 7) (d := 70) (v := ?_) rfl rfl (by kernel_rfl) (by kernel_rfl) (by kernel_rfl) (by kernel_rfl) (fun _ _ _ h => h) (Or.inl ⟨by rfl, by intro wq hSq; obtain ⟨hq1, hq2, hq3, hq4⟩ := hSq; go_simp; try with_reducible rfl⟩) (by assumption) ?_
                simp only [List.setIfInBounds_toArray, List.set_cons_zero, List.set_cons_succ]
                refine tkL (i := 8) (d := 71) (v := ?_) rfl rfl (by kernel_rfl) (by kernel_rfl) (by kernel_rfl) (by kernel_rfl) (fun _ _ _ h => h) (Or.inl ⟨by rfl, by intro wq hSq; obtain ⟨hq1, hq2, hq3, hq4⟩ := hSq; go_simp; try with_reducible rfl⟩) (by assumption) ?_
                simp only [List.setIfInBounds_toArray, List.set_cons_zero, List.set_cons_succ]
                refine tkL (i := 9) (d := 72) (v := ?_) rfl rfl (by kernel_rfl) (by kernel_rfl) (by kernel_rfl) (by kernel_rfl) (fun _ _ _ h => h) (Or.inl ⟨by rfl, by intro wq hSq; obtain ⟨hq1, hq2, hq3, hq4⟩ := hSq; go_simp; try with_reducible rfl⟩) (by assumption) ?_
                simp only [List.setIfInBounds_toArray, List.set_cons_zero, List.set_cons_succ]
                refine lastL rfl (by kernel_rfl) (by kernel_rfl) (fun K hK => ?_)
                rw [if_pos (by rfl)]
                obtain ⟨hq1, hq2, -, -⟩ := hS0
                have HPw : Hid (wr.drew.heap[pb]? = some (.cells d 3 (0, 0))) := HPd.out
                have frw := free_of_block (i := q) HPw.out
                go_simp
                refine hK.out _ _ (NoPanic.normal ?_)
                clear hK K
                have O8 : Hid (Out pb (pb + 1) W7 (wr.drew.setCell ⟨pb, q, none⟩ (.int .i64 nx))) := (ho.trans (Out.of_below (Below.drew (Below.refl wr.heap.size wr)))).setCell (Nat.le_refl _) (Nat.lt_succ_self _) _ _
                clear SB frw hq1 hq2
                go_wp2
                go_roundw
                case rel =>
                  refine ⟨q + 1, _, by omega, by go_num, block_set HPw.out, by simpa using hds, fun i hi => ?_, O8.out⟩
                  by_cases e : i = q
                  · subst e; rw [set_at (by omega), HG2.out]
                  · rw [set_ne e]; exact HIn.out i (by omega)
                case measure => simp [intOf]; omega
              · have hqt' : q = tl := by omega
                subst hqt'
                have HUw : Hid (∀ g, g < U.heap.size → g ≠ fb → wr.heap[g]? = U.heap[g]?) := fun g hg hne => by
                  have hg' : g < pb := by have := Hpb.out; omega
                  rw [ho.block g (Nat.lt_of_lt_of_le hg' (Nat.le_of_lt (box_lt HP7.out))) (by omega), o7.out.block g (Nat.lt_of_lt_of_le hg' (Nat.le_of_lt (box_lt HP6.out))) (by omega), Hq6.out.block g hg']
                have hLl : (gf (clF P F) j).length = q := by rw [clF_at (by rw [Hm.out]; exact hlt), List.length_map]; exact Htl.out
                have hzw : pb < wr.heap.size := box_lt HPd.out
                have HIB : Hid (IB wr fb wr.heap.size (.slice (some ⟨pb, 0, none⟩) q q) (gf (clF P F) j) pb) := ⟨_, _, by rw [hLl], by rw [hLl]; exact Nat.le_refl _, fun _ => ⟨rfl, by omega, hzw, d, HPd.out, by rw [hLl]; exact HIn.out⟩⟩
                have HBi : Hid (wr.heap[fb]? = some (.cells (c.setIfInBounds j (.slice (some ⟨pb, 0, none⟩) q q)) 44 (0, 0))) := box_out HB7.out ho (by omega)
                have HFn : Hid (FiIn wr fb wr.heap.size (c.setIfInBounds j (.slice (some ⟨pb, 0, none⟩) q q)) (kbPut kb j pb) (clF P F) (j + 1)) := HFi.out.put2 HUw.out (by have := Hpb.out; omega) (by omega) (fun r hr => by have := (Hkb.out r hr).1; omega) HIB.out
                go_wp2_with fail
                go_roundw
                case rel =>
                  refine ⟨j + 1, _, kbPut kb j pb, by omega, by go_num, HBi, by simpa using hcs, HFn, fun r hr => ?_, hbi⟩
                  by_cases e0 : r = j
                  · subst e0
                    rw [kbPut_0]
                    exact ⟨by omega, hzw, fun r' hr' => by rw [kbPut_ne _ _ _ (by omega)]; have := (Hkb.out r' hr').2.1; have := Hpb.out; omega⟩
                  · rw [kbPut_ne _ _ _ e0]
                    obtain ⟨u1, u2, u3⟩ := Hkb.out r (by omega)
                    exact ⟨u1, by have := Hpb.out; omega, fun r' hr' => by rw [kbPut_ne _ _ _ (by omega)]; exact u3 r' hr'⟩
                case measure => simp [intOf]; omega
          · have hjm : j = m := by omega
            subst hjm
            have KW2 : Hid (U.heap[s + 1]? = some (.cells #[.slice none 0 0, .slice none 0 0] 30 (0, 0))) := box_bel KV2.out hb5 (by have := Hnf.out; omega)
            obtain ⟨r0, r1, f0, f1⟩ := box2_cells KW2.out
            obtain ⟨W8, hW8⟩ : ∃ W8, (U.setCell ⟨s + 1, 0, none⟩ (.slice pa k pc)).setCell ⟨s + 1, 1, none⟩ (.slice (some ⟨fb, 0, none⟩) j j) = W8 := ⟨_, rfl⟩
            have HR8 : Hid (W8.heap[s + 1]? = some (.cells #[.slice pa k pc, .slice (some ⟨fb, 0, none⟩) j j] 30 (0, 0))) := by subst hW8; exact box2_set KW2.out
            have o8 : Hid (Out (s + 1) (s + 1 + 1) U W8) := by subst hW8; exact ((Out.refl _ _ _).setCell (by omega) (by omega) _ _).setCell (by omega) (by omega) _ _
            obtain ⟨t0, t1, -, -⟩ := box2_cells HR8.out
            have g8 : Hid (Below w.heap.size w W8) := by
              have h1 := Hs.out; have h2 := Hnf.out
              exact (gV.out.trans (hb5.mono (by omega))).trans ((o8.out.below (by omega)).mono (by omega))
            have HLl : Hid ((clF P F).length = j) := by show _ = _; rw [clF_len]; exact Hm.out
            have HNB8 : Hid (NB W8 w.heap.size W8.heap.size (.slice pa k pc) P gb) := by
              have h1 := NBV.out.below (by rw [Hfb.out]; exact hb5 : Below V.heap.size V U)
              have h2 := Hz0.out; have h3 := HNb.out; have h4 := Hs.out; have h5 := Hnf.out; have h6 := o8.out.size
              exact (h1.out' o8.out (.inr (by omega))).mono (by omega) (by omega)
            have HFO : Hid (FOwn W8 fb U.heap.size (some ⟨fb, 0, none⟩) (clF P F)) := by
              have h5 := Hnf.out
              refine FOwn.out (w := U) (fun _ => ⟨fb, c, kb, Nat.le_refl _, hzU, rfl, HB.out, by rw [HLl.out]; omega, by rw [HLl.out]; exact HFi.out, fun r hr _ => ?_⟩) o8.out (.inr (by omega))
              rw [HLl.out] at hr
              obtain ⟨u1, u2, u3⟩ := Hkb.out r hr
              exact ⟨by omega, fun r' hr' _ => by have := u3 r' hr'; omega⟩
            have HGb : Hid (∃ gs, (gs < fb) ∧ NB W8 w.heap.size W8.heap.size (.slice pa k pc) P gs) := by
              by_cases hz : P = []
              · obtain ⟨a1, c1, e1, e2, -⟩ := HNB8.out
                exact ⟨0, by have := Hnf.out; omega, a1, c1, e1, e2, fun h => absurd hz h⟩
              · obtain ⟨a1, c1, e1, e2, e3⟩ := NBV.out
                obtain ⟨-, -, g3, -⟩ := e3 hz
                exact ⟨gb, by have := HNb.out; have := Hnf.out; omega, HNB8.out⟩
            clear HNB8
            go_wp2
            refine bodyPost_ret (v := .tuple #[vv pa k pc (some ⟨fb, 0, none⟩) j j, .bool true]) (by simp [results, Try.results21, go_sem, t0, t1]) rfl ⟨g8.out, .inl ⟨by rw [HN.out]; exact HFew.out.1, by rw [Hm.out]; exact HFew.out.2, _, rfl, ?_⟩⟩
            rw [HPP.out]
            obtain ⟨gs, hgs1, hgs2⟩ := HGb.out
            refine ⟨some ⟨fb, 0, none⟩, j, .slice pa k pc, gs, fb, U.heap.size, ?_, ?_, ?_, ?_, .inl hgs1, hgs2, HFO.out⟩
            · show _ = Value.agg #[_, .slice (some ⟨fb, 0, none⟩) (clF P F).length j]
              rw [HLl.out]
            · show (clF P F).length ≤ j
              rw [HLl.out]
              exact Nat.le_refl _
            · have := Hs.out; have := Hnf.out; omega
            · exact o8.out.size
  · rw [show (decide (N ≤ 100) && decide (m ≤ 20)) = false by simp; omega] at cA
    have HNo : Hid (¬ (E.length ≤ 100 ∧ F.length ≤ 20)) := by rw [HN.out, Hm.out]; exact hfew
    obtain ⟨W1, hW1⟩ : ∃ W1, (W0.setCell ⟨s + 1, 0, none⟩ (.slice none 0 0)).setCell ⟨s + 1, 1, none⟩ (.slice none 0 0) = W1 := ⟨_, rfl⟩
    obtain ⟨t0, t1, -, -⟩ := box2_cells (show W1.heap[s + 1]? = some (.cells #[.slice none 0 0, .slice none 0 0] 30 (0, 0)) by subst hW1; exact box2_set H2.out)
    have o1 : Out (s + 1) (s + 1 + 1) W0 W1 := by subst hW1; exact ((Out.refl _ _ _).setCell (by omega) (by omega) _ _).setCell (by omega) (by omega) _ _
    have g1 : Below w.heap.size w W1 := q0.trans ((o1.below (Nat.le_of_lt (box_lt H2.out))).mono (by have := Hs.out; omega))
    clear hE hsz hG
    go_enter Try.func21, Try.ntmps21
    go_wp2_with (go_at_call 33; refine (cA _).mono ?_; rintro e W9 ⟨rfl, e9⟩; subst W9)
    refine bodyPost_ret (v := .tuple #[vv none 0 0 none 0 0, .bool false]) (by simp [results, Try.results21, go_sem, t0, t1]) rfl ⟨g1, .inr ⟨HNo.out, rfl⟩⟩
end Go.Proofs.Ytfphffbclpmobaa
