import Derived.Test.YtfmgaenedkjmkaaGi
/- The specification: a name that is put, the walk. -/
namespace Go.Proofs.Ytfmgaenedkjmkaa
open Go.ChangeShapes Go.WideShapes Go.ChangeAt Go.RowKit
set_option linter.unusedVariables false
open Hd

attribute [local go_sem] Oper.semAt_some

theorem SpO.below {w w' : World} {B : Nat} {v : Value} {d : Dr} {kb : Nat → Nat} (h : SpO w B v d kb) (hb : Below w.heap.size w w') : SpO w' B v d kb := by
  obtain ⟨gs, c, cs, vB, rfl, h1, h2, h3, h4, h5⟩ := h
  exact ⟨gs, c, cs, vB, rfl, h1, h2, box_on h3 hb, h4, h5.below hb⟩
set_option maxHeartbeats 8000000 in
set_option maxRecDepth 20000 in
theorem specPut_any (v : Value) (d : Dr) (x : Nm) (w : World) (hsm : Sml d) (hf : FewD d) (hs : x.nm.size ≤ 9223372036854775807) (hc : DirAt w v d) {D : Dr} {B : Bool} (hDB : PuOk d x D B) :
    Calls Try.prog 8 #[v, nv x] w fun e w' => Below w.heap.size w w' ∧ ∃ v', e = .returned (.tuple #[v', .bool B]) ∧ DOwn w' w.heap.size w'.heap.size v' D := by
  obtain ⟨g, hg⟩ := tel_ex (GS d)
  have cG : ∀ W y, DirAt W y d → Calls Try.prog 28 #[y] W (fun e w' => e = .returned (.bool g) ∧ Below W.heap.size W w') := fun W y h => (specGood_any y d W hsm hf h).mono (fun e w' q => ⟨q.1.is hg, q.2⟩)
  have cN := fun W => l8Name_any x.nm W hs
  have cI := fun W => l1In_any x.fl 0 1000 W
  have HPu : Hid (g = true → isE x = true → GS d ∧ (rm 9 d x.nm = none → B = false) ∧ ∀ f, rm 9 d x.nm = some f → B = true ∧ ∃ k, AtN (bkL f x.nm) x.nm k ∧ D = exD f (bkN f x.nm) (exR (bkL f x.nm) x.nm k [x])) := fun h1 h2 => ⟨hg.1 h1, hDB.2.2 (hg.1 h1) h2⟩
  have HOw : Hid (GS d → ∀ W y, DirAt W y d → Calls Try.prog 31 #[y] W fun e w' => Below W.heap.size W w' ∧ ∃ v' kb, e = .returned v' ∧ SpO w' W.heap.size v' d kb) := fun h W y hd => l8OwnG_any y d W (fun e => by have := (h.gu.slot x.nm).1; rw [e] at this; simp at this) hsm (fun i hi => by have := (good_names h hi).1; omega) hd
  have HZ : Hid (B = false → D = ⟨0, [], []⟩) := hDB.2.1
  have HNo : Hid (g = false ∨ isN x.nm = false ∨ isF x.fl = false → B = false) := fun h => hDB.1 (fun q => by
    have q2 := q.2
    simp only [isE, Bool.and_eq_true] at q2
    rcases h with h | h | h
    · have := hg.2 q.1; rw [h] at this; cases this
    · rw [h] at q2; exact absurd q2.1 (by simp)
    · rw [h] at q2; exact absurd q2.2 (by simp))
  have HE : Hid (isN x.nm = true → isF x.fl = true → isE x = true) := fun h1 h2 => by unfold isE; rw [h1, h2]; rfl
  obtain ⟨a, c, a', c', rfl, hca, hca', ha, ha'⟩ := hc
  have HD : Hid (∀ W, Below w.heap.size w W → DirAt W (dv d.dp a d.sl.length c a' d.bs.length c') d) := fun W h => ⟨a, c, a', c', rfl, hca, hca', ha.below h, ha'.below h⟩
  clear ha ha' hca hca' hsm hf hDB hg
  unfold dv at *
  obtain ⟨DP, hDP⟩ : ∃ DP, d.dp = DP := ⟨_, rfl⟩
  obtain ⟨n, hn⟩ : ∃ n, d.sl.length = n := ⟨_, rfl⟩
  obtain ⟨m, hm⟩ : ∃ m, d.bs.length = m := ⟨_, rfl⟩
  rw [hDP, hn, hm] at HD ⊢
  clear hDP hn hm
  obtain ⟨s, fl⟩ := x
  unfold nv at *
  simp only at *
  have hfi : isF fl = (decide (0 ≤ fl) && decide (fl ≤ 1000)) := rfl
  rw [← hfi] at cI
  clear hfi
  obtain ⟨o, ho⟩ : ∃ o, isN s = o := ⟨_, rfl⟩
  obtain ⟨o', ho'⟩ : ∃ o, isF fl = o := ⟨_, rfl⟩
  rw [ho] at cN HNo HE
  rw [ho'] at cI HNo HE
  clear ho ho'
  obtain ⟨W0, hW0⟩ : ∃ W0, ((w.alloc (.cells #[.int .i64 DP, .slice a n c, .slice a' m c'] 32)).alloc (.cells #[.string s, .int .i64 fl] 36)).alloc Z27 = W0 := ⟨_, rfl⟩
  have q0 : Below w.heap.size w W0 := by subst hW0; exact ba3 _ _ _ _
  obtain ⟨B1, B2, B3⟩ : W0.heap[w.heap.size]? = some (.cells #[.int .i64 DP, .slice a n c, .slice a' m c'] 32 (0, 0)) ∧ W0.heap[w.heap.size + 1]? = some (.cells #[.string s, .int .i64 fl] 36 (0, 0)) ∧ W0.heap[w.heap.size + 1 + 1]? = some (.cells #[.int .i64 0, .slice none 0 0, .slice none 0 0] 32 (0, 0)) := by subst hW0; exact al3 _ _ _ _
  have HA : Hid (W0.heap[w.heap.size]? = some (.cells #[.int .i64 DP, .slice a n c, .slice a' m c'] 32 (0, 0))) := B1
  have HN : Hid (W0.heap[w.heap.size + 1]? = some (.cells #[.string s, .int .i64 fl] 36 (0, 0))) := B2
  have HB : Hid (W0.heap[w.heap.size + 1 + 1]? = some (.cells #[.int .i64 0, .slice none 0 0, .slice none 0 0] 32 (0, 0))) := B3
  obtain ⟨x0, x1, x2, -, -, -⟩ := box3_cells B1
  have z0 := box_lt B3
  clear B1 B2 B3
  have ZERO : Hid (∀ W1, Below w.heap.size w W1 → W1.heap[w.heap.size + 1 + 1]? = some (.cells #[.int .i64 0, .slice none 0 0, .slice none 0 0] 32 (0, 0)) → B = false → ∃ W2, ((W1.setCell ⟨w.heap.size + 1 + 1, 0, none⟩ (.int .i64 0)).setCell ⟨w.heap.size + 1 + 1, 1, none⟩ (.slice none 0 0)).setCell ⟨w.heap.size + 1 + 1, 2, none⟩ (.slice none 0 0) = W2 ∧ W2.heap[w.heap.size + 1 + 1]? = some (.cells #[.int .i64 0, .slice none 0 0, .slice none 0 0] 32 (0, 0)) ∧ Below w.heap.size w W2 ∧ DOwn W2 w.heap.size W2.heap.size (.agg #[.int .i64 0, .slice none 0 0, .slice none 0 0]) D) := fun W1 h1 h2 hB => by
    have o := box3_out W1 (w.heap.size + 1 + 1) (.int .i64 0) (.slice none 0 0) (.slice none 0 0)
    refine ⟨_, rfl, box3_set h2, h1.trans ((o.below (by have := box_lt h2; omega)).mono (by omega)), ?_⟩
    rw [HZ.out hB]
    exact own_zero _ _ _
  go_enter Try.func8, Try.ntmps8
  go_wp2_with fail
  refine (cG _ _ (HD.out _ q0)).mono ?_
  rintro e w1 ⟨rfl, b1⟩
  clear x0 x1 x2 hW0 cG
  have HB1 : Hid (w1.heap[w.heap.size + 1 + 1]? = some (.cells #[.int .i64 0, .slice none 0 0, .slice none 0 0] 32 (0, 0))) := box_on HB.out b1
  have g1 := Below.comp q0 b1
  cases g with
  | false =>
    have hB := HNo.out (.inl rfl)
    subst hB
    obtain ⟨f0, f1, f2, f3, f4, f5⟩ := box3_cells HB1.out
    go_wp2_with fail
    obtain ⟨W2, hW2, k1, k2, k3⟩ := ZERO.out w1 g1 HB1.out (by simp)
    rw [hW2]
    obtain ⟨t0, t1, t2, -, -, -⟩ := box3_cells k1
    exact bodyPost_ret (v := .tuple #[.agg #[.int .i64 0, .slice none 0 0, .slice none 0 0], .bool false]) (by simp [results, Try.results8, go_sem, t0, t1, t2]) rfl ⟨k2, _, rfl, k3⟩
  | true =>
    obtain ⟨y0, y1, -, -⟩ := box2_cells (box_on HN.out b1)
    go_wp2_with fail
    refine (cN _).mono ?_
    rintro e w2 ⟨rfl, hw2⟩
    have hw2 := hw2.symm
    subst hw2
    cases o with
    | false =>
      have hB := HNo.out (.inr (.inl rfl))
      subst hB
      obtain ⟨f0, f1, f2, f3, f4, f5⟩ := box3_cells HB1.out
      go_wp2_with fail
      obtain ⟨W2, hW2, k1, k2, k3⟩ := ZERO.out _ g1 HB1.out (by simp)
      rw [hW2]
      obtain ⟨t0, t1, t2, -, -, -⟩ := box3_cells k1
      exact bodyPost_ret (v := .tuple #[.agg #[.int .i64 0, .slice none 0 0, .slice none 0 0], .bool false]) (by simp [results, Try.results8, go_sem, t0, t1, t2]) rfl ⟨k2, _, rfl, k3⟩
    | true =>
      go_wp2_with fail
      refine (cI _).mono ?_
      rintro e w2 ⟨rfl, hw2⟩
      have hw2 := hw2.symm
      subst hw2
      cases o' with
      | false =>
        have hB := HNo.out (.inr (.inr rfl))
        subst hB
        obtain ⟨f0, f1, f2, f3, f4, f5⟩ := box3_cells HB1.out
        go_wp2_with fail
        obtain ⟨W2, hW2, k1, k2, k3⟩ := ZERO.out _ g1 HB1.out (by simp)
        rw [hW2]
        obtain ⟨t0, t1, t2, -, -, -⟩ := box3_cells k1
        exact bodyPost_ret (v := .tuple #[.agg #[.int .i64 0, .slice none 0 0, .slice none 0 0], .bool false]) (by simp [results, Try.results8, go_sem, t0, t1, t2]) rfl ⟨k2, _, rfl, k3⟩
      | true =>
        have hEx := HE.out (by simp) (by simp)
        obtain ⟨hGd, hP1, hP2⟩ := HPu.out (by simp) hEx
        have HEx : Hid _ := hEx
        have HP1 : Hid _ := hP1
        have HP2 : Hid _ := hP2
        clear HNo HE HPu hEx hP1 hP2 y0 y1 cN cI
        have hA1 := box_on HA.out b1
        have HN1 : Hid _ := box_on HN.out b1
        obtain ⟨x0, x1, x2, x3, x4, x5⟩ := box3_cells hA1
        have cO := HOw.out hGd _ _ (HD.out _ g1)
        clear HOw
        go_wp2_with fail
        refine cO.mono ?_
        rintro e w3 ⟨b3, v3, kb, rfl, hSp⟩
        clear cO x0 x1 x2 x3 x4 x5
        obtain ⟨gs, cS, cs, vB, rfl, s1, s2, s3, s4, s5⟩ := hSp
        have hkl := (hGd.gu.slot s).2.2.1
        obtain ⟨gB, cap, hvB, hgB⟩ : ∃ gB cap, vB = .slice (some ⟨gB, 0, none⟩) d.bs.length cap ∧ gB < w3.heap.size := by
          obtain ⟨⟨xs, ho, -⟩, -⟩ := s5
          rcases ho.2 with ⟨-, e2⟩ | ⟨g, cap', cur, e1, -, e3, -⟩
          · omega
          · exact ⟨g, cap', e1, box_lt e3⟩
        subst hvB
        have hA3 := box_on hA1 b3
        obtain ⟨x0, x1, x2, x3, x4, x5⟩ := box3_cells hA3
        obtain ⟨W4, hW4⟩ : ∃ W4, ((w3.setCell ⟨w.heap.size, 0, none⟩ (.int .i64 d.dp)).setCell ⟨w.heap.size, 1, none⟩ (.slice (some ⟨gs, 0, none⟩) d.sl.length cS)).setCell ⟨w.heap.size, 2, none⟩ (.slice (some ⟨gB, 0, none⟩) d.bs.length cap) = W4 := ⟨_, rfl⟩
        have o4 : Out w.heap.size (w.heap.size + 1) w3 W4 := by subst hW4; exact box3_out _ _ _ _ _
        have HA4 : Hid (W4.heap[w.heap.size]? = some (.cells #[.int .i64 d.dp, .slice (some ⟨gs, 0, none⟩) d.sl.length cS, .slice (some ⟨gB, 0, none⟩) d.bs.length cap] 32 (0, 0))) := by subst hW4; exact box3_set hA3
        have z1 := b1.size
        have z3 := b3.size
        have z4 := o4.size
        have HN4 : Hid (W4.heap[w.heap.size + 1]? = some (.cells #[.string s, .int .i64 fl] 36 (0, 0))) := box_out (box_on HN1.out b3) o4 (by omega)
        have HB4 : Hid (W4.heap[w.heap.size + 1 + 1]? = some (.cells #[.int .i64 0, .slice none 0 0, .slice none 0 0] 32 (0, 0))) := box_out (box_on HB1.out b3) o4 (by omega)
        have HS4 : Hid (SpO W4 w1.heap.size (.agg #[.int .i64 d.dp, .slice (some ⟨gs, 0, none⟩) d.sl.length cS, .slice (some ⟨gB, 0, none⟩) d.bs.length cap]) d kb) := ⟨gs, cS, cs, _, rfl, s1, s2, box_out s3 o4 (by omega), s4, s5.keepT (KeepT.out hA3 ⟨by decide, by decide⟩ o4)⟩
        have g4 : Below w.heap.size w W4 := (Below.comp g1 b3).trans (o4.below (by omega))
        have HGd : Hid (GS d) := hGd
        obtain ⟨B0, hB0⟩ : ∃ B0, w1.heap.size = B0 := ⟨_, rfl⟩
        have hB00 : w.heap.size + 3 ≤ B0 := by omega
        rw [hB0] at HS4
        have hB4 : B0 ≤ W4.heap.size := by omega
        clear hA1 hA3 s3 s5 s4 s1 s2 o4 z3 z4 b3 HN1 HB1 HA HB HN hB0 z1 b1 g1
        go_wp2_with fail
        clear hW4 x0 x1 x2 x3 x4 x5
        go_loopw [6] (fun x wr => ∃ (d' e : Dr) (kb : Nat → Nat) (gs cS gB cap : Nat), Hid (Hd.Way d' e ∧ rm 9 e s = rm 9 d s ∧ d'.bs.length = e.bs.length) ∧ Hid (SpO wr B0 (.agg #[.int .i64 d'.dp, .slice (some ⟨gs, 0, none⟩) d'.sl.length cS, .slice (some ⟨gB, 0, none⟩) d'.bs.length cap]) d' kb) ∧ Hid (wr.heap[w.heap.size]? = some (.cells #[.int .i64 d'.dp, .slice (some ⟨gs, 0, none⟩) d'.sl.length cS, .slice (some ⟨gB, 0, none⟩) d'.bs.length cap] 32 (0, 0))) ∧ Hid (wr.heap[w.heap.size + 1]? = some (.cells #[.string s, .int .i64 fl] 36 (0, 0))) ∧ Hid (wr.heap[w.heap.size + 1 + 1]? = some (.cells #[.int .i64 0, .slice none 0 0, .slice none 0 0] 32 (0, 0))) ∧ Below w.heap.size w wr ∧ B0 ≤ wr.heap.size) (fun _ wr => mu w.heap.size s wr)
        case atStart => exact ⟨d, d, kb, gs, cS, gB, cap, ⟨HGd.out.way, rfl, rfl⟩, HS4, HA4, HN4, HB4, g4, hB4⟩
        case round =>
          obtain ⟨d', e, kb, gs, cS, gB, cap, HWy, HSp, HA, HN, HB, hbw, hBr⟩ := hrel
          obtain ⟨hW, hrm, hbl⟩ := HWy.out
          have hdir := HSp.out.down.at_
          have HBk : Hid (∀ W, Below wr.heap.size wr W → Calls Try.prog 32 #[.agg #[.int .i64 d'.dp, .slice (some ⟨gs, 0, none⟩) d'.sl.length cS, .slice (some ⟨gB, 0, none⟩) d'.bs.length cap], .string s] W fun z w' => z = .returned (.int .i64 (bkN d' s : Int)) ∧ Below W.heap.size W w') := fun W h => by
            have := l8Bucket_any _ d' s W (sz_gu hW.u) hs (hdir.below h)
            rw [bkOf_gu hW.u s] at this
            exact this
          obtain ⟨kS, hkS, hkD⟩ : ∃ k, AtN (bkL d' s) s k ∧ (roomy d' s = true → B = true ∧ D = exD e (bkN e s) (exR (bkL e s) s k [⟨s, fl⟩])) := by
            by_cases hr : roomy d' s = true
            · obtain ⟨h1, k, h2, h3⟩ := HP2.out e (by rw [← hrm]; exact rm_yes (by rw [← hW.roomy s]; exact hr))
              exact ⟨k, by rw [hW.names s]; exact h2, fun _ => ⟨h1, h3⟩⟩
            · obtain ⟨k, hk⟩ := at_ex (bkL d' s) s
              exact ⟨k, hk, fun h => absurd h hr⟩
          obtain ⟨hris, hl4⟩ := way_ris hW s
          obtain ⟨gs', cS', cs, vB, hv, s1, s2, s3, s4, s5⟩ := HSp.out
          simp only [Value.agg.injEq, Array.mk.injEq, List.cons.injEq, Value.slice.injEq, Option.some.injEq, Addr.mk.injEq] at hv
          obtain ⟨-, ⟨⟨rfl, -⟩, -, rfl⟩, rfl, -⟩ := hv
          obtain ⟨hslot, hk0, hkm, -⟩ := hW.u.slot s
          obtain ⟨na, nc, u0, u1, hnm, hnc⟩ := s5.nms rfl hkm
          obtain ⟨hq1, hq2, hq3⟩ := hW.u.deep s
          have hmu : Hid (mu w.heap.size s wr = 9 - dpN d' s) := mu_gu HA.out hW.u s3 s4 s5
          have HAt : Hid (∀ W, Below wr.heap.size wr W → Calls Try.prog 33 #[.slice na (bkL d' s).length nc, .string s] W fun z w' => z = .returned (.tuple #[.int .i64 (kS : Int), .bool (hasN (bkL d' s) s kS)]) ∧ Below W.heap.size W w') := fun W h => l8At_any na (bkL d' s) nc s kS W (by omega) (hnm.below h) hkS
          have HPt : Hid (∀ W, Below wr.heap.size wr W → Calls Try.prog 34 #[.slice na (bkL d' s).length nc, .agg #[.string s, .int .i64 fl]] W fun z w' => Below W.heap.size W w' ∧ ∃ v, z = .returned v ∧ OwnN w' W.heap.size v (putL (bkL d' s) ⟨s, fl⟩ kS)) := fun W h => l8Put_any na (bkL d' s) nc ⟨s, fl⟩ kS W (by omega) hnc (hnm.below h) hkS
          have hro : Hid (roomy d' s = (hasN (bkL d' s) s kS || decide ((bkL d' s).length < 4))) := by show _ = _; unfold roomy; rw [hasN_is hris hkS]
          have HkD : Hid _ := hkD
          have HkS : Hid _ := hkS
          have hu1 : (gb d'.bs (bkN d' s)).ns.length = (bkL d' s).length := rfl
          rw [hq1] at u0
          rw [hu1] at u1
          have HD : Hid (∀ W, Below wr.heap.size wr W → DirAt W (.agg #[.int .i64 d'.dp, .slice (some ⟨gs, 0, none⟩) d'.sl.length cS, .slice (some ⟨gB, 0, none⟩) d'.bs.length cap]) d') := fun W h => hdir.below h
          have HQ : Hid ((gb d'.bs (bkN d' s)).dp = (dpN d' s : Int)) := hq1
          have HGB : Hid (GB wr B0 (.slice (some ⟨gB, 0, none⟩) d'.bs.length cap) d'.bs kb) := s5
          have HSL : Hid (wr.heap[gs]? = some (.cells cs 3 (0, 0)) ∧ intsN d'.sl.length d'.sl cs ∧ d'.sl.length ≤ cS ∧ B0 ≤ gs) := ⟨s3, s4, s1, s2⟩
          clear hu1 hnc hnm s1 s2 s3 s4 s5 hdir hW hrm hkD hkS hris hslot hk0 hq1
          obtain ⟨qn, hqn⟩ : ∃ qn, dpN d' s = qn := ⟨_, rfl⟩
          obtain ⟨DP, hDP⟩ : ∃ DP, d'.dp = DP := ⟨_, rfl⟩
          obtain ⟨n, hn⟩ : ∃ n, d'.sl.length = n := ⟨_, rfl⟩
          obtain ⟨m, hm⟩ : ∃ m, d'.bs.length = m := ⟨_, rfl⟩
          obtain ⟨k, hk⟩ : ∃ k, bkN d' s = k := ⟨_, rfl⟩
          obtain ⟨nl, hnl⟩ : ∃ nl, (bkL d' s).length = nl := ⟨_, rfl⟩
          obtain ⟨hb, hhb⟩ : ∃ hb, hasN (bkL d' s) s kS = hb := ⟨_, rfl⟩
          have HG : Hid (d'.dp = DP ∧ d'.sl.length = n ∧ d'.bs.length = m ∧ bkN d' s = k ∧ (bkL d' s).length = nl ∧ dpN d' s = qn) := ⟨hDP, hn, hm, hk, hnl, hqn⟩
          rw [hhb, hnl] at hro HAt
          rw [hnl] at HPt u1 hl4
          rw [hDP, hn, hm] at HA HSp HD
          rw [hDP, hn, hm, hk] at HBk
          rw [hk] at u0 u1 hkm
          rw [hqn] at u0 hmu hq2
          rw [hDP] at hq2 hq3
          rw [hm] at hkm hbl HGB
          rw [hn] at HSL
          have HBL : Hid (m = e.bs.length) := hbl
          clear hDP hn hm hk hnl hqn hhb hbl
          have hkm' : (k : Int) < (m : Int) := by omega
          obtain ⟨x0, x1, x2, -, -, -⟩ := box3_cells HA.out
          obtain ⟨y0, y1, -, -⟩ := box2_cells HN.out
          go_wp2_with fail
          refine (HBk.out _ (Below.refl _ _)).mono ?_
          rintro z w1 ⟨rfl, b1⟩
          clear x0 x1 x2 y0 y1
          obtain ⟨x0, x1, x2, -, -, -⟩ := box3_cells (box_on HA.out b1)
          have u0' := cell_on u0 b1
          have u1' := cell_on u1 b1
          obtain ⟨F, hF⟩ : ∃ F, w1.heap.size = F := ⟨_, rfl⟩
          have HF0 : Hid _ := hF
          obtain ⟨W2, hW2⟩ : ∃ W2, w1.alloc (.cells #[.int .i64 (qn : Int), .slice na nl nc] 63) = W2 := ⟨_, rfl⟩
          have b2 : Below w1.heap.size w1 W2 := by subst hW2; exact below_alloc _ _
          have HF : Hid (W2.heap[F]? = some (.cells #[.int .i64 (qn : Int), .slice na nl nc] 63 (0, 0))) := by subst hW2 hF; exact al1 _ _
          have b02 : Below wr.heap.size wr W2 := Below.comp b1 b2
          obtain ⟨j0, j1, -, -⟩ := box2_cells HF.out
          obtain ⟨y0, y1, -, -⟩ := box2_cells (box_on HN.out b02)
          go_wp2_with fail
          refine (HAt.out _ b02).mono ?_
          rintro z w3 ⟨rfl, b3⟩
          have b03 := Below.comp b02 b3
          clear x0 x1 x2 y0 y1 u0 u1 u0' u1' j0 j1 hW2 hF HBk HAt
          have HF3 : Hid (w3.heap[F]? = some (.cells #[.int .i64 (qn : Int), .slice na nl nc] 63 (0, 0))) := box_on HF.out b3
          obtain ⟨j0, j1, -, -⟩ := box2_cells HF3.out
          cases hb with
          | true =>
            have hroT : roomy d' s = true := by rw [hro.out]; rfl
            go_wp2_with fail
            obtain ⟨hBt, hDt⟩ := HkD.out hroT
            subst hBt
            have HDt : Hid _ := hDt
            have HroT : Hid _ := hroT
            clear hDt hroT j0 j1
            have SB : Hid (∀ W, Below w3.heap.size w3 W → W.cell? ⟨w.heap.size, 2, none⟩ = some (.slice (some ⟨gB, 0, none⟩) m cap) ∧ W.cell? ⟨F, 1, none⟩ = some (.slice na nl nc) ∧ W.cell? ⟨w.heap.size + 1, 0, none⟩ = some (.string s) ∧ W.cell? ⟨w.heap.size + 1, 1, none⟩ = some (.int .i64 fl)) := fun W hW => ⟨(box3_cells (box_on (box_on HA.out b03) hW)).2.2.1, (box2_cells (box_on HF3.out hW)).2.1, (box2_cells (box_on (box_on HN.out b03) hW)).1, (box2_cells (box_on (box_on HN.out b03) hW)).2.1⟩
            refine wp_region_L (fun W => Below w3.heap.size w3 W) 9 10 (by kernel_rfl) rfl (Below.drew (Below.refl _ _)) (fun hS0 => ?_)
            refine tkL (i := 0) (d := 54) (v := ?_) rfl rfl (by kernel_rfl) (by kernel_rfl) (by kernel_rfl) (by kernel_rfl) (fun _ _ _ h => h) (Or.inl ⟨by rfl, by intro wq hSq; obtain ⟨q1, q2, q3, q4⟩ := SB.out wq hSq; go_simp; try with_reducible rfl⟩) (by assumption) ?_
            simp only [List.setIfInBounds_toArray, List.set_cons_zero, List.set_cons_succ]
            refine tkL (i := 1) (d := 55) (v := ?_) rfl rfl (by kernel_rfl) (by kernel_rfl) (by kernel_rfl) (by kernel_rfl) (fun _ _ _ h => h) (Or.inl ⟨by rfl, by intro wq hSq; obtain ⟨q1, q2, q3, q4⟩ := SB.out wq hSq; go_simp; try with_reducible rfl⟩) (by assumption) ?_
            simp only [List.setIfInBounds_toArray, List.set_cons_zero, List.set_cons_succ]
            refine tkL (i := 2) (d := 56) (v := ?_) rfl rfl (by kernel_rfl) (by kernel_rfl) (by kernel_rfl) (by kernel_rfl) (fun _ _ _ h => h) (Or.inl ⟨by rfl, by intro wq hSq; obtain ⟨q1, q2, q3, q4⟩ := SB.out wq hSq; go_simp; try with_reducible rfl⟩) (by assumption) ?_
            simp only [List.setIfInBounds_toArray, List.set_cons_zero, List.set_cons_succ]
            refine tkL (i := 3) (d := 57) (v := ?_) rfl rfl (by kernel_rfl) (by kernel_rfl) (by kernel_rfl) (by kernel_rfl) (fun _ _ _ h => h) (Or.inl ⟨by rfl, by intro wq hSq; obtain ⟨q1, q2, q3, q4⟩ := SB.out wq hSq; go_simp; try with_reducible rfl⟩) (by assumption) ?_
            simp only [List.setIfInBounds_toArray, List.set_cons_zero, List.set_cons_succ]
            refine tkL (i := 4) (d := 58) (v := ?_) rfl rfl (by kernel_rfl) (by kernel_rfl) (by kernel_rfl) (by kernel_rfl) (fun _ _ _ h => h) (Or.inl ⟨by rfl, by intro wq hSq; obtain ⟨q1, q2, q3, q4⟩ := SB.out wq hSq; go_simp; try with_reducible rfl⟩) (by assumption) ?_
            simp only [List.setIfInBounds_toArray, List.set_cons_zero, List.set_cons_succ]
            refine tkL (i := 5) (d := 59) (v := ?_) rfl rfl (by kernel_rfl) (by kernel_rfl) (by kernel_rfl) (by kernel_rfl) (fun _ _ _ h => h) (Or.inl ⟨by rfl, by intro wq hSq; obtain ⟨q1, q2, q3, q4⟩ := SB.out wq hSq; go_simp; try with_reducible rfl⟩) (by assumption) ?_
            simp only [List.setIfInBounds_toArray, List.set_cons_zero, List.set_cons_succ]
            refine oneL (i := 6) rfl (by kernel_rfl) (fun K hK => ?_)
            go_simp
            refine (HPt.out w3.drew (Below.drew b03)).mono ?_
            rintro z w6 ⟨b6, v6, rfl, own6⟩
            have s6 : Below w3.heap.size w3 w6 := Below.comp hS0 b6
            refine hK.out _ _ s6 (fun _ => ?_)
            clear hK K
            obtain ⟨y6, c6, rfl⟩ := owns_form own6
            refine oneL (i := 7) rfl (by kernel_rfl) (fun K hK => ?_)
            go_simp
            refine hK.out _ _ s6 (fun _ => ?_)
            clear hK K
            refine tkL (i := 8) (d := 62) (v := ?_) rfl rfl (by kernel_rfl) (by kernel_rfl) (by kernel_rfl) (by kernel_rfl) (fun _ _ _ h => h) (Or.inl ⟨by rfl, by intro wq hSq; obtain ⟨q1, q2, q3, q4⟩ := SB.out wq hSq; go_simp; try with_reducible rfl⟩) (by assumption) ?_
            simp only [List.setIfInBounds_toArray, List.set_cons_zero, List.set_cons_succ]
            have s06 : Below wr.heap.size wr w6 := Below.comp b03 s6
            have hG6 := HGB.out.below s06
            obtain ⟨cur, hcur, hcsz, hBg⟩ := hG6.block HG.out.2.2.1
            have c1 : w6.cell? ⟨gB, k * 2 + 1, none⟩ = some (cur[k * 2 + 1]'(by omega)) := cell_of_block hcur (by simp)
            have f1 := free_of_block (i := k * 2 + 1) hcur
            refine lastL rfl (by kernel_rfl) (by kernel_rfl) (fun K hK => ?_)
            go_simp
            refine hK.out _ _ ?_
            clear hK K c1 f1
            obtain ⟨W7, hW7⟩ : ∃ W7, w6.setCell ⟨gB, k * 2 + 1, none⟩ (.slice y6 (putL (bkL d' s) ⟨s, fl⟩ kS).length c6) = W7 := ⟨_, rfl⟩
            rw [hW7]
            have o7 : Out gB (gB + 1) w6 W7 := by subst hW7; exact out_setCell _ _ _ _
            obtain ⟨hWw, hrm, hbl⟩ := HWy.out
            have hsz := gs_sizes hWw.s
            obtain ⟨hg1, hg2, hg3, hg4, hg5, hg6⟩ := HG.out
            obtain ⟨gg, hgg⟩ := OwnN.nb own6
            have h36 := hS0.size
            have h03 := b03.size
            have hs6 := s06.size
            have ho7 := o7.size
            have hG7 : GB W7 B0 (.slice (some ⟨gB, 0, none⟩) m cap) (d'.bs.set k ⟨(gb d'.bs k).dp, putL (bkL d' s) ⟨s, fl⟩ kS⟩) (kbPut kb k gg) := by
              subst hW7
              refine hG6.put1 hg3 hkm (hgg.mono (by omega) (Nat.le_refl _)) (fun hne r hr _ hn => ?_)
              have h1 := (hgg.type hne).1
              have h2 := (HGB.out.row (by rw [hg3]; exact hr) hn).2.1
              omega
            have HWp : Hd.Way (pD d' (bkN d' s) (putL (bkL d' s) ⟨s, fl⟩ kS)) D := by rw [HDt.out]; exact put_way (x := ⟨s, fl⟩) hWw HEx.out HkS.out HroT.out
            have hSp7 : SpO W7 B0 (.agg #[.int .i64 DP, .slice (some ⟨gs, 0, none⟩) n cS, .slice (some ⟨gB, 0, none⟩) m cap]) (pD d' (bkN d' s) (putL (bkL d' s) ⟨s, fl⟩ kS)) (kbPut kb k gg) := by
              obtain ⟨l1, l2, l3, l4⟩ := HSL.out
              have l6 := box_on l1 s06
              have hne : gs ≠ gB := fun e => by
                rw [e, hcur] at l6
                simp at l6
              refine ⟨gs, cS, cs, .slice (some ⟨gB, 0, none⟩) m cap, ?_, ?_, l4, box_out l6 o7 (by omega), ?_, ?_⟩
              · show _ = Value.agg #[.int .i64 d'.dp, .slice _ d'.sl.length _, _]
                rw [hg1, hg2]
              · show d'.sl.length ≤ cS
                rw [hg2]
                exact l3
              · show intsN d'.sl.length d'.sl cs
                rw [hg2]
                exact l2
              · show GB W7 B0 _ (d'.bs.set (bkN d' s) ⟨(gb d'.bs (bkN d' s)).dp, _⟩) _
                rw [hg4]
                exact hG7
            have cS8 := l8Sort_any _ _ _ _ W7 B0 hSp7 HWp (by omega) (by show d'.sl.length ≤ 1000; have := hWw.ln; omega) (by show (d'.bs.set _ _).length ≤ 1000; rw [List.length_set]; omega)
            have hA7 := box_out (box_on HA.out s06) o7 (.inl (by omega))
            have HB7 : Hid _ := box_out (box_on HB.out s06) o7 (.inl (by omega))
            have g7 : Below w.heap.size w W7 := (Below.trans hbw (s06.mono (by have := hbw.size; omega))).trans ((o7.below (by have := box_lt hcur; omega)).mono (by omega))
            have hB7z : B0 ≤ W7.heap.size := by omega
            obtain ⟨x0, x1, x2, -, -, -⟩ := box3_cells hA7
            clear hA7 hW7 o7 hWw hrm hbl hsz hg1 hg2 hg3 hg4 hg5 hg6 hgg h36 hs6 hG7 HWp hSp7 own6 hG6 hcur hcsz
            go_wp2_with fail
            refine cS8.mono ?_
            rintro z w8 ⟨b8, z8, v8, rfl, own8⟩
            have hB8 : w8.heap[w.heap.size + 1 + 1]? = some (.cells #[.int .i64 0, .slice none 0 0, .slice none 0 0] 32 (0, 0)) := by rw [b8.block _ (by omega)]; exact HB7.out
            obtain ⟨xx, aa, cc, gs8, rfl, h1, h2, h3⟩ := own8
            have h2' := h2
            obtain ⟨ax, cx, rfl, -, -⟩ := h2'
            have Own : Hid (DOwn w8 B0 w8.heap.size _ D) := ⟨_, aa, cc, gs8, rfl, h1, h2, h3⟩
            clear h1 h2 h3 cS8 x0 x1 x2
            obtain ⟨f0, f1, f2, f3, f4, f5⟩ := box3_cells hB8
            go_wp2_with fail
            obtain ⟨t0, t1, t2, -, -, -⟩ := box3_cells (box3_set hB8 (x0 := .int .i64 D.dp) (x1 := .slice ax D.sl.length cx) (x2 := .slice aa D.bs.length cc))
            have o9 := box3_out w8 (w.heap.size + 1 + 1) (.int .i64 D.dp) (.slice ax D.sl.length cx) (.slice aa D.bs.length cc)
            have z9 := o9.size
            have g70 := g7.size
            refine bodyPost_ret (v := .tuple #[.agg #[.int .i64 D.dp, .slice ax D.sl.length cx, .slice aa D.bs.length cc], .bool true]) (by simp [results, Try.results8, go_sem, t0, t1, t2]) rfl ⟨?_, _, rfl, ?_⟩
            · exact (g7.trans (b8.mono (by omega))).trans ((o9.below (by omega)).mono (by omega))
            · exact (DOwn.out Own.out o9 (.inr (by omega))).mono (by omega) z9
          | false =>
            by_cases h4 : nl < 4
            · have h4' : (nl : Int) < 4 := by omega
              have hroT : roomy d' s = true := by rw [hro.out]; simp [h4]
              go_wp2_with fail
              clear h4'
              obtain ⟨hBt, hDt⟩ := HkD.out hroT
              subst hBt
              have HDt : Hid _ := hDt
              have HroT : Hid _ := hroT
              clear hDt hroT j0 j1
              have SB : Hid (∀ W, Below w3.heap.size w3 W → W.cell? ⟨w.heap.size, 2, none⟩ = some (.slice (some ⟨gB, 0, none⟩) m cap) ∧ W.cell? ⟨F, 1, none⟩ = some (.slice na nl nc) ∧ W.cell? ⟨w.heap.size + 1, 0, none⟩ = some (.string s) ∧ W.cell? ⟨w.heap.size + 1, 1, none⟩ = some (.int .i64 fl)) := fun W hW => ⟨(box3_cells (box_on (box_on HA.out b03) hW)).2.2.1, (box2_cells (box_on HF3.out hW)).2.1, (box2_cells (box_on (box_on HN.out b03) hW)).1, (box2_cells (box_on (box_on HN.out b03) hW)).2.1⟩
              refine wp_region_L (fun W => Below w3.heap.size w3 W) 9 10 (by kernel_rfl) rfl (Below.drew (Below.refl _ _)) (fun hS0 => ?_)
              refine tkL (i := 0) (d := 54) (v := ?_) rfl rfl (by kernel_rfl) (by kernel_rfl) (by kernel_rfl) (by kernel_rfl) (fun _ _ _ h => h) (Or.inl ⟨by rfl, by intro wq hSq; obtain ⟨q1, q2, q3, q4⟩ := SB.out wq hSq; go_simp; try with_reducible rfl⟩) (by assumption) ?_
              simp only [List.setIfInBounds_toArray, List.set_cons_zero, List.set_cons_succ]
              refine tkL (i := 1) (d := 55) (v := ?_) rfl rfl (by kernel_rfl) (by kernel_rfl) (by kernel_rfl) (by kernel_rfl) (fun _ _ _ h => h) (Or.inl ⟨by rfl, by intro wq hSq; obtain ⟨q1, q2, q3, q4⟩ := SB.out wq hSq; go_simp; try with_reducible rfl⟩) (by assumption) ?_
              simp only [List.setIfInBounds_toArray, List.set_cons_zero, List.set_cons_succ]
              refine tkL (i := 2) (d := 56) (v := ?_) rfl rfl (by kernel_rfl) (by kernel_rfl) (by kernel_rfl) (by kernel_rfl) (fun _ _ _ h => h) (Or.inl ⟨by rfl, by intro wq hSq; obtain ⟨q1, q2, q3, q4⟩ := SB.out wq hSq; go_simp; try with_reducible rfl⟩) (by assumption) ?_
              simp only [List.setIfInBounds_toArray, List.set_cons_zero, List.set_cons_succ]
              refine tkL (i := 3) (d := 57) (v := ?_) rfl rfl (by kernel_rfl) (by kernel_rfl) (by kernel_rfl) (by kernel_rfl) (fun _ _ _ h => h) (Or.inl ⟨by rfl, by intro wq hSq; obtain ⟨q1, q2, q3, q4⟩ := SB.out wq hSq; go_simp; try with_reducible rfl⟩) (by assumption) ?_
              simp only [List.setIfInBounds_toArray, List.set_cons_zero, List.set_cons_succ]
              refine tkL (i := 4) (d := 58) (v := ?_) rfl rfl (by kernel_rfl) (by kernel_rfl) (by kernel_rfl) (by kernel_rfl) (fun _ _ _ h => h) (Or.inl ⟨by rfl, by intro wq hSq; obtain ⟨q1, q2, q3, q4⟩ := SB.out wq hSq; go_simp; try with_reducible rfl⟩) (by assumption) ?_
              simp only [List.setIfInBounds_toArray, List.set_cons_zero, List.set_cons_succ]
              refine tkL (i := 5) (d := 59) (v := ?_) rfl rfl (by kernel_rfl) (by kernel_rfl) (by kernel_rfl) (by kernel_rfl) (fun _ _ _ h => h) (Or.inl ⟨by rfl, by intro wq hSq; obtain ⟨q1, q2, q3, q4⟩ := SB.out wq hSq; go_simp; try with_reducible rfl⟩) (by assumption) ?_
              simp only [List.setIfInBounds_toArray, List.set_cons_zero, List.set_cons_succ]
              refine oneL (i := 6) rfl (by kernel_rfl) (fun K hK => ?_)
              go_simp
              refine (HPt.out w3.drew (Below.drew b03)).mono ?_
              rintro z w6 ⟨b6, v6, rfl, own6⟩
              have s6 : Below w3.heap.size w3 w6 := Below.comp hS0 b6
              refine hK.out _ _ s6 (fun _ => ?_)
              clear hK K
              obtain ⟨y6, c6, rfl⟩ := owns_form own6
              refine oneL (i := 7) rfl (by kernel_rfl) (fun K hK => ?_)
              go_simp
              refine hK.out _ _ s6 (fun _ => ?_)
              clear hK K
              refine tkL (i := 8) (d := 62) (v := ?_) rfl rfl (by kernel_rfl) (by kernel_rfl) (by kernel_rfl) (by kernel_rfl) (fun _ _ _ h => h) (Or.inl ⟨by rfl, by intro wq hSq; obtain ⟨q1, q2, q3, q4⟩ := SB.out wq hSq; go_simp; try with_reducible rfl⟩) (by assumption) ?_
              simp only [List.setIfInBounds_toArray, List.set_cons_zero, List.set_cons_succ]
              have s06 : Below wr.heap.size wr w6 := Below.comp b03 s6
              have hG6 := HGB.out.below s06
              obtain ⟨cur, hcur, hcsz, hBg⟩ := hG6.block HG.out.2.2.1
              have c1 : w6.cell? ⟨gB, k * 2 + 1, none⟩ = some (cur[k * 2 + 1]'(by omega)) := cell_of_block hcur (by simp)
              have f1 := free_of_block (i := k * 2 + 1) hcur
              refine lastL rfl (by kernel_rfl) (by kernel_rfl) (fun K hK => ?_)
              go_simp
              refine hK.out _ _ ?_
              clear hK K c1 f1
              obtain ⟨W7, hW7⟩ : ∃ W7, w6.setCell ⟨gB, k * 2 + 1, none⟩ (.slice y6 (putL (bkL d' s) ⟨s, fl⟩ kS).length c6) = W7 := ⟨_, rfl⟩
              rw [hW7]
              have o7 : Out gB (gB + 1) w6 W7 := by subst hW7; exact out_setCell _ _ _ _
              obtain ⟨hWw, hrm, hbl⟩ := HWy.out
              have hsz := gs_sizes hWw.s
              obtain ⟨hg1, hg2, hg3, hg4, hg5, hg6⟩ := HG.out
              obtain ⟨gg, hgg⟩ := OwnN.nb own6
              have h36 := hS0.size
              have h03 := b03.size
              have hs6 := s06.size
              have ho7 := o7.size
              have hG7 : GB W7 B0 (.slice (some ⟨gB, 0, none⟩) m cap) (d'.bs.set k ⟨(gb d'.bs k).dp, putL (bkL d' s) ⟨s, fl⟩ kS⟩) (kbPut kb k gg) := by
                subst hW7
                refine hG6.put1 hg3 hkm (hgg.mono (by omega) (Nat.le_refl _)) (fun hne r hr _ hn => ?_)
                have h1 := (hgg.type hne).1
                have h2 := (HGB.out.row (by rw [hg3]; exact hr) hn).2.1
                omega
              have HWp : Hd.Way (pD d' (bkN d' s) (putL (bkL d' s) ⟨s, fl⟩ kS)) D := by rw [HDt.out]; exact put_way (x := ⟨s, fl⟩) hWw HEx.out HkS.out HroT.out
              have hSp7 : SpO W7 B0 (.agg #[.int .i64 DP, .slice (some ⟨gs, 0, none⟩) n cS, .slice (some ⟨gB, 0, none⟩) m cap]) (pD d' (bkN d' s) (putL (bkL d' s) ⟨s, fl⟩ kS)) (kbPut kb k gg) := by
                obtain ⟨l1, l2, l3, l4⟩ := HSL.out
                have l6 := box_on l1 s06
                have hne : gs ≠ gB := fun e => by
                  rw [e, hcur] at l6
                  simp at l6
                refine ⟨gs, cS, cs, .slice (some ⟨gB, 0, none⟩) m cap, ?_, ?_, l4, box_out l6 o7 (by omega), ?_, ?_⟩
                · show _ = Value.agg #[.int .i64 d'.dp, .slice _ d'.sl.length _, _]
                  rw [hg1, hg2]
                · show d'.sl.length ≤ cS
                  rw [hg2]
                  exact l3
                · show intsN d'.sl.length d'.sl cs
                  rw [hg2]
                  exact l2
                · show GB W7 B0 _ (d'.bs.set (bkN d' s) ⟨(gb d'.bs (bkN d' s)).dp, _⟩) _
                  rw [hg4]
                  exact hG7
              have cS8 := l8Sort_any _ _ _ _ W7 B0 hSp7 HWp (by omega) (by show d'.sl.length ≤ 1000; have := hWw.ln; omega) (by show (d'.bs.set _ _).length ≤ 1000; rw [List.length_set]; omega)
              have hA7 := box_out (box_on HA.out s06) o7 (.inl (by omega))
              have HB7 : Hid _ := box_out (box_on HB.out s06) o7 (.inl (by omega))
              have g7 : Below w.heap.size w W7 := (Below.trans hbw (s06.mono (by have := hbw.size; omega))).trans ((o7.below (by have := box_lt hcur; omega)).mono (by omega))
              have hB7z : B0 ≤ W7.heap.size := by omega
              obtain ⟨x0, x1, x2, -, -, -⟩ := box3_cells hA7
              clear hA7 hW7 o7 hWw hrm hbl hsz hg1 hg2 hg3 hg4 hg5 hg6 hgg h36 hs6 hG7 HWp hSp7 own6 hG6 hcur hcsz
              go_wp2_with fail
              refine cS8.mono ?_
              rintro z w8 ⟨b8, z8, v8, rfl, own8⟩
              have hB8 : w8.heap[w.heap.size + 1 + 1]? = some (.cells #[.int .i64 0, .slice none 0 0, .slice none 0 0] 32 (0, 0)) := by rw [b8.block _ (by omega)]; exact HB7.out
              obtain ⟨xx, aa, cc, gs8, rfl, h1, h2, h3⟩ := own8
              have h2' := h2
              obtain ⟨ax, cx, rfl, -, -⟩ := h2'
              have Own : Hid (DOwn w8 B0 w8.heap.size _ D) := ⟨_, aa, cc, gs8, rfl, h1, h2, h3⟩
              clear h1 h2 h3 cS8 x0 x1 x2
              obtain ⟨f0, f1, f2, f3, f4, f5⟩ := box3_cells hB8
              go_wp2_with fail
              obtain ⟨t0, t1, t2, -, -, -⟩ := box3_cells (box3_set hB8 (x0 := .int .i64 D.dp) (x1 := .slice ax D.sl.length cx) (x2 := .slice aa D.bs.length cc))
              have o9 := box3_out w8 (w.heap.size + 1 + 1) (.int .i64 D.dp) (.slice ax D.sl.length cx) (.slice aa D.bs.length cc)
              have z9 := o9.size
              have g70 := g7.size
              refine bodyPost_ret (v := .tuple #[.agg #[.int .i64 D.dp, .slice ax D.sl.length cx, .slice aa D.bs.length cc], .bool true]) (by simp [results, Try.results8, go_sem, t0, t1, t2]) rfl ⟨?_, _, rfl, ?_⟩
              · exact (g7.trans (b8.mono (by omega))).trans ((o9.below (by omega)).mono (by omega))
              · exact (DOwn.out Own.out o9 (.inr (by omega))).mono (by omega) z9
            · have h4' : ¬ (nl : Int) < 4 := by omega
              have hroF : Hid (¬ roomy d' s = true) := by show ¬ _; rw [hro.out]; simp [h4]
              have HSp3 : SpO w3 B0 (.agg #[.int .i64 DP, .slice (some ⟨gs, 0, none⟩) n cS, .slice (some ⟨gB, 0, none⟩) m cap]) d' kb := HSp.out.below b03
              obtain ⟨hWw, hrm, hbl⟩ := HWy.out
              have hsz := gs_sizes hWw.s
              obtain ⟨hg1, hg2, hg3, hg4, hg5, hg6⟩ := HG.out
              have h03 := b03.size
              have hro' : ¬ roomy e s = true := by rw [← hWw.roomy s]; exact hroF.out
              have cC := l8Cut_any _ d' kb s w3 B0 HSp3 hWw.u (by omega) (by rw [hg3]; omega)
              rw [hg4] at cC
              have hB3 := box_on HB.out b03
              have hA3 := box_on HA.out b03
              have hN3 := box_on HN.out b03
              obtain ⟨x0, x1, x2, x3, x4, x5⟩ := box3_cells hA3
              have hbk8 : (gb d'.bs k).dp = (gb e.bs (bkN e s)).dp := by rw [← hg4]; exact congrArg Bk.dp (hWw.bk s)
              have g3 : Below w.heap.size w w3 := hbw.trans (b03.mono hbw.size)
              have g30 := g3.size
              have zR := box_lt hB3
              by_cases h8 : (gb d'.bs k).dp = 8
              · have hB := HP1.out (by rw [← hrm]; exact rm_no hro' (by rw [← hbk8]; exact h8))
                subst hB
                have H8 : Hid _ := h8
                clear hro' hWw hrm hbl hsz hg1 hg2 hg3 hg4 hg5 hg6 hbk8 HSp3 h8 hA3 hN3
                go_wp2_with fail
                refine cC.mono ?_
                rintro z w4 ⟨b4, z4, r1, -⟩
                obtain ⟨q, a1, n1, c1, a2, n2, c2, rfl⟩ := r1 H8.out
                clear r1 cC x0 x1 x2 x3 x4 x5
                have hB4 : w4.heap[w.heap.size + 1 + 1]? = some (.cells #[.int .i64 0, .slice none 0 0, .slice none 0 0] 32 (0, 0)) := by rw [b4.block _ (by omega)]; exact hB3
                obtain ⟨W5, hW5⟩ : ∃ W5, w4.alloc (.cells #[.int .i64 q, .slice a1 n1 c1, .slice a2 n2 c2] 32) = W5 := ⟨_, rfl⟩
                have b5 : Below w4.heap.size w4 W5 := by subst hW5; exact below_alloc _ _
                have hB5 := box_on hB4 b5
                have g5 : Below w.heap.size w W5 := (g3.trans (b4.mono (by omega))).trans (b5.mono (by omega))
                obtain ⟨f0, f1, f2, f3, f4, f5⟩ := box3_cells hB5
                go_wp2_with fail
                obtain ⟨W2, hW2, k1, k2, k3⟩ := ZERO.out W5 g5 hB5 (by simp)
                rw [hW2]
                obtain ⟨t0, t1, t2, -, -, -⟩ := box3_cells k1
                exact bodyPost_ret (v := .tuple #[.agg #[.int .i64 0, .slice none 0 0, .slice none 0 0], .bool false]) (by simp [results, Try.results8, go_sem, t0, t1, t2]) rfl ⟨k2, _, rfl, k3⟩
              · have h8e : ¬ (gb e.bs (bkN e s)).dp = 8 := by rw [← hbk8]; exact h8
                have h8d : ¬ (gb d'.bs (bkN d' s)).dp = 8 := by rw [hg4]; exact h8
                have hst := hWw.step s h8d
                have hrs := rm_step hWw.s hro' h8e
                have hdp := step_deep hWw.s s h8e
                have HST : Hid (Hd.Way (stS d' s) (stI e s) ∧ rm 9 (stI e s) s = rm 9 d s ∧ (stS d' s).bs.length = (stI e s).bs.length ∧ dpN (stS d' s) s = qn + 1) := by
                  refine ⟨hst, by rw [← hrs]; exact hrm, ?_, by rw [hst.dpN s, hdp, ← hWw.dpN s, hg6]⟩
                  obtain ⟨-, -, hwb, -⟩ := wide_gu hWw.s.gu s h8e
                  have C := cutAt_wide hWw.s s h8e
                  have el : (stI e s).bs.length = (wide e s).bs.length + 1 := cuB_len (cut_u C).2.2.2.2.2
                  obtain ⟨-, -, hwb', -⟩ := wide_gu hWw.u s h8d
                  rw [el, hwb]
                  show (List.set _ _ _ ++ [_]).length = _
                  rw [List.length_append, List.length_set, hwb', hg3]
                  simp
                  exact HBL.out
                have H8 : Hid _ := h8
                clear hro' hWw hrm hbl hsz hg1 hg2 hg3 hg4 hg5 hg6 hbk8 HSp3 h8 hst hrs hdp h8e h8d
                go_wp2_with fail
                refine cC.mono ?_
                rintro z w4 ⟨b4, z4, -, r2⟩
                obtain ⟨v4, kb4, rfl, hSp4⟩ := r2 H8.out
                clear r2 cC x0 x1 x2 x3 x4 x5
                have hB4 : w4.heap[w.heap.size + 1 + 1]? = some (.cells #[.int .i64 0, .slice none 0 0, .slice none 0 0] 32 (0, 0)) := by rw [b4.block _ (by omega)]; exact hB3
                have hN4 : w4.heap[w.heap.size + 1]? = some (.cells #[.string s, .int .i64 fl] 36 (0, 0)) := by rw [b4.block _ (by omega)]; exact hN3
                have hA4 := (b4.block w.heap.size (by omega)).trans hA3
                obtain ⟨gs4, c4, cs4, vB4, rfl, s1, s2, s3, s4, s5⟩ := hSp4
                have hkl4 : bkN (stS d' s) s < (stS d' s).bs.length := (HST.out.1.u.slot s).2.2.1
                obtain ⟨gB4, cap4, hvB, hgB4⟩ : ∃ gB cap, vB4 = .slice (some ⟨gB, 0, none⟩) (stS d' s).bs.length cap ∧ gB < w4.heap.size := by
                  obtain ⟨⟨xs, ho, -⟩, -⟩ := s5
                  rcases ho.2 with ⟨-, e2⟩ | ⟨g, cap', cur, e1, -, e3, -⟩
                  · omega
                  · exact ⟨g, cap', e1, box_lt e3⟩
                subst hvB
                obtain ⟨W5, hW5⟩ : ∃ W5, w4.alloc (.cells #[.int .i64 (stS d' s).dp, .slice (some ⟨gs4, 0, none⟩) (stS d' s).sl.length c4, .slice (some ⟨gB4, 0, none⟩) (stS d' s).bs.length cap4] 32) = W5 := ⟨_, rfl⟩
                have b5 : Below w4.heap.size w4 W5 := by subst hW5; exact below_alloc _ _
                have hT5 : W5.heap[w4.heap.size]? = some (.cells #[.int .i64 (stS d' s).dp, .slice (some ⟨gs4, 0, none⟩) (stS d' s).sl.length c4, .slice (some ⟨gB4, 0, none⟩) (stS d' s).bs.length cap4] 32 (0, 0)) := by subst hW5; exact al1 _ _
                have hA5 := box_on hA4 b5
                obtain ⟨W6, hW6⟩ : ∃ W6, ((W5.setCell ⟨w.heap.size, 0, none⟩ (.int .i64 (stS d' s).dp)).setCell ⟨w.heap.size, 1, none⟩ (.slice (some ⟨gs4, 0, none⟩) (stS d' s).sl.length c4)).setCell ⟨w.heap.size, 2, none⟩ (.slice (some ⟨gB4, 0, none⟩) (stS d' s).bs.length cap4) = W6 := ⟨_, rfl⟩
                have o6 : Out w.heap.size (w.heap.size + 1) W5 W6 := by subst hW6; exact box3_out _ _ _ _ _
                have HA6 : Hid (W6.heap[w.heap.size]? = some (.cells #[.int .i64 (stS d' s).dp, .slice (some ⟨gs4, 0, none⟩) (stS d' s).sl.length c4, .slice (some ⟨gB4, 0, none⟩) (stS d' s).bs.length cap4] 32 (0, 0))) := by subst hW6; exact box3_set hA5
                have HN6 : Hid (W6.heap[w.heap.size + 1]? = some (.cells #[.string s, .int .i64 fl] 36 (0, 0))) := box_out (box_on hN4 b5) o6 (by omega)
                have HB6 : Hid (W6.heap[w.heap.size + 1 + 1]? = some (.cells #[.int .i64 0, .slice none 0 0, .slice none 0 0] 32 (0, 0))) := box_out (box_on hB4 b5) o6 (by omega)
                have k6 : KeepT w4 W6 := (KeepT.below b5).trans (KeepT.out hA5 ⟨by decide, by decide⟩ o6)
                have z5 := b5.size
                have z6 := o6.size
                have hs3 := box_out (box_on s3 b5) o6 (by omega)
                have hg6 := s5.keepT k6
                have HS6 : Hid (SpO W6 B0 (.agg #[.int .i64 (stS d' s).dp, .slice (some ⟨gs4, 0, none⟩) (stS d' s).sl.length c4, .slice (some ⟨gB4, 0, none⟩) (stS d' s).bs.length cap4]) (stS d' s) kb4) := ⟨gs4, c4, cs4, _, rfl, s1, s2, hs3, s4, hg6⟩
                have HMU : Hid (mu w.heap.size s W6 = 9 - dpN (stS d' s) s) := mu_gu HA6.out HST.out.1.u hs3 s4 hg6
                have g6 : Below w.heap.size w W6 := ((g3.trans (b4.mono (by omega))).trans (b5.mono (by omega))).trans (o6.below (by omega))
                have hz6 : B0 ≤ W6.heap.size := by omega
                obtain ⟨x0, x1, x2, -, -, -⟩ := box3_cells hT5
                obtain ⟨f0, f1, f2, f3, f4, f5⟩ := box3_cells hA5
                clear s1 s2 s3 s4 s5 hkl4 hgB4 hT5 hA5 hA4 hB4 hN4 b5 o6 k6 z5 z6 hs3 hg6
                go_wp2_with fail
                clear hW5
                go_round
                case rel => exact ⟨stS d' s, stI e s, kb4, gs4, c4, gB4, cap4, ⟨HST.out.1, HST.out.2.1, HST.out.2.2.1⟩, HS6, HA6, HN6, HB6, g6, hz6⟩
                case measure => rw [HMU.out, hmu.out, HST.out.2.2.2]; omega
end Go.Proofs.Ytfmgaenedkjmkaa
