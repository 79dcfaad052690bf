import Derived.Test.YtboladoddnnfcaaDoorG3
namespace Go.Proofs.YtboladoddnnfcaaDoor
open Go.ChangeShapes Go.WideShapes Go.ChangeAt Go.RowKit
set_option linter.unusedVariables false
open GF

theorem pl_next {X : Nat → Nat} {i k : Nat} (h : k ≠ i) : pl X i (k + 1) = mulx (pl X i k) (X k) := if_neg h
theorem pl_same {X : Nat → Nat} {i k : Nat} (h : k = i) : pl X i (k + 1) = pl X i k := if_pos h
theorem pr_next {f : Nat → Nat} {i k : Nat} (h : k ≠ i) : pr f i (k + 1) = gm (pr f i k) (f k) := if_neg h
theorem pr_same {f : Nat → Nat} {i k : Nat} (h : k = i) : pr f i (k + 1) = pr f i k := if_pos h
theorem mulx_len (l : List Nat) (x : Nat) : (mulx l x).length = l.length + 1 := mx_len x 0 l
theorem ol_next {X Y : Nat → Nat} {n i : Nat} (h : i < n) : ad (fun c => gm c (fac X Y n i)) (pl X i n) (ol X Y n i) = ol X Y n (i + 1) := by
  rw [ad_sc _ _ _ (by rw [pl_len_lt h, ol_len i (by omega)])]
  rfl

set_option maxRecDepth 20000 in
set_option maxHeartbeats 6400000 in
theorem specTh_any (b b' n cap cap' : Nat) (xs ys : List Nat) (w : World) (hx : bt xs) (hy : bt ys) (hn : xs.length = n) (hn' : ys.length = n) (h20 : n ≤ 20) (hcap : n ≤ cap) (hc : ∀ i, i < n → w.cell? ⟨b, i, none⟩ = some (.int .u8 (lf xs i : Nat))) (hc' : ∀ i, i < n → w.cell? ⟨b', i, none⟩ = some (.int .u8 (lf ys i : Nat))) :
    Calls Tryd.prog 27 #[.slice (some ⟨b, 0, none⟩) n cap, .slice (some ⟨b', 0, none⟩) n cap'] w fun e w' => ThRes w w' e xs ys := by
  have HC : Hid _ := hc
  have HC' : Hid _ := hc'
  clear hc hc'
  have hmk := make_any (P := Tryd.prog) 22 5 _ 1 1 Tryd.underlying22 info5 .i64 .i64 n (by omega) (by omega)
  have h20' : ¬ (20 : Int) < (n : Int) := by omega
  have HX : Hid (∀ k, lf xs k < 256) := fun k => lf_lt hx k
  have HY : Hid (∀ k, lf ys k < 256) := fun k => lf_lt hy k
  go_enter Tryd.func27, Tryd.ntmps27
  go_wp2
  go_loop [34] (fun i => ∃ (k : Nat), k ≤ n ∧ i = .int .i64 k ∧ ∀ i j, i < k → j < k → lf xs i = lf xs j → i = j) (fun i => n - (intOf i).toNat)
  case atStart => exact ⟨0, Nat.zero_le _, rfl, fun _ _ h => absurd h (by omega)⟩
  case round =>
    obtain ⟨k, hk, rfl, hd⟩ := hrel
    have HD : Hid _ := hd
    clear hd
    by_cases hlt : k < n
    · have hck := HC.out k hlt
      have hk' : (k : Int) < (n : Int) := by omega
      have hkc : (k : Int) ≤ (cap : Int) := by omega
      go_wp2
      go_loop [43] (fun i => ∃ (q : Nat), q ≤ k ∧ i = .int .i64 q ∧ ∀ j, j < q → lf xs j ≠ lf xs k) (fun i => k - (intOf i).toNat)
      case atStart => exact ⟨0, Nat.zero_le _, rfl, fun _ h => absurd h (by omega)⟩
      case round =>
        obtain ⟨q, hq, rfl, hne⟩ := hrel
        have HNE : Hid _ := hne
        clear hne
        by_cases hlq : q < k
        · have hq' : (q : Int) < (k : Int) := by omega
          have hcq := HC.out q (by omega)
          by_cases he : lf xs q = lf xs k
          · have he' : ((lf xs q : Nat) : Int) = ((lf xs k : Nat) : Int) := by rw [he]
            go_wp2
            have hno : ¬ goodT xs ys := fun hg => by have := hg.2.2 q k (by omega) (by omega) he; omega
            refine bodyPost_ret (v := .tuple #[.slice none 0 0, .bool false]) (by simp [results, Tryd.results27, go_sem]) rfl (ThRes.no hno (Below.refl _ _))
          · have he' : ¬ ((lf xs q : Nat) : Int) = ((lf xs k : Nat) : Int) := by omega
            go_wp2
            go_round
            case rel => exact ⟨q + 1, by omega, by go_num, fun j hj => (Decidable.em (j = q)).elim (fun e => by rw [e]; exact he) (fun e => HNE.out j (by omega))⟩
            case measure => simp [intOf]; omega
        · have hq' : ¬ (q : Int) < (k : Int) := by omega
          obtain rfl : q = k := by omega
          go_wp2
          go_round
          case rel =>
            refine ⟨q + 1, by omega, by go_num, fun i j hi hj e => ?_⟩
            by_cases e1 : i = q
            · by_cases e2 : j = q
              · omega
              · exact absurd (e1 ▸ e.symm) (HNE.out j (by omega))
            · by_cases e2 : j = q
              · exact absurd (e2 ▸ e) (HNE.out i (by omega))
              · exact HD.out i j (by omega) (by omega) e
          case measure => simp [intOf]; omega
    · obtain rfl : n = k := by omega
      have hgood : goodT xs ys := ⟨by omega, by omega, fun i j hi hj e => HD.out i j (by omega) (by omega) e⟩
      have HG : Hid _ := hgood
      clear hgood HD
      go_wp2
      obtain ⟨w0, hw⟩ : ∃ w0, w0 = w.alloc (.cells (made (.int .u8 0) n) 5) := ⟨_, rfl⟩
      have r0 : w0.heap[w.heap.size]? = some (.cells (made (.int .u8 0) n) 5 (0, 0)) := by rw [hw]; exact heap_new w _
      have g0 : Below w.heap.size w w0 := by rw [hw]; exact below_alloc _ _
      rw [← hw]
      have R0 : Hid _ := r0
      clear hw r0
      go_loopw [57] (fun iv wr => ∃ (i : Nat) (c : Array Value), i ≤ n ∧ iv = .int .i64 i ∧ wr.heap[w.heap.size]? = some (.cells c 5 (0, 0)) ∧ bys n (lf (ol (lf xs) (lf ys) n i)) c ∧ Below w.heap.size w wr) (fun iv _ => n - (intOf iv).toNat)
      case atStart => exact ⟨0, _, Nat.zero_le _, rfl, R0.out, made_zeros n, g0⟩
      case round =>
        obtain ⟨i, c, hi, rfl, hB, hs, hb⟩ := hrel
        by_cases hlt : i < n
        · have hi' : (i : Int) < (n : Int) := by omega
          have hlw : w.heap.size < wr.heap.size := (Array.getElem?_eq_some_iff.1 hB).1
          have HB : Hid _ := hB
          clear hB R0 g0
          go_wp2
          obtain ⟨w1, hw1⟩ : ∃ w1, w1 = wr.alloc (.cells #[.int .u8 1] 5) := ⟨_, rfl⟩
          have r1 : w1.heap[wr.heap.size]? = some (.cells #[.int .u8 1] 5 (0, 0)) := by rw [hw1]; exact heap_new wr _
          have rB : w1.heap[w.heap.size]? = some (.cells c 5 (0, 0)) := by rw [hw1]; exact ((below_alloc wr _).block _ hlw).trans HB.out
          have g1 : Below w.heap.size w w1 := by rw [hw1]; exact hb.trans ((below_alloc wr _).mono (by omega))
          rw [← hw1]
          have R1 : Hid _ := r1
          have RB : Hid _ := rB
          clear hw1 r1 rB HB hb
          generalize wr.heap.size = pb0 at *
          go_loopw [12, 13, 63] (fun pv0 bv0 kv wi => ∃ (k pb pc len : Nat) (cp : Array Value), k ≤ n ∧ kv = .int .i64 k ∧ pv0 = .slice (some ⟨pb, 0, none⟩) len pc ∧ (pl (lf xs) i k).length = len ∧ bv0 = .int .u8 (pr (fun k => lf xs i ^^^ lf xs k) i k : Nat) ∧ w.heap.size < pb ∧ wi.heap[pb]? = some (.cells cp 5 (0, 0)) ∧ bys len (lf (pl (lf xs) i k)) cp ∧ wi.heap[w.heap.size]? = some (.cells c 5 (0, 0)) ∧ Below w.heap.size w wi) (fun _ _ kv _ => n - (intOf kv).toNat)
          case atStart =>
            refine ⟨0, pb0, 1, 1, _, Nat.zero_le _, rfl, rfl, rfl, rfl, hlw, R1.out, ?_, RB.out, g1⟩
            intro j hj
            obtain rfl : j = 0 := by omega
            rfl
          case round =>
            obtain ⟨k, pb, pc, len, cp, hk, rfl, rfl, hlen, rfl, hpb, hP, hsP, hO, hb1⟩ := hrel
            have HP : Hid _ := hP
            have HO : Hid _ := hO
            clear hP hO R1 RB g1
            by_cases hlk : k < n
            · have hk' : (k : Int) < (n : Int) := by omega
              have hck : wr.cell? ⟨b, k, none⟩ = some (.int .u8 (lf xs k : Nat)) := (hb1.cell (p := ⟨b, k, none⟩) (lt_of_cell (HC.out k hlk))).trans (HC.out k hlk)
              by_cases hki : k = i
              · obtain rfl : i = k := hki.symm
                go_wp2
                go_roundw
                case rel => exact ⟨i + 1, pb, pc, len, cp, by omega, by go_num, rfl, by rw [pl_same rfl]; exact hlen, by rw [pr_same rfl], hpb, HP.out, by rw [pl_same rfl]; exact hsP, HO.out, hb1⟩
                case measure => simp [intOf]; omega
              · have hki' : ¬ (k : Int) = (i : Int) := by omega
                have hkb : ((k : Int) == (i : Int)) = false := by simpa using hki'
                have hl21 : len ≤ 21 := by rw [← hlen, pl_len]; omega
                have hmk2 : ∀ w, (Instr.makeSlice 22 (.int .i64 ((len : Int) + 1)) (.int .i64 ((len : Int) + 1))).run Tryd.prog w = .ok (.slice (some ⟨w.heap.size, 0, none⟩) (len + 1) (len + 1)) (w.alloc (.cells (made (.int .u8 0) ((len + 1) * 1)) 5)) := make_any (P := Tryd.prog) 22 5 _ 1 1 Tryd.underlying22 info5 .i64 .i64 (len + 1) (by omega) (by omega)
                have hlz : pb < wr.heap.size := (Array.getElem?_eq_some_iff.1 HP.out).1
                have hlO : w.heap.size < wr.heap.size := (Array.getElem?_eq_some_iff.1 HO.out).1
                go_wp2
                try rw [hkb]
                obtain ⟨w2, hw2⟩ : ∃ w2, w2 = wr.alloc (.cells (made (.int .u8 0) (len + 1)) 5) := ⟨_, rfl⟩
                have r2 : w2.heap[wr.heap.size]? = some (.cells (made (.int .u8 0) (len + 1)) 5 (0, 0)) := by rw [hw2]; exact heap_new wr _
                have rP : w2.heap[pb]? = some (.cells cp 5 (0, 0)) := by rw [hw2]; exact ((below_alloc wr _).block _ hlz).trans HP.out
                have rO : w2.heap[w.heap.size]? = some (.cells c 5 (0, 0)) := by rw [hw2]; exact ((below_alloc wr _).block _ hlO).trans HO.out
                have g2 : Below w.heap.size w w2 := by rw [hw2]; exact hb1.trans ((below_alloc wr _).mono (by omega))
                rw [← hw2]
                have R2 : Hid _ := r2
                have RP : Hid _ := rP
                have RO : Hid _ := rO
                clear hw2 r2 rP rO hb1 HP HO hck hmk2
                generalize wr.heap.size = qb at *
                have hxk := HX.out k
                have hbP : bt (pl (lf xs) i k) := bt_pl k
                have hz0 := mxs_none (lf xs k) (pl (lf xs) i k)
                have hzA := mxs_all (lf xs k) (pl (lf xs) i k)
                have hstep := mxs_step' (lf xs k) (pl (lf xs) i k)
                have hml := fun q => mxs_len (lf xs k) 0 q (pl (lf xs) i k)
                rw [← pl_next hki] at hzA
                generalize hPL : pl (lf xs) i k = P at *
                rw [hlen] at hz0 hzA hstep hml
                have PN : Hid _ := pr_next (f := fun k => lf xs i ^^^ lf xs k) hki
                have PLN : Hid _ := pl_next (X := lf xs) hki
                generalize hXK : lf xs k = XK at *
                have Z0 : Hid _ := hz0
                have ZA : Hid _ := hzA
                have STEP : Hid _ := hstep
                have ML : Hid _ := hml
                clear hz0 hzA hstep hml
                go_loopw [77] (fun jv wj => ∃ (q : Nat) (cq : Array Value), q ≤ len ∧ jv = .int .i64 q ∧ wj.heap[qb]? = some (.cells cq 5 (0, 0)) ∧ bys (len + 1) (lf (mxs XK 0 q P)) cq ∧ wj.heap[pb]? = some (.cells cp 5 (0, 0)) ∧ wj.heap[w.heap.size]? = some (.cells c 5 (0, 0)) ∧ Below w.heap.size w wj) (fun jv _ => len - (intOf jv).toNat)
                case atStart => exact ⟨0, _, Nat.zero_le _, rfl, R2.out, by rw [Z0.out]; exact made_zeros (len + 1), RP.out, RO.out, g2⟩
                case round =>
                  obtain ⟨q, cq, hq, rfl, hQ, hsQ, hP, hO, hb2⟩ := hrel
                  by_cases hlq : q < len
                  · have hq' : (q : Int) < (len : Int) := by omega
                    have hq1 : (q : Int) < (len : Int) + 1 := by omega
                    have hq2 : (q : Int) + 1 < (len : Int) + 1 := by omega
                    have hpq := cell_of_block hP (hsP q hlq)
                    have hold := cell_of_block hQ (hsQ q (by omega))
                    have hold1 := cell_of_block hQ (hsQ (q + 1) (by omega))
                    have hfree := free_of_block (i := q) hQ
                    have hfree1 := free_of_block (i := q + 1) hQ
                    have hlA := lf_lt hbP q
                    have hbM : bt (mxs XK 0 q P) := bt_mxs hbP
                    have hlM := lf_lt hbM q
                    have hlM1 := lf_lt hbM (q + 1)
                    have hgl := gm_lt XK hlA
                    have hxo := bits_u8_xor hlM hgl
                    have hxo1 := bits_u8_xor hlM1 hlA
                    have hSt : ((mxs XK 0 q P).set (q + 1) (lf (mxs XK 0 q P) (q + 1) ^^^ lf P q)).set q (lf (mxs XK 0 q P) q ^^^ gm (lf P q) XK) = mxs XK 0 (q + 1) P := STEP.out q hlq
                    have HST : Hid _ := hSt
                    have HQ : Hid _ := hQ
                    have HP : Hid _ := hP
                    have HO : Hid _ := hO
                    have hlP : pb < wr.heap.size := (Array.getElem?_eq_some_iff.1 hP).1
                    have hlO2 : w.heap.size < wr.heap.size := (Array.getElem?_eq_some_iff.1 hO).1
                    have HML := ML.out q (by omega)
                    have HMLH : Hid _ := HML
                    clear hQ hP hO hSt HML R2 RP RO g2
                    generalize hA : lf P q = A at *
                    generalize hM : lf (mxs XK 0 q P) q = M at *
                    generalize hM1 : lf (mxs XK 0 q P) (q + 1) = M1 at *
                    go_wp2
                    go_region_with (go_at_call 41; refine (l2Mul_any A XK _ hlA hxk).mono ?_; rintro e w4 ⟨rfl, rfl⟩)
                    all_goals go_wp2
                    all_goals
                      go_roundw
                      case rel =>
                        have HL : (mxs XK 0 q P).length = len + 1 := HMLH.out
                        refine ⟨q + 1, _, by omega, by go_num, block_set (block_set HQ.out), ?_, ?_, ?_, ((hb2.setCell (show w.heap.size ≤ qb by omega) _).setCell (show w.heap.size ≤ qb by omega) _).drew⟩
                        · rw [← HST.out]; exact bys_set (bys_set hsQ (by omega) (by omega)) (by simp; omega) (by omega)
                        · exact ((((Out.refl qb (qb + 1) wr).setCell (Nat.le_refl _) (by omega) _ _).setCell (Nat.le_refl _) (by omega) _ _).block pb hlP (by omega)).trans HP.out
                        · exact ((((Out.refl qb (qb + 1) wr).setCell (Nat.le_refl _) (by omega) _ _).setCell (Nat.le_refl _) (by omega) _ _).block w.heap.size hlO2 (by omega)).trans HO.out
                      case measure => simp [intOf]; omega
                  · obtain rfl : len = q := by omega
                    have hci : wr.cell? ⟨b, i, none⟩ = some (.int .u8 (lf xs i : Nat)) := (hb2.cell (p := ⟨b, i, none⟩) (lt_of_cell (HC.out i hlt))).trans (HC.out i hlt)
                    have hpr := pr_lt (fun k => lf xs i ^^^ lf xs k) i k
                    have hxi := HX.out i
                    have hxo := bits_u8_xor hxi hxk
                    have hxl := xor_lt hxi hxk
                    have HQ : Hid _ := hQ
                    have HP : Hid _ := hP
                    have HO : Hid _ := hO
                    clear hQ hP hO R2 RP RO g2
                    generalize hPR : pr (fun k => lf xs i ^^^ lf xs k) i k = PR at *
                    go_wp2_with (go_at_call 41; refine (l2Mul_any PR (lf xs i ^^^ XK) _ hpr hxl).mono ?_; rintro e w4 ⟨rfl, rfl⟩)
                    go_roundw
                    case rel => exact ⟨k + 1, qb, len + 1, len + 1, cq, by omega, by go_num, rfl, by rw [PLN.out, mulx_len, hPL, hlen], by rw [PN.out], by omega, HQ.out, by rw [← ZA.out]; exact hsQ, HO.out, hb2⟩
                    case measure => simp [intOf]; omega
            · obtain rfl : n = k := by omega
              have hcy : wr.cell? ⟨b', i, none⟩ = some (.int .u8 (lf ys i : Nat)) := (hb1.cell (p := ⟨b', i, none⟩) (lt_of_cell (HC'.out i hlt))).trans (HC'.out i hlt)
              have hpr := pr_lt (fun k => lf xs i ^^^ lf xs k) i n
              have hyi := HY.out i
              have ON : Hid _ := ol_next (X := lf xs) (Y := lf ys) hlt
              have hlen2 : (pl (lf xs) i n).length = n := pl_len_lt hlt
              have hfl : gm (lf ys i) (gi (pr (fun k => lf xs i ^^^ lf xs k) i n)) < 256 := gm_lt _ hyi
              have hbP : bt (pl (lf xs) i n) := bt_pl n
              have hbO : bt (ol (lf xs) (lf ys) n i) := bt_ol i
              have hlO : (ol (lf xs) (lf ys) n i).length = n := ol_len i (by omega)
              obtain rfl : n = len := by omega
              unfold fac at ON
              generalize hPR : pr (fun k => lf xs i ^^^ lf xs k) i n = PR at *
              generalize hPL : pl (lf xs) i n = P at *
              generalize hOL : ol (lf xs) (lf ys) n i = O at *
              generalize hYI : lf ys i = YI at *
              have hn0 : ¬ (n : Int) < (n : Int) := by omega
              go_wp2
              go_quiet (first | (go_at_call 50; refine Calls.quiet_of_same (l2Inv_any PR _ hpr)) | (go_at_call 41; refine Calls.quiet_of_same (l2Mul_any YI (gi PR) _ hyi (gi_lt PR))))
              generalize gm YI (gi PR) = f at *
              have HP1 : Hid ((wr.drewN nq).heap[pb]? = some (.cells cp 5 (0, 0))) := HP.out
              have HO1 : Hid ((wr.drewN nq).heap[w.heap.size]? = some (.cells c 5 (0, 0))) := HO.out
              have hb3 : Below w.heap.size w (wr.drewN nq) := below_drewN hb1 nq
              clear HP HO hb1 hcy
              generalize wr.drewN nq = w5 at *
              go_wp2
              go_loopw [119] (fun jv wj => ∃ (q : Nat) (c' : Array Value), q ≤ n ∧ jv = .int .i64 q ∧ wj.heap[w.heap.size]? = some (.cells c' 5 (0, 0)) ∧ bys n (lf (ad (fun c => gm c f) (P.take q) O)) c' ∧ wj.heap[pb]? = some (.cells cp 5 (0, 0)) ∧ Below w.heap.size w wj) (fun jv _ => n - (intOf jv).toNat)
              case atStart => exact ⟨0, c, Nat.zero_le _, rfl, HO1.out, by simpa [ad] using hs, HP1.out, hb3⟩
              case round =>
                obtain ⟨q, c', hq, rfl, hB', hs', hP', hb'⟩ := hrel
                by_cases hlq : q < n
                · have hq1 : (q : Int) < (n : Int) := by omega
                  have hzq := cell_of_block hP' (hsP q hlq)
                  have hlA := lf_lt hbP q
                  have hAt : lf (ad (fun c => gm c f) (P.take q) O) q = lf O q := ad_at _ P O q (by omega)
                  have hSt : (ad (fun c => gm c f) (P.take q) O).set q (lf O q ^^^ gm (lf P q) f) = ad (fun c => gm c f) (P.take (q + 1)) O := ad_step _ P O q (by omega) (by omega)
                  have hold := cell_of_block hB' (hs' q (by omega))
                  rw [hAt] at hold
                  have hfree := free_of_block (i := q) hB'
                  have hlM := lf_lt hbO q
                  have hgl := gm_lt f hlA
                  have hxo := bits_u8_xor hlM hgl
                  have hadl := ad_len (fun c => gm c f) (P.take q) O
                  have HADL : Hid _ := hadl
                  have HB3 : Hid _ := hB'
                  have HP3 : Hid _ := hP'
                  have HST : Hid _ := hSt
                  have hlz : pb < wr.heap.size := (Array.getElem?_eq_some_iff.1 hP').1
                  clear hB' hP' hSt hAt hadl HO1 HP1 hb3
                  generalize hA : lf P q = A at *
                  generalize hM : lf O q = M at *
                  go_wp2
                  go_region_with (go_at_call 41; refine (l2Mul_any A f _ hlA hfl).mono ?_; rintro e w4 ⟨rfl, rfl⟩)
                  all_goals go_wp2
                  all_goals
                    go_roundw
                    case rel =>
                      have HL : (ad (fun c => gm c f) (P.take q) O).length = O.length := HADL.out
                      refine ⟨q + 1, _, by omega, by go_num, block_set HB3.out, ?_, ?_, (hb'.setCell (Nat.le_refl _) _).drew⟩
                      · rw [← HST.out]; exact bys_set hs' (by omega) (by omega)
                      · exact (((Out.refl w.heap.size (w.heap.size + 1) wr).setCell (Nat.le_refl _) (by omega) _ _).block pb hlz (by omega)).trans HP3.out
                    case measure => simp [intOf]; omega
                · obtain rfl : n = q := by omega
                  rw [List.take_of_length_le (by omega)] at hs'
                  have HB3 : Hid _ := hB'
                  clear hB' hP' HO1 HP1 hb3
                  go_wp2
                  go_roundw
                  case rel => exact ⟨i + 1, c', by omega, by go_num, HB3.out, by rw [← ON.out]; exact hs', hb'⟩
                  case measure => simp [intOf]; omega
        · obtain rfl : n = i := by omega
          go_wp2
          refine bodyPost_ret (v := .tuple #[.slice (some ⟨w.heap.size, 0, none⟩) n n, .bool true]) (by simp [results, Tryd.results27, go_sem]) rfl (ThRes.yes HG.out hn hb (.inr ⟨_, c, Nat.le_refl _, (Array.getElem?_eq_some_iff.1 hB).1, rfl, hB, hs⟩))
end Go.Proofs.YtboladoddnnfcaaDoor
