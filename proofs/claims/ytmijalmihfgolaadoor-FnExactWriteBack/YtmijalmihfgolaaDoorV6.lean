import Derived.Test.YtmijalmihfgolaaDoorV5
import Derived.Test.YtmijalmihfgolaaDoorOL
/- A store opened: the program's side. -/
namespace Go.Proofs.YtmijalmihfgolaaDoor
open Go.ChangeShapes Go.WideShapes Go.ChangeAt Go.RowKit
set_option linter.unusedVariables false
open Tx

attribute [local go_sem] Oper.semAt_some

abbrev MineT (w : World) (B C : Nat) (x : Option Addr) (L : List ByteArray) : Prop := Mine w B C 9 L.length x (strs L.length (gt L))
abbrev MineW (w : World) (B C : Nat) (x : Option Addr) (l : List Wr) : Prop := Mine w B C 63 l.length x (wrts l.length (Tl l) (Ul l))
/-- What opening tells: an open store with rows of its own, or the fault. -/
def OpRes (w w' : World) (e : Ending) (a : Addr) (L : List ByteArray) (P : List Wr) (G : List ByteArray) (q : Int) (R : Bool) : Prop :=
  Below w.heap.size w w' ∧ (R = true → ∃ x cx y cy v, e = .returned (.agg #[.slice x L.length cx, .slice y P.length cy, v, .int .i64 q]) ∧ MineT w' w.heap.size w'.heap.size x L ∧ MineW w' w.heap.size w'.heap.size y P ∧ LogR w' w.heap.size w.heap.size v (G.map rdL)) ∧ (R = false → e = giveUp a)
theorem OpRes.no {w w' : World} {a : Addr} {L : List ByteArray} {P : List Wr} {G : List ByteArray} {q : Int} (hb : Below w.heap.size w w') : OpRes w w' (giveUp a) a L P G q false := ⟨hb, fun h => (by cases h), fun _ => rfl⟩
theorem okG_lb (n : Nat) (g : ByteArray) : txB n (bif rdB g then rdL g else []) = okG n g := by
  unfold okG
  cases rdB g with
  | true => rfl
  | false => exact txB_no (fun h => by simp at h)
theorem lb_few (g : ByteArray) : Few (bif rdB g then rdL g else []) := by
  cases h : rdB g with
  | true =>
    simp only [cond_true]
    exact few_of (fun i hi => (fit_iff.1 ((txB_iff.1 (rdB_ok h)).2.2 i hi).1).2.2)
  | false => exact fun i hi => by simp at hi
theorem lb_ok {n : Nat} {g : ByteArray} (h : okG n g = true) : (bif rdB g then rdL g else []) = rdL g := by rw [(okG_iff.1 h).1]; rfl
theorem map_succ {G : List ByteArray} {k : Nat} (h : k < G.length) : (G.take (k + 1)).map rdL = (G.take k).map rdL ++ [rdL (gt G k)] := by rw [take_snocT h, List.map_append]; rfl
theorem lb_le (g : ByteArray) : (bif rdB g then rdL g else []).length ≤ 255 := by
  cases rdB g with
  | false => simp
  | true => simp only [cond_true]; rw [rdL_len]; have := UInt8.toNat_lt (bt g 0); omega
theorem flt_map (G : List ByteArray) (k : Nat) : flt (G.map rdL) k = wrs (G.take k) := by
  unfold flt wrs
  rw [← List.map_take, List.flatMap_def]

set_option maxRecDepth 20000 in
set_option maxHeartbeats 16000000 in
theorem opened_any (x y z : Option Addr) (cx cy cz : Nat) (L : List ByteArray) (P : List Wr) (G : List ByteArray) (q : Int) (w : World) (a : Addr) (ok : SOk L P G cz q) (ha : StAt w x y z L P G) (hS : Sn w a) :
    Calls Tryd.prog 85 #[stv x L.length cx y P.length cy z G.length cz q] w fun e w' => OpRes w w' e a L P G q (gdS L P G q) := by
  have HGD : Hid (gdS L P G q = (gdD L P && (decide (G.length ≤ 40) && (inB q 0 G.length && (G.all (okG L.length) && P.all fun x => memW x (wrs (G.take q.toNat))))))) := rfl
  obtain ⟨D, hD0⟩ : ∃ D, w.heap.size = D := ⟨_, rfl⟩
  obtain ⟨W0, hW0⟩ : ∃ W0, (w.alloc (.cells #[.slice x L.length cx, .slice y P.length cy, .slice z G.length cz, .int .i64 q] 34)).alloc (.cells #[.slice none 0 0, .slice none 0 0, .slice none 0 0, .int .i64 0] 81) = W0 := ⟨_, rfl⟩
  have q0 : Below w.heap.size w W0 := by subst hW0; exact ba2 _ _ _
  have HA : Hid (W0.heap[D]? = some (.cells #[.slice x L.length cx, .slice y P.length cy, .slice z G.length cz, .int .i64 q] 34 (0, 0)) ∧ W0.heap[D + 1]? = some (.cells #[.slice none 0 0, .slice none 0 0, .slice none 0 0, .int .i64 0] 81 (0, 0))) := by subst hW0 hD0; exact al2 _ _ _
  have cG := implGood_any x y L.length P.length cx cy (gt L) (Tl P) (Ul P) W0 ok.l ok.p (ha.x.below q0) (ha.y.below q0) ok.fl ok.fp
  have e0 : goodB L.length P.length (gt L) (Tl P) (Ul P) = gdD L P := rfl
  rw [e0] at cG
  clear e0
  generalize gdS L P G q = R at HGD ⊢
  obtain ⟨x0, x1, x2, x3⟩ := box4_cells HA.out.1
  obtain ⟨hl1, hp1, hg1, hc1, hfl, hfp, hfg, hq1, hq2⟩ := ok
  have HD : Hid (w.heap.size = D) := hD0
  cases hD : gdD L P with
  | false =>
    rw [hD] at cG HGD
    have e : R = false := HGD.out
    subst e
    go_enter Tryd.func85, Tryd.ntmps85
    go_wp2_with (first
      | (go_at_call 99; refine cG.mono ?_; rintro e w1 ⟨rfl, b1⟩)
      | (go_at_call 58; refine (demand_no _ a (hS.on (Below.comp q0 b1))).mono ?_; rintro e w2 ⟨rfl, h2⟩; replace h2 := h2.symm; subst h2))
    exact ⟨rfl, OpRes.no (Below.comp q0 b1)⟩
  | true =>
    rw [hD, Bool.true_and] at HGD
    rw [hD] at cG
    by_cases h40 : G.length ≤ 40
    · have d40 : decide ((G.length : Int) ≤ 40) = true := by simp; omega
      rw [decide_eq_true h40, Bool.true_and] at HGD
      cases hI : inB q 0 G.length with
      | false =>
        rw [hI] at HGD
        have e : R = false := HGD.out
        subst e
        by_cases hq0 : 0 ≤ q
        · have dq0 : decide (0 ≤ q) = true := decide_eq_true hq0
          have dq1 : decide (q ≤ (G.length : Int)) = false := decide_eq_false (fun h => by rw [inB, decide_eq_true ⟨hq0, h⟩] at hI; cases hI)
          go_enter Tryd.func85, Tryd.ntmps85
          go_wp2_with (first
            | (go_at_call 99; refine cG.mono ?_; rintro e w1 ⟨rfl, b1⟩; obtain ⟨y0, y1, y2, y3⟩ := box4_cells (box_on HA.out.1 b1); clear x0 x1 x2 x3)
            | (go_at_call 58; refine (demand_no _ a (hS.on (Below.comp q0 b1))).mono ?_; rintro e w2 ⟨rfl, h2⟩; replace h2 := h2.symm; subst h2))
          exact ⟨rfl, OpRes.no (Below.comp q0 b1)⟩
        · have dq0 : decide (0 ≤ q) = false := decide_eq_false hq0
          go_enter Tryd.func85, Tryd.ntmps85
          go_wp2_with (first
            | (go_at_call 99; refine cG.mono ?_; rintro e w1 ⟨rfl, b1⟩; obtain ⟨y0, y1, y2, y3⟩ := box4_cells (box_on HA.out.1 b1); clear x0 x1 x2 x3)
            | (go_at_call 58; refine (demand_no _ a (hS.on (Below.comp q0 b1))).mono ?_; rintro e w2 ⟨rfl, h2⟩; replace h2 := h2.symm; subst h2))
          exact ⟨rfl, OpRes.no (Below.comp q0 b1)⟩
      | true =>
        rw [hI, Bool.true_and] at HGD
        have hqr := of_decide_eq_true hI
        obtain ⟨k, hk⟩ : ∃ k : Nat, q = k := ⟨q.toNat, by omega⟩
        subst hk
        have hkG : k ≤ G.length := by omega
        rw [Int.toNat_natCast] at HGD
        have dq0 : decide (0 ≤ (k : Int)) = true := decide_eq_true (by omega)
        have dq1 : decide ((k : Int) ≤ (G.length : Int)) = true := decide_eq_true (by omega)
        obtain ⟨hn1, hn32, _, _, _⟩ := goodB_spec (show goodB L.length P.length (gt L) (Tl P) (Ul P) = true from hD)
        clear hI hD hqr
        go_enter Tryd.func85, Tryd.ntmps85
        go_wp2_with (first
          | (go_at_call 99; refine cG.mono ?_; rintro e w1 ⟨rfl, b1⟩; obtain ⟨y0, y1, y2, y3⟩ := box4_cells (box_on HA.out.1 b1); clear x0 x1 x2 x3)
          | (go_at_call 58; refine (demand_yes _).mono ?_; rintro e w2 ⟨rfl, h2⟩; replace h2 := h2.symm; subst h2))
        have g1 := Below.comp q0 b1
        have hDw : D < w1.heap.size := box_lt (box_on HA.out.1 b1)
        have HB0 : Hid (∀ W, Below w1.heap.size w1 W → W.heap[D]? = some (.cells #[.slice x L.length cx, .slice y P.length cy, .slice z G.length cz, .int .i64 (k : Int)] 34 (0, 0)) ∧ W.heap[D + 1]? = some (.cells #[.slice none 0 0, .slice none 0 0, .slice none 0 0, .int .i64 0] 81 (0, 0))) := fun W hW => ⟨box_on (box_on HA.out.1 b1) hW, box_on (box_on HA.out.2 b1) hW⟩
        obtain ⟨Z0, hZ0⟩ : ∃ Z0, w1.heap.size = Z0 := ⟨_, rfl⟩
        have HZ0 : Hid (w1.heap.size = Z0) := hZ0
        obtain ⟨W2, hW2⟩ : ∃ W2, w1.alloc (.cells #[.slice none 0 0, .slice none 0 0, .slice none 0 0, .int .i64 0] 81) = W2 := ⟨_, rfl⟩
        have b2 : Below w1.heap.size w1 W2 := by subst hW2; exact below_alloc _ _
        have hT2 : Hid (W2.heap[Z0]? = some (.cells #[.slice none 0 0, .slice none 0 0, .slice none 0 0, .int .i64 0] 81 (0, 0))) := by subst hW2 hZ0; exact al1 _ _
        obtain ⟨z0, z1, z2, z3⟩ := box4_cells (HB0.out _ b2).1
        have g2 := Below.comp g1 b2
        have hsz2 : Hid (W2.heap.size = Z0 + 1) := by subst hW2 hZ0; exact sz1 _ _
        have hDZ : D < Z0 := by omega
        rw [hW2, hZ0]
        clear y0 y1 y2 y3 cG HA hW0 q0 hW2 hZ0
        go_region_held3 (fun W => W.cell? ⟨D, 0, none⟩ = some (.slice x L.length cx) ∧ W.cell? ⟨D, 1, none⟩ = some (.slice y P.length cy))
          ((first
            | exact ⟨z0, z1⟩ | exact ⟨n0, n1⟩ | exact ⟨p0, p1⟩
            | exact ⟨Out.cell (out_setCell w4 Z0 0 _) p0 (.inl hDZ), Out.cell (out_setCell w4 Z0 0 _) p1 (.inl hDZ)⟩
            | exact ⟨Out.cell (Out.setCell (out_setCell w4 Z0 0 _) (Nat.le_refl _) (Nat.lt_succ_self _) 1 _) p0 (.inl hDZ), Out.cell (Out.setCell (out_setCell w4 Z0 0 _) (Nat.le_refl _) (Nat.lt_succ_self _) 1 _) p1 (.inl hDZ)⟩))
          (first
          | (go_at_call 95; refine (copyList_any x L.length cx (gt L) _ hl1 (At.below ha.x (Below.drew g2))).mono ?_; rintro e w3 ⟨b3, x', cx', rfl, m3⟩; have n0 := cell_on (w := W2.drew) z0 b3; have n1 := cell_on (w := W2.drew) z1 b3; have hT3 : Hid _ := box_on (show W2.drew.heap[Z0]? = some (.cells #[.slice none 0 0, .slice none 0 0, .slice none 0 0, .int .i64 0] 81 (0, 0)) from hT2.out) b3)
          | (go_at_call 100; refine (copyW_any y P.length cy (Tl P) (Ul P) _ hp1 (At2.below ha.y (Below.comp (Below.drew g2) b3))).mono ?_; rintro e w4 ⟨b4, y', cy', rfl, m4⟩; have p0 := cell_on n0 b4; have p1 := cell_on n1 b4; have hT4 : Hid _ := box_on hT3.out b4; obtain ⟨e0, e1, e2, e3⟩ := box4_cells hT4.out; obtain ⟨f0, f1, f2, f3⟩ := box4_free hT4.out))
        have g4 := Below.comp (Below.comp (Below.drew g2) b3) b4
        have hD0w : w.heap.size ≤ Z0 := by have := HD.out; omega
        obtain ⟨W5, hW5⟩ : ∃ W5, (w4.setCell ⟨Z0, 0, none⟩ (.slice x' L.length cx')).setCell ⟨Z0, 1, none⟩ (.slice y' P.length cy') = W5 := ⟨_, rfl⟩
        have o5 : Out Z0 (Z0 + 1) w4 W5 := by subst hW5; exact Out.setCell (out_setCell w4 Z0 0 _) (Nat.le_refl _) (Nat.lt_succ_self _) 1 _
        have hT5 : Hid (W5.heap[Z0]? = some (.cells #[.slice x' L.length cx', .slice y' P.length cy', .slice none 0 0, .int .i64 0] 81 (0, 0))) := by
          subst hW5
          rw [Hid, block_setz (block_setz hT4.out)]
          rfl
        have hs3 : Z0 + 1 ≤ w3.heap.size := by have := b3.size; have := hsz2.out; simp at *; omega
        have hs4 : w3.heap.size ≤ w4.heap.size := b4.size
        have hs5 : w4.heap.size ≤ W5.heap.size := o5.size
        have g5 : Hid (Below w.heap.size w W5) := g4.trans ((Out.below o5 (by omega)).mono hD0w)
        have hB5 : Hid (W5.heap[D]? = some (.cells #[.slice x L.length cx, .slice y P.length cy, .slice z G.length cz, .int .i64 (k : Int)] 34 (0, 0)) ∧ W5.heap[D + 1]? = some (.cells #[.slice none 0 0, .slice none 0 0, .slice none 0 0, .int .i64 0] 81 (0, 0))) := by
          have h4 := HB0.out w4 (Below.comp (Below.comp (Below.drew b2) b3) b4)
          have hD1 : D + 1 < Z0 := by have := box_lt (HB0.out w1 (Below.refl _ _)).2; have := HZ0.out; omega
          exact ⟨box_out h4.1 o5 (.inl hDZ), box_out h4.2 o5 (.inl hD1)⟩
        have M3 : Hid (MineT W5 (Z0 + 1) W5.heap.size x' L) := ((m3.below b4).out o5 (.inr (by have := hsz2.out; simp; omega))).mono (by have := hsz2.out; simp; omega) (by omega)
        have M4 : Hid (MineW W5 (Z0 + 1) W5.heap.size y' P) := (m4.out o5 (.inr (by omega))).mono (by omega) (by omega)
        have hD1w : D + 1 < Z0 := by have := box_lt (HB0.out w1 (Below.refl _ _)).2; have := HZ0.out; omega
        rw [hW5]
        obtain ⟨c0, c1, c2, c3⟩ := box4_cells hB5.out.1
        have HS0 : Hid (Sn w a) := hS
        have HAz : Hid (RowT w z G) := ha.z
        clear hW5 o5 m3 m4 hT4 hT3 hT2 hsz2 HB0 z0 z1 z2 z3 n0 n1 p0 p1 e0 e1 e2 e3 f0 f1 f2 f3 b1 b2 b3 b4 g1 g2 g4 ha hS HZ0 hDw
        go_wp2
        clear c0 c1 c2 c3
        go_loopw [50] (fun i wr => ∃ (j : Nat) (V : Value), j ≤ G.length ∧ i = .int .i64 j ∧ Hid (wr.heap[Z0]? = some (.cells #[.slice x' L.length cx', .slice y' P.length cy', V, .int .i64 0] 81 (0, 0))) ∧ Hid (LogR wr D W5.heap.size V ((G.take j).map rdL)) ∧ Hid (∀ i, i < j → okG L.length (gt G i) = true) ∧ Hid (Out Z0 (Z0 + 1) W5 wr)) (fun i _ => G.length - (intOf i).toNat)
        case atStart => exact ⟨0, _, Nat.zero_le _, rfl, hT5, LogR.nil _ _ _, fun i hi => absurd hi (by omega), Out.refl _ _ _⟩
        case round =>
          obtain ⟨j, V, hj, rfl, hT, hLg, hall, ho⟩ := hrel
          have hbw : Hid (Below w.heap.size w wr) := g5.out.trans ((Out.below ho.out (by omega)).mono hD0w)
          have hszr : W5.heap.size ≤ wr.heap.size := ho.out.size
          have hsn : Hid (Sn wr a) := Sn.on HS0.out hbw.out
          by_cases hlt : j < G.length
          · obtain ⟨bz, oz, hz, hcell⟩ := (At.below HAz.out hbw.out) (by omega)
            subst hz
            have hck : wr.cell? ⟨bz, oz + j, none⟩ = some (.string (gt G j)) := hcell j hlt
            have hlt' : (j : Int) < (G.length : Int) := by omega
            have hsg := hfg j hlt
            have cR := implRead_any (gt G j) wr hsg
            unfold RdRes at cR
            have HL : Hid _ := okG_lb L.length (gt G j)
            have HFw : Hid _ := lb_few (gt G j)
            have hle := lb_le (gt G j)
            have HOk : Hid (okG L.length (gt G j) = true → (bif rdB (gt G j) then rdL (gt G j) else []) = rdL (gt G j)) := fun h => lb_ok h
            have HSu : Hid _ := map_succ hlt
            have HNo : Hid (okG L.length (gt G j) = false → G.all (okG L.length) = false) := fun h => all_no hlt h
            clear hcell
            generalize hlb : (bif rdB (gt G j) then rdL (gt G j) else []) = lb at *
            generalize rdB (gt G j) = okr at *
            generalize hgg : gt G j = g at *
            generalize hkk : okG L.length g = K at *
            have Hgg : Hid _ := hgg
            have Hkk : Hid _ := hkk
            clear hlb hgg hkk
            go_wp2_with fail
            refine cR.mono ?_
            rintro e w6 ⟨b6, v6, rfl, o6⟩
            obtain ⟨y6, c6, rfl, _, m6⟩ := OwnW.form o6
            have cT := isTxn_any y6 c6 lb L.length w6 hn32 (by omega) HFw.out m6.wrts
            rw [HL.out] at cT
            have hT6 : Hid _ := box_on hT.out b6
            obtain ⟨t0, t1, t2, t3⟩ := box4_cells hT6.out
            have M6 : Hid _ := m6
            clear cR o6 m6 hck
            cases K with
            | false =>
              have e := HGD.out
              rw [HNo.out rfl] at e
              subst e
              go_wp2_with (first
                | (go_at_call 59; refine cT.mono ?_; rintro e w7 ⟨rfl, b7⟩)
                | (go_at_call 58; refine (demand_no _ a (hsn.out.on (Below.comp b6 b7))).mono ?_; rintro e w8 ⟨rfl, h8⟩; replace h8 := h8.symm; subst h8))
              exact ⟨rfl, OpRes.no (Below.comp hbw.out (Below.comp b6 b7))⟩
            | true =>
              obtain ⟨A, C, hi1, hi2⟩ := hLg.out
              have hal : ((G.take j).map rdL).length = j := by rw [List.length_map, List.length_take]; omega
              generalize hacc : (G.take j).map rdL = acc at *
              obtain ⟨xv, cv, hV⟩ := owns_form hi1
              subst hV
              have HI1 : Hid _ := hi1
              have HI2 : Hid _ := hi2
              have Hal : Hid (acc.length = j) := hal
              have hal40 : acc.length ≤ 40 := by omega
              clear hi1 hi2 hal
              go_wp2_with (first
                | (go_at_call 59; refine cT.mono ?_; rintro e w7 ⟨rfl, b7⟩; have b67 : Hid _ := Below.comp b6 b7; have hT7 : Hid _ := box_on hT6.out b7; have hT8 : Hid _ := box_on hT7.out (below_alloc w7 (.cells #[.slice y6 lb.length c6] 30)); obtain ⟨t0', t1', t2', t3'⟩ := box4_cells hT7.out; clear t0 t1 t2 t3; have b8 : Hid _ := Below.comp b67.out (below_alloc w7 (.cells #[.slice y6 lb.length c6] 30)); have own8 : Hid _ := owns_below HI1.out b8.out; have in8 : Hid _ := InW.of_mine (B := D) (Mine.below (Mine.below M6.out b7) (below_alloc w7 (.cells #[.slice y6 lb.length c6] 30))); have hz8 : W5.heap.size ≤ (w7.alloc (.cells #[.slice y6 lb.length c6] 30)).heap.size := Nat.le_trans hszr b8.out.size)
                | (go_at_call 58; refine (demand_yes _).mono ?_; rintro e w8 ⟨rfl, h8⟩; replace h8 := h8.symm; subst h8)
                | (at_builtin; refine wpList_append_src rfl _ _ 79 rfl W5.heap.size 30 _ 1 24 Tryd.underlying79 infoSW rfl (by decide) (.slice xv acc.length cv) acc.length (svs A C acc) rfl own8.out (some ⟨w7.heap.size, 0, none⟩) 1 1 [.slice y6 lb.length c6] rfl rfl (.inr ⟨_, rfl, new_one w7 _ _⟩) (fun u hu => by rw [List.mem_singleton] at hu; subst hu; rfl) (by omega) (by decide) hz8 ?_; intro v9 w9 own9 gr9; obtain ⟨x9, c9, e9⟩ := owns_form own9; subst e9; have hT9 : Hid (w9.heap[Z0]? = some (.cells #[.slice x' L.length cx', .slice y' P.length cy', .slice xv acc.length cv, .int .i64 0] 81 (0, 0))) := ((gr9.block Z0 (box_lt hT8.out) (fun e => by have := owns_ge own8.out Z0 e.symm; omega)).trans hT8.out); obtain ⟨s0, s1, s2, s3⟩ := box4_cells hT9.out; obtain ⟨f0, f1, f2, f3⟩ := box4_free hT9.out; clear t0' t1' t2' t3'; have O9 : Hid _ := own9; have G9 : Hid _ := gr9; clear own9 gr9))
              go_roundw
              case rel =>
                have hb9 : Below W5.heap.size wr w9 := (b8.out.mono hszr).trans (Grown.below G9.out hz8 (owns_ge own8.out))
                have hl9 : LogR w9 D W5.heap.size (.slice x9 (acc.length + 1) c9) (acc ++ [lb]) := LogR.snoc (by omega) own8.out (fun i hi => InW.below (HI2.out i hi) b8.out) in8.out O9.out G9.out
                refine ⟨j + 1, .slice x9 (acc.length + 1) c9, by omega, by go_num, ?_, ?_, ?_, (ho.out.then_below hb9).setCell (Nat.le_refl _) (Nat.lt_succ_self _) 2 _⟩
                · rw [Hid, block_setz hT9.out]
                  rfl
                · rw [HSu.out]
                  have := LogR.out hl9 (out_setCell w9 Z0 2 (.slice x9 (acc.length + 1) c9)) (by omega) hT9.out (by decide) (by decide)
                  rw [HOk.out (by simp)] at this
                  exact this
                · intro i hi
                  by_cases e : i = j
                  · subst e; rw [Hgg.out, Hkk.out]
                  · exact hall.out i (by omega)
              case measure => simp [intOf]; omega
          · obtain rfl : j = G.length := by omega
            have e := HGD.out
            rw [all_yes hall.out, Bool.true_and] at e
            have HR : Hid _ := e
            have hl0 := hLg.out
            rw [List.take_length] at hl0
            have hB6 : wr.heap[D]? = some (.cells #[.slice x L.length cx, .slice y P.length cy, .slice z G.length cz, .int .i64 (k : Int)] 34 (0, 0)) := box_out hB5.out.1 ho.out (.inl hDZ)
            have hB7 : wr.heap[D + 1]? = some (.cells #[.slice none 0 0, .slice none 0 0, .slice none 0 0, .int .i64 0] 81 (0, 0)) := box_out hB5.out.2 ho.out (.inl hD1w)
            obtain ⟨W6, hW6⟩ : ∃ W6, wr.setCell ⟨Z0, 3, none⟩ (.int .i64 (k : Int)) = W6 := ⟨_, rfl⟩
            have o6 : Out Z0 (Z0 + 1) wr W6 := by subst hW6; exact out_setCell _ _ _ _
            have hO6 : Hid (OB W6 Z0 (.slice x' L.length cx') (.slice y' P.length cy') V (k : Int)) := by
              subst hW6
              rw [Hid, OB, block_setz hT.out]
              rfl
            have L6 : Hid (LogR W6 D W5.heap.size V (G.map rdL)) := LogR.out hl0 o6 (by omega) hT.out (by decide) (by decide)
            have hb6 : Hid (Below w.heap.size w W6) := hbw.out.trans ((Out.below o6 (by omega)).mono hD0w)
            have hB8 : Hid (W6.heap[D + 1]? = some (.cells #[.slice none 0 0, .slice none 0 0, .slice none 0 0, .int .i64 0] 81 (0, 0))) := box_out hB7 o6 (.inl hD1w)
            have m36 : Hid (MineT W6 (Z0 + 1) W5.heap.size x' L) := (M3.out.out ho.out (.inr (Nat.le_refl _))).out o6 (.inr (Nat.le_refl _))
            have m46 : Hid (MineW W6 (Z0 + 1) W5.heap.size y' P) := (M4.out.out ho.out (.inr (Nat.le_refl _))).out o6 (.inr (Nat.le_refl _))
            have hs6 : W5.heap.size ≤ W6.heap.size := Nat.le_trans hszr o6.size
            have hsh : Short (G.map rdL) := ⟨by rw [List.length_map]; omega, fun i hi => by
              rw [List.length_map] at hi
              have : gl (G.map rdL) i = rdL (gt G i) := by rw [gl_lt (by rw [List.length_map]; exact hi), List.getElem_map, gt_lt hi]
              rw [this]
              exact rd_8 (hall.out i hi)⟩
            have cS : Hid (∀ W, Below W6.heap.size W6 W → Calls Tryd.prog 67 #[.pointer (some ⟨Z0, 0, none⟩)] W fun e w' => Below W.heap.size W w' ∧ ∃ v, e = .returned v ∧ OwnW w' W.heap.size v (wrs (G.take k))) := fun W hW => by
              have := synced_any Z0 _ _ V k (G.map rdL) W (by rw [List.length_map]; exact hkG) hsh (box_on hO6.out hW) (LogAt.below (LogR.at L6.out) hW)
              rwa [flt_map] at this
            have hws : (wrs (G.take k)).length ≤ 8 * k := wrs_le (n := L.length) k hkG (fun i hi => hall.out i (by omega))
            have hsn6 : Hid (Sn W6 a) := Sn.on HS0.out hb6.out
            obtain ⟨c0, c1, c2, c3⟩ := box4_cells hB6
            obtain ⟨s0, s1, s2, s3⟩ := box4_cells hT.out
            obtain ⟨f0, f1, f2, f3⟩ := box4_free hT.out
            obtain ⟨d0, d1, d2, d3⟩ := box4_cells hO6.out
            generalize wrs (G.take k) = ws at *
            clear e hl0 hB6 hB7 o6 hLg hT hbw hsn hall ho hB5 hT5 M3 M4 HGD g5 HAz
            go_wp2
            clear c0 c1 c2 c3 s0 s1 s2 s3 f0 f1 f2 f3 hW6
            have HP : Hid (∀ i, i < P.length → (gw P i).d.size ≤ 9223372036854775807) := hfp
            clear hfl hfp hfg d0 d1 d2 d3
            go_loopw [82] (fun i w7 => ∃ (m : Nat), m ≤ P.length ∧ i = .int .i64 m ∧ Hid (∀ i, i < m → memW (gw P i) ws = true) ∧ Hid (Below W6.heap.size W6 w7)) (fun i _ => P.length - (intOf i).toNat)
            case atStart => exact ⟨0, Nat.zero_le _, rfl, fun i hi => absurd hi (by omega), Below.refl _ _⟩
            case round =>
              obtain ⟨m, hm, rfl, hal, hb⟩ := hrel
              have hb2 : Hid (Below w.heap.size w wr) := Below.comp hb6.out hb.out
              by_cases hlt : m < P.length
              · obtain ⟨by', oy', hy', hcell⟩ := (At2.below (Mine.wrts m46.out) hb.out) (by omega)
                subst hy'
                obtain ⟨hck, hck2⟩ := hcell m hlt
                have hlt' : (m : Int) < (P.length : Int) := by omega
                clear hcell
                have hes : gw P m = ⟨Tl P m, Ul P m⟩ := rfl
                obtain ⟨t, ht⟩ : ∃ t, Tl P m = t := ⟨_, rfl⟩
                obtain ⟨u, hu⟩ : ∃ u, Ul P m = u := ⟨_, rfl⟩
                rw [ht] at hck hes
                rw [hu] at hck2 hes
                have HE : Hid (gw P m = ⟨t, u⟩) := hes
                clear hes ht hu
                obtain ⟨mb, hmb⟩ : ∃ mb, memW ⟨t, u⟩ ws = mb := ⟨_, rfl⟩
                obtain ⟨W7, hW7⟩ : ∃ W7, wr.alloc (.cells #[.int .i64 t, .string u] 63) = W7 := ⟨_, rfl⟩
                have b7 : Below wr.heap.size wr W7 := by subst hW7; exact below_alloc _ _
                have hx7 : W7.heap[wr.heap.size]? = some (.cells #[.int .i64 t, .string u] 63 (0, 0)) := by subst hW7; exact al1 _ _
                obtain ⟨y1, y2, _⟩ := box2_cells hx7
                have hb7 := Below.comp hb.out b7
                cases mb with
                | false =>
                  have e := HR.out
                  rw [pend_no hlt (by rw [HE.out]; exact hmb)] at e
                  subst e
                  go_wp2
                  refine wp_region_may [{ v := .iface 117 (.pointer (some a)), recovered := false }] (fun W => Below w.heap.size w W) (fun a' W hd hW => ⟨hd, OpRes.no hW⟩) ?_
                  refine wp_region_L (fun W => W.cell? ⟨wr.heap.size, 0, none⟩ = some (.int .i64 t) ∧ W.cell? ⟨wr.heap.size, 1, none⟩ = some (.string u)) 4 4 (by kernel_rfl) rfl ⟨y1, y2⟩ (fun hS0 => ?_)
                  refine tkL (i := 1) (d := 87) (v := ?_) rfl rfl (by kernel_rfl) (by kernel_rfl) (by kernel_rfl) (by kernel_rfl) (fun _ _ _ h => h) (Or.inl ⟨by rfl, by intro wq hSq; obtain ⟨hq1, hq2⟩ := hSq; go_simp; try with_reducible rfl⟩) (by assumption) ?_
                  simp only [List.setIfInBounds_toArray, List.set_cons_zero, List.set_cons_succ]
                  refine oneL (i := 0) rfl (by kernel_rfl) (fun K hK => ?_)
                  go_simp
                  refine (cS.out _ (Below.drew hb7)).mono ?_
                  rintro e w8 ⟨b8, v8, rfl, o8⟩
                  have n1 := cell_on (w := W7.drew) y1 b8
                  have n2 := cell_on (w := W7.drew) y2 b8
                  obtain ⟨x8, c8, e8, _, m8⟩ := OwnW.form o8
                  subst e8
                  refine hK.out _ _ ⟨n1, n2⟩ (fun hS1 => ?_)
                  clear hK K
                  refine oneL (i := 2) rfl (by kernel_rfl) (fun K hK => ?_)
                  go_simp
                  refine (Contains_any x8 c8 ws t u _ (by omega) (Mine.wrts m8)).mono ?_
                  rw [hmb]
                  rintro e w9 ⟨rfl, b9⟩
                  refine hK.out _ _ ⟨cell_on n1 b9, cell_on n2 b9⟩ (fun hS2 => ?_)
                  clear hK K
                  refine oneL (i := 3) rfl (by kernel_rfl) (fun K hK => ?_)
                  go_simp
                  refine (demand_no _ a (Sn.on hsn6.out (Below.comp (Below.comp (Below.drew hb7) b8) b9))).mono ?_
                  rintro e w10 ⟨rfl, h10⟩
                  replace h10 := h10.symm
                  subst h10
                  have hfin : Below w.heap.size w w9 := Below.comp hb6.out (Below.comp (Below.comp (Below.drew hb7) b8) b9)
                  rw [HD.out] at hfin
                  exact ⟨rfl, rfl, hfin⟩
                | true =>
                  go_wp2
                  go_region_held3 (fun W => W.cell? ⟨wr.heap.size, 0, none⟩ = some (.int .i64 t) ∧ W.cell? ⟨wr.heap.size, 1, none⟩ = some (.string u))
                    ((first | exact ⟨y1, y2⟩ | exact ⟨n1, n2⟩ | exact ⟨p1, p2⟩))
                    (first
                    | (go_at_call 67; refine (cS.out _ (Below.drew hb7)).mono ?_; rintro e w8 ⟨b8, v8, rfl, o8⟩; have n1 := cell_on (w := W7.drew) y1 b8; have n2 := cell_on (w := W7.drew) y2 b8; obtain ⟨x8, c8, e8, _, m8⟩ := OwnW.form o8; subst e8)
                    | (go_at_call 102; refine (Contains_any x8 c8 ws t u _ (by omega) (Mine.wrts m8)).mono ?_; rw [hmb]; rintro e w9 ⟨rfl, b9⟩; have p1 := cell_on n1 b9; have p2 := cell_on n2 b9)
                    | (go_at_call 58; refine (demand_yes _).mono ?_; rintro e w10 ⟨rfl, h10⟩; replace h10 := h10.symm; subst h10))
                  all_goals go_wp2
                  all_goals go_roundw
                  case rel =>
                    refine ⟨m + 1, by omega, by go_num, ?_, Below.comp (Below.comp (Below.drew hb7) b8) b9⟩
                    intro i hi
                    by_cases e : i = m
                    · subst e; rw [HE.out]; exact hmb
                    · exact hal.out i (by omega)
                  case measure => simp [intOf]; omega
              · obtain rfl : m = P.length := by omega
                have e := HR.out
                rw [pend_yes hal.out] at e
                subst e
                obtain ⟨s0, s1, s2, s3⟩ := box4_cells (box_on hO6.out hb.out)
                have hBr : Hid _ := box_on hB8.out hb.out
                obtain ⟨r0, r1, r2, r3⟩ := box4_cells hBr.out
                obtain ⟨q0, q1, q2, q3⟩ := box4_free hBr.out
                obtain ⟨xv, cv, hV⟩ : ∃ xv cv, V = .slice xv (G.map rdL).length cv := by obtain ⟨A, C, h1, _⟩ := L6.out; exact owns_form h1
                subst hV
                go_wp2
                have hset := box4_set hBr.out (x0 := .slice x' L.length cx') (x1 := .slice y' P.length cy') (x2 := .slice xv G.length cv) (x3 := .int .i64 (k : Int))
                obtain ⟨u0, u1, u2, u3⟩ := box4_cells hset
                have hout := set4_out wr (D + 1) (.slice x' L.length cx') (.slice y' P.length cy') (.slice xv G.length cv) (.int .i64 (k : Int))
                have hLf := LogR.below L6.out hb.out
                rw [List.length_map] at hLf
                have hszF := hout.size
                have hszR := hb.out.size
                refine bodyPost_ret (v := .agg #[.slice x' L.length cx', .slice y' P.length cy', .slice xv G.length cv, .int .i64 (k : Int)]) (by simp [results, Tryd.results85, go_sem, u0, u1, u2, u3]) rfl ⟨?_, fun _ => ⟨_, _, _, _, _, rfl, ?_, ?_, ?_⟩, fun h => (by cases h)⟩
                · exact hb2.out.trans ((Out.below hout (Nat.le_of_lt (box_lt hBr.out))).mono (by have := HD.out; omega))
                · exact ((Mine.below m36.out hb.out).out hout (.inr (by omega))).mono (by have := HD.out; omega) (by omega)
                · exact ((Mine.below m46.out hb.out).out hout (.inr (by omega))).mono (by have := HD.out; omega) (by omega)
                · have := LogR.mono (LogR.out hLf hout (by omega) hBr.out (by decide) (by decide)) (Bo' := D) (by omega)
                  rw [HD.out]
                  exact this
    · have d40 : decide ((G.length : Int) ≤ 40) = false := by simp; omega
      rw [decide_eq_false h40] at HGD
      have e : R = false := HGD.out
      subst e
      go_enter Tryd.func85, Tryd.ntmps85
      go_wp2_with (first
        | (go_at_call 99; refine cG.mono ?_; rintro e w1 ⟨rfl, b1⟩; obtain ⟨y0, y1, y2, y3⟩ := box4_cells (box_on HA.out.1 b1); clear x0 x1 x2 x3)
        | (go_at_call 58; refine (demand_no _ a (hS.on (Below.comp q0 b1))).mono ?_; rintro e w2 ⟨rfl, h2⟩; replace h2 := h2.symm; subst h2))
      exact ⟨rfl, OpRes.no (Below.comp q0 b1)⟩
end Go.Proofs.YtmijalmihfgolaaDoor
