import Derived.Test.YtmijalmihfgolaaDoorXA
import Derived.Test.YtmijalmihfgolaaDoorX2
/- WriteBack: the specification. -/
namespace Go.Proofs.YtmijalmihfgolaaDoor
open Go.ChangeShapes Go.WideShapes Go.ChangeAt Go.RowKit
set_option linter.unusedVariables false
open Tx

attribute [local go_sem] Oper.semAt_some

theorem Apt.sym {n m : Nat} {x z : Option Addr} (h : Apt n x m z) : Apt m z n x := by
  rcases h with h | h | h
  · exact .inr (.inl h)
  · exact .inl h
  · exact .inr (.inr fun a b ha hb e => h b a hb ha e.symm)

set_option maxRecDepth 20000 in
set_option maxHeartbeats 4000000 in
theorem l11Back_any (x y z : Option Addr) (cx cy cz : Nat) (L : List ByteArray) (P : List Wr) (G : List ByteArray) (k : Nat) (w : World) (B C : Nat) (hg : gdS L P G k = true) (hc : G.length ≤ cz) (fg : FewT G) (hB : B ≤ C) (hC : C ≤ w.heap.size) (mx : MineT w B C x L) (my : MineW w B C y P) (mz : MineT w C w.heap.size z G) :
    Calls Tryd.prog 65 #[stv x L.length cx y P.length cy z G.length cz k] w fun e w' => Below w.heap.size w w' ∧ ∃ x' cx' y' cy' z' cz', e = .returned (.tuple #[stv x' (bif decide (P.length + (wrs (G.take k)).length ≤ 60) then L else []).length cx' y' (bif decide (P.length + (wrs (G.take k)).length ≤ 60) then P ++ wrs (G.take k) else []).length cy' z' (bif decide (P.length + (wrs (G.take k)).length ≤ 60) then G else []).length cz' (bif decide (P.length + (wrs (G.take k)).length ≤ 60) then (k : Int) else 0), .bool (decide (P.length + (wrs (G.take k)).length ≤ 60))]) ∧ MineSt w' B w'.heap.size x' y' z' (bif decide (P.length + (wrs (G.take k)).length ≤ 60) then L else []).length (bif decide (P.length + (wrs (G.take k)).length ≤ 60) then P ++ wrs (G.take k) else []).length (bif decide (P.length + (wrs (G.take k)).length ≤ 60) then G else []).length (gt (bif decide (P.length + (wrs (G.take k)).length ≤ 60) then L else [])) (Tl (bif decide (P.length + (wrs (G.take k)).length ≤ 60) then P ++ wrs (G.take k) else [])) (Ul (bif decide (P.length + (wrs (G.take k)).length ≤ 60) then P ++ wrs (G.take k) else [])) (gt (bif decide (P.length + (wrs (G.take k)).length ≤ 60) then G else [])) := by
  obtain ⟨hD, h40, hq0, hq1, hall, _⟩ := gd_parts hg
  have hkG : k ≤ G.length := by omega
  have hlk : (G.take k).length = k := by simp; omega
  have hP60 : P.length ≤ 60 := (gdD_parts hD).2.2.1
  have hL32 : L.length ≤ 32 := (gdD_parts hD).2.1
  have cW2 : Hid (∀ w1, Below w.heap.size w w1 → Calls Tryd.prog 46 #[.slice (subA 1 z 0 cz) k cz, .int .i64 (L.length : Nat)] w1 fun e w' => WrRes w1 w' e L.length (G.take k)) := fun w1 hb => by
    have := l11Writes_any (subA 1 z 0 cz) cz (G.take k) L.length w1 (by omega) (by omega) (fg.take k) (RowT.take (At.below mz.strs hb) 1 cz k hkG)
    rwa [hlk] at this
  have hwf : Hid (∀ i, i < (wrs (G.take k)).length → fitB L.length (Tl (wrs (G.take k)) i) (Ul (wrs (G.take k)) i) = true) := wrs_fits (all_take hall k)
  have hws : (wrs (G.take k)).length ≤ 8 * k := wrs_le (n := L.length) k hkG (fun i hi => List.all_eq_true.1 hall _ (by rw [gt_lt (by omega)]; exact List.getElem_mem _))
  unfold WrRes at cW2
  rw [all_take hall k] at cW2
  simp only [cond_true] at cW2
  have hsl := sliceT_to z G.length cz k (by omega)
  generalize wrs (G.take k) = ws at *
  obtain ⟨R, hR⟩ : ∃ R, decide (P.length + ws.length ≤ 60) = R := ⟨_, rfl⟩
  rw [hR]
  obtain ⟨PW, hPW⟩ : ∃ PW, P ++ ws = PW := ⟨_, rfl⟩
  rw [hPW]
  have HPW : Hid (P ++ ws = PW) := hPW
  clear hPW
  have HR : Hid (decide (P.length + ws.length ≤ 60) = R) := hR
  have HG : Hid (gdD L P = true) := hD
  have HX : Hid (MineT w B C x L) := mx
  have HY : Hid (MineW w B C y P) := my
  have HZ : Hid (MineT w C w.heap.size z G) := mz
  obtain ⟨D, hD0⟩ : ∃ D, w.heap.size = D := ⟨_, rfl⟩
  have HD : Hid (w.heap.size = D) := hD0
  obtain ⟨W0, hW0⟩ : ∃ W0, (w.alloc (.cells #[.slice x L.length cx, .slice y P.length cy, .slice z G.length cz, .int .i64 k] 34)).alloc (.cells #[.slice none 0 0, .slice none 0 0, .slice none 0 0, .int .i64 0] 34) = W0 := ⟨_, rfl⟩
  have b0 : Below w.heap.size w W0 := by subst hW0; exact ba2 _ _ _
  have h2 : Hid (W0.heap[D]? = some (.cells #[.slice x L.length cx, .slice y P.length cy, .slice z G.length cz, .int .i64 k] 34 (0, 0)) ∧ W0.heap[D + 1]? = some (.cells #[.slice none 0 0, .slice none 0 0, .slice none 0 0, .int .i64 0] 34 (0, 0))) := by subst hW0 hD0; exact al2 _ _ _
  have hs0 : Hid (W0.heap.size = D + 2) := by subst hW0 hD0; rw [Hid, sz1, sz1]
  obtain ⟨z0, z1, z2, z3⟩ := box4_cells h2.out.1
  have HW0 : Hid (Below w.heap.size w W0) := b0
  clear hR hD hlk hall hg mx my mz b0
  go_enter Tryd.func65, Tryd.ntmps65
  go_wp2
  go_region_held3 (fun W => W.cell? ⟨D, 0, none⟩ = some (.slice x L.length cx) ∧ W.cell? ⟨D, 2, none⟩ = some (.slice z G.length cz) ∧ W.cell? ⟨D, 3, none⟩ = some (.int .i64 (k : Int)))
    ((first | exact ⟨z0, z2, z3⟩ | exact ⟨n0, n2, n3⟩))
    (first
    | (go_at_call 46; refine (cW2.out _ (Below.drew HW0.out)).mono ?_; rintro e w1 ⟨b1, v1, rfl, o1⟩; obtain ⟨n0, n1, n2, n3⟩ := box4_cells (box_on (w := W0.drew) h2.out.1 b1); have HB1 : Hid (Below W0.drew.heap.size W0.drew w1) := b1; obtain ⟨vx, vc, hv1, hvc, mv⟩ := OwnW.form o1; subst hv1; have HV : Hid (MineW w1 W0.drew.heap.size w1.heap.size vx ws) := mv; clear o1 mv b1))
  clear z0 z1 z2 z3 n0 n1 n2 n3 hW0
  have GW1 : Hid (Below w.heap.size w w1) := Below.comp (Below.drew HW0.out) HB1.out
  have sd : W0.drew.heap.size = D + 2 := hs0.out
  have s1 : D + 2 ≤ w1.heap.size := by have := HB1.out.size; omega
  have K2 : Hid (w1.heap[D + 1]? = some (.cells #[.slice none 0 0, .slice none 0 0, .slice none 0 0, .int .i64 0] 34 (0, 0))) := box_on (w := W0.drew) h2.out.2 HB1.out
  have K1 : Hid (w1.heap[D]? = some (.cells #[.slice x L.length cx, .slice y P.length cy, .slice z G.length cz, .int .i64 k] 34 (0, 0))) := box_on (w := W0.drew) h2.out.1 HB1.out
  have HZ1 : Hid (MineT w1 C D z G) := by have := Mine.below HZ.out GW1.out; rw [HD.out] at this; exact this
  have hCD : C ≤ D := by rw [← HD.out]; exact hC
  go_wp2
  go_loopw [25] (fun i wr => ∃ (m : Nat) (xk : Option Addr) (ck : Nat) (yk : Option Addr) (dk : Nat), m ≤ ws.length ∧ P.length + m ≤ 60 ∧ i = .int .i64 m ∧ Hid (wr.heap[D]? = some (.cells #[.slice xk L.length ck, .slice yk (P ++ ws.take m).length dk, .slice z G.length cz, .int .i64 k] 34 (0, 0))) ∧ Hid (MineT wr B wr.heap.size xk L) ∧ Hid (MineW wr B wr.heap.size yk (P ++ ws.take m)) ∧ Hid (Out D (D + 1) w1 wr) ∧ Hid (Apt L.length xk G.length z)) (fun i _ => ws.length - (intOf i).toNat)
  case atStart =>
    refine ⟨0, x, cx, y, cy, Nat.zero_le _, by omega, rfl, ?_, Mine.mono (Mine.below HX.out GW1.out) (Nat.le_refl _) (by omega), ?_, Out.refl _ _ _, apt_of HX.out HZ.out (Nat.le_refl _)⟩
    · rw [List.take_zero, List.append_nil]
      exact K1.out
    · rw [List.take_zero, List.append_nil]
      exact Mine.mono (Mine.below HY.out GW1.out) (Nat.le_refl _) (by omega)
  case round =>
    obtain ⟨m, xk, ck, yk, dk, hm, hm60, rfl, hBk, hXk, hYk, hok, hAp⟩ := hrel
    have hsr := hok.out.size
    have HZr : Hid (MineT wr C D z G) := Mine.out HZ1.out hok.out (.inl (Nat.le_refl _))
    have K2r : Hid (wr.heap[D + 1]? = some (.cells #[.slice none 0 0, .slice none 0 0, .slice none 0 0, .int .i64 0] 34 (0, 0))) := box_out K2.out hok.out (.inr (Nat.le_refl _))
    have hbw : Hid (Below w.heap.size w wr) := GW1.out.trans ((Out.below hok.out (by omega)).mono (by rw [HD.out]; omega))
    by_cases hlm : m < ws.length
    · have hrow : MineW wr W0.drew.heap.size w1.heap.size vx ws := Mine.out HV.out hok.out (.inr (by omega))
      obtain ⟨by', oy', hy', hcell⟩ := (Mine.wrts hrow) (by omega)
      subst hy'
      obtain ⟨hck, hck2⟩ := hcell m hlm
      have hlt' : (m : Int) < (ws.length : Int) := by omega
      have HT : Hid (ws.take (m + 1) = ws.take m ++ [⟨Tl ws m, Ul ws m⟩]) := take_gw hlm
      have HF : Hid (fitB L.length (Tl ws m) (Ul ws m) = true) := hwf.out m hlm
      have HGm : Hid (gdD L (P ++ ws.take m) = true) := gdD_more HG.out (take_fits hwf.out) (by rw [List.length_take]; omega)
      have HLn : Hid ((P ++ ws.take m).length = P.length + m) := by rw [Hid, List.length_append, List.length_take]; omega
      clear hcell hrow
      generalize Tl ws m = t at *
      generalize Ul ws m = u at *
      generalize hQ : P ++ ws.take m = Q at *
      obtain ⟨W7, hW7⟩ : ∃ W7, wr.alloc (.cells #[.int .i64 t, .string u] 63) = W7 := ⟨_, rfl⟩
      have b7 : Below wr.heap.size wr W7 := by subst hW7; exact below_alloc _ _
      have hx7 : Hid (W7.heap[wr.heap.size]? = some (.cells #[.int .i64 t, .string u] 63 (0, 0))) := by subst hW7; exact al1 _ _
      obtain ⟨y1, y2, _⟩ := box2_cells hx7.out
      have hD7 : Hid (W7.heap[D]? = some (.cells #[.slice xk L.length ck, .slice yk Q.length dk, .slice z G.length cz, .int .i64 k] 34 (0, 0))) := box_on hBk.out b7
      obtain ⟨e0, e1, e2, e3⟩ := box4_cells hD7.out
      have HB7 : Hid (Below wr.heap.size wr W7) := b7
      have s7 := b7.size
      have HQ : Hid (P ++ ws.take m = Q) := hQ
      have K27 : Hid (W7.heap[D + 1]? = some (.cells #[.slice none 0 0, .slice none 0 0, .slice none 0 0, .int .i64 0] 34 (0, 0))) := box_on K2r.out b7
      obtain ⟨g1, g2, g3, g4, g5⟩ := gdD_parts HGm.out
      have cS := specWrite_any xk yk L.length Q.length ck dk (gt L) (Tl Q) (Ul Q) t u W7 (by omega) (by omega) (Mine.strs (Mine.below hXk.out b7)) (Mine.wrts (Mine.below hYk.out b7)) (fewT_8 g4) (few_8 g5) (by rw [(fitB_spec HF.out).2.2]; decide)
      unfold wrN wrM at cS
      clear hQ b7 g1 g2 g3 g4 g5
      by_cases h60 : P.length + m = 60
      · have e : R = false := by rw [← HR.out]; exact decide_eq_false (by omega)
        subst e
        rw [wr_no (by rw [HLn.out]; exact h60)] at cS
        simp only [cond_false] at cS
        clear h60
        go_wp2_with fail
        refine Calls.mono cS ?_
        rintro e w2 ⟨b2, x2, c2, y2', d2, rfl, m2x, m2y⟩
        obtain ⟨W8, hW8⟩ : ∃ W8, w2.alloc (.cells #[.slice x2 0 c2, .slice y2' 0 d2] 32) = W8 := ⟨_, rfl⟩
        have b8 : Below w2.heap.size w2 W8 := by subst hW8; exact below_alloc _ _
        have k28 := box_on (box_on K27.out b2) b8
        have g8 : Hid (Below w.heap.size w W8) := Below.comp (Below.comp (Below.comp hbw.out HB7.out) b2) b8
        have s8 : D + 2 ≤ W8.heap.size := by have := b2.size; have := b8.size; omega
        obtain ⟨d0, d1, d2', d3⟩ := box4_cells k28
        obtain ⟨p0, p1, p2, p3⟩ := box4_free k28
        have K28 : Hid (W8.heap[D + 1]? = some (.cells #[.slice none 0 0, .slice none 0 0, .slice none 0 0, .int .i64 0] 34 (0, 0))) := k28
        clear e0 e1 e2 e3 y1 y2 hck hck2 b2 b8 m2x m2y k28
        go_wp2
        have hset := box4_set K28.out (x0 := .slice none 0 0) (x1 := .slice none 0 0) (x2 := .slice none 0 0) (x3 := .int .i64 0)
        have hout := set4_out W8 (D + 1) (.slice none 0 0) (.slice none 0 0) (.slice none 0 0) (.int .i64 0)
        obtain ⟨u0, u1, u2, u3⟩ := box4_cells hset
        exact bodyPost_ret (v := .tuple #[stv none 0 0 none 0 0 none 0 0 0, .bool false]) (by simp [results, Tryd.results65, go_sem, u0, u1, u2, u3]) rfl ⟨g8.out.trans ((Out.below hout (by omega)).mono (by rw [HD.out]; omega)), none, 0, none, 0, none, 0, rfl, ⟨mine_none _ _ _ _ _ _, mine_none _ _ _ _ _ _⟩, mine_none _ _ _ _ _ _, .inl rfl⟩
      · rw [wr_yes HGm.out HF.out (by rw [HLn.out]; exact h60)] at cS
        simp only [cond_true] at cS
        go_wp2_with fail
        refine Calls.mono cS ?_
        rintro e w2 ⟨b2, x2, c2, y2', d2, rfl, m2x, m2y⟩
        obtain ⟨W8, hW8⟩ : ∃ W8, w2.alloc (.cells #[.slice x2 L.length c2, .slice y2' (Q.length + 1) d2] 32) = W8 := ⟨_, rfl⟩
        have b8 : Below w2.heap.size w2 W8 := by subst hW8; exact below_alloc _ _
        have hx8 : W8.heap[w2.heap.size]? = some (.cells #[.slice x2 L.length c2, .slice y2' (Q.length + 1) d2] 32 (0, 0)) := by subst hW8; exact al1 _ _
        have hD8 : Hid (W8.heap[D]? = some (.cells #[.slice xk L.length ck, .slice yk Q.length dk, .slice z G.length cz, .int .i64 k] 34 (0, 0))) := box_on (box_on hD7.out b2) b8
        have HAp : Hid (Apt L.length x2 G.length z) := Apt.sym (apt_of (Mine.below (Mine.below HZr.out HB7.out) b2) m2x (by omega))
        have MX8 : Hid (MineT W8 W7.heap.size w2.heap.size x2 L) := Mine.below m2x b8
        have MY8 : Hid (Mine W8 W7.heap.size w2.heap.size 63 (Q.length + 1) y2' (wrts (Q.length + 1) (setT (Tl Q) Q.length t) (setU (Ul Q) Q.length u))) := Mine.below m2y b8
        have HB8 : Hid (Below wr.heap.size wr W8) := Below.comp (Below.comp HB7.out b2) b8
        have s8 : w2.heap.size ≤ W8.heap.size := b8.size
        obtain ⟨j0, j1, _⟩ := box2_cells hx8
        clear e0 e1 e2 e3
        obtain ⟨e0, e1, e2, e3⟩ := box4_cells hD8.out
        obtain ⟨p0, p1, p2, p3⟩ := box4_free hD8.out
        clear y1 y2 hck hck2 b2 b8 m2x m2y hx8
        go_wp2
        go_roundw
        case rel =>
          have eq2 : P ++ ws.take (m + 1) = Q ++ [(⟨t, u⟩ : Wr)] := by rw [HT.out, ← List.append_assoc, HQ.out]
          have el : (Q ++ [(⟨t, u⟩ : Wr)]).length = Q.length + 1 := by simp
          have o9 : Out D (D + 1) W8 ((W8.setCell ⟨D, 0, none⟩ (.slice x2 L.length c2)).setCell ⟨D, 1, none⟩ (.slice y2' (Q.length + 1) d2)) := Out.setCell (out_setCell W8 _ 0 _) (Nat.le_refl _) (Nat.lt_succ_self _) 1 _
          have s9 := o9.size
          have hBB : B ≤ W7.heap.size := by omega
          refine ⟨m + 1, x2, c2, y2', d2, by omega, by omega, by go_num, ?_, ?_, ?_, ?_, HAp⟩
          · rw [Hid, block_setz (block_setz hD8.out), eq2, el]; rfl
          · exact Mine.mono (Mine.out MX8.out o9 (.inr (by omega))) hBB (by omega)
          · rw [eq2]
            exact Mine.mono (mineW_snoc (g := ⟨t, u⟩) (Mine.out MY8.out o9 (.inr (by omega)))) hBB (by omega)
          · exact (hok.out.then_below (HB8.out.mono hsr)).trans o9
        case measure => simp [intOf]; omega
    · obtain rfl : m = ws.length := by omega
      have e : R = true := by rw [← HR.out]; exact decide_eq_true hm60
      subst e
      have hnl : ¬ ((ws.length : Int) < (ws.length : Int)) := by omega
      rw [List.take_length, HPW.out] at hBk hYk
      obtain ⟨e0, e1, e2, e3⟩ := box4_cells hBk.out
      obtain ⟨d0, d1, d2, d3⟩ := box4_cells K2r.out
      obtain ⟨p0, p1, p2, p3⟩ := box4_free K2r.out
      go_wp2
      have hset := box4_set K2r.out (x0 := .slice xk L.length ck) (x1 := .slice yk PW.length dk) (x2 := .slice z G.length cz) (x3 := .int .i64 k)
      have hout := set4_out wr (D + 1) (.slice xk L.length ck) (.slice yk PW.length dk) (.slice z G.length cz) (.int .i64 k)
      obtain ⟨W9, hW9⟩ : ∃ W9, (((wr.setCell ⟨D + 1, 0, none⟩ (.slice xk L.length ck)).setCell ⟨D + 1, 1, none⟩ (.slice yk PW.length dk)).setCell ⟨D + 1, 2, none⟩ (.slice z G.length cz)).setCell ⟨D + 1, 3, none⟩ (.int .i64 k) = W9 := ⟨_, rfl⟩
      rw [hW9] at hset hout
      rw [hW9]
      obtain ⟨u0, u1, u2, u3⟩ := box4_cells hset
      have s9 := hout.size
      have hwr : D + 2 ≤ wr.heap.size := by omega
      have mx9 : MineT W9 B W9.heap.size xk L := Mine.mono (Mine.other hXk.out hout K2r.out (by decide)) (Nat.le_refl _) s9
      have my9 : MineW W9 B W9.heap.size yk PW := Mine.mono (Mine.other hYk.out hout K2r.out (by decide)) (Nat.le_refl _) s9
      have mz9 : MineT W9 B W9.heap.size z G := Mine.mono (Mine.out HZr.out hout (.inl (by omega))) hB (by omega)
      have g9 : Below D w W9 := by have h := hbw.out.trans ((Out.below hout (by omega)).mono (by rw [HD.out]; omega)); rw [HD.out] at h; exact h
      have m9 : MineSt W9 B W9.heap.size xk yk z L.length PW.length G.length (gt L) (Tl PW) (Ul PW) (gt G) := ⟨⟨mx9, my9⟩, mz9, hAp.out⟩
      exact bodyPost_ret (v := .tuple #[stv xk L.length ck yk PW.length dk z G.length cz k, .bool true]) (by simp [results, Tryd.results65, go_sem, u0, u1, u2, u3]) rfl (by first | exact ⟨g9, xk, ck, yk, dk, z, cz, rfl, m9⟩ | exact ⟨g9, xk, ck, yk, dk, z, ⟨cz, rfl⟩, m9⟩)

set_option maxRecDepth 20000 in
set_option maxHeartbeats 4000000 in
theorem specBack_any (x y z : Option Addr) (cx cy cz : Nat) (L : List ByteArray) (P : List Wr) (G : List ByteArray) (q : Int) (w : World) (ok : SOk L P G cz q) (ha : StAt w x y z L P G) :
    Calls Tryd.prog 26 #[stv x L.length cx y P.length cy z G.length cz q] w fun e w' => StB w w' e (gdS L P G q && decide (P.length + (wrs (G.take q.toNat)).length ≤ 60)) L (P ++ wrs (G.take q.toNat)) G q := by
  obtain ⟨D, hD0⟩ : ∃ D, w.heap.size = D := ⟨_, rfl⟩
  have HD : Hid (w.heap.size = D) := hD0
  obtain ⟨W0, hW0⟩ : ∃ W0, (w.alloc (.cells #[.slice x L.length cx, .slice y P.length cy, .slice z G.length cz, .int .i64 q] 34)).alloc (.cells #[.slice none 0 0, .slice none 0 0, .slice none 0 0, .int .i64 0] 34) = W0 := ⟨_, rfl⟩
  have b0 : Below w.heap.size w W0 := by subst hW0; exact ba2 _ _ _
  have h2 : Hid (W0.heap[D]? = some (.cells #[.slice x L.length cx, .slice y P.length cy, .slice z G.length cz, .int .i64 q] 34 (0, 0)) ∧ W0.heap[D + 1]? = some (.cells #[.slice none 0 0, .slice none 0 0, .slice none 0 0, .int .i64 0] 34 (0, 0))) := by subst hW0 hD0; exact al2 _ _ _
  have hs0 : Hid (W0.heap.size = D + 2) := by subst hW0 hD0; rw [Hid, sz1, sz1]
  have cG := specGoodS_any x y z cx cy cz L P G q W0 ok (ha.below b0)
  obtain ⟨V, hV⟩ : ∃ V, decide (P.length + (wrs (G.take q.toNat)).length ≤ 60) = V := ⟨_, rfl⟩
  have HBk : Hid (gdS L P G q = true → ∀ x y z cx cy cz W B C, G.length ≤ cz → B ≤ C → C ≤ W.heap.size → MineT W B C x L → MineW W B C y P → MineT W C W.heap.size z G → Calls Tryd.prog 65 #[stv x L.length cx y P.length cy z G.length cz q] W fun e w' => Below W.heap.size W w' ∧ ∃ x' cx' y' cy' z' cz', e = .returned (.tuple #[stv x' (bif V then L else []).length cx' y' (bif V then P ++ wrs (G.take q.toNat) else []).length cy' z' (bif V then G else []).length cz' (bif V then q else 0), .bool V]) ∧ MineSt w' B w'.heap.size x' y' z' (bif V then L else []).length (bif V then P ++ wrs (G.take q.toNat) else []).length (bif V then G else []).length (gt (bif V then L else [])) (Tl (bif V then P ++ wrs (G.take q.toNat) else [])) (Ul (bif V then P ++ wrs (G.take q.toNat) else [])) (gt (bif V then G else []))) := fun h x y z cx cy cz W B C i1 i2 i3 mx my mz => by
    obtain ⟨k, hk⟩ : ∃ k : Nat, q = k := ⟨q.toNat, by have := (gd_parts h).2.2.1; omega⟩
    subst hk
    have := l11Back_any x y z cx cy cz L P G k W B C h i1 ok.fg i2 i3 mx my mz
    rw [Int.toNat_natCast] at hV ⊢
    rw [hV] at this
    exact this
  rw [hV]
  generalize P ++ wrs (G.take q.toNat) = PW at HBk ⊢
  clear hV
  obtain ⟨x0, x1, x2, x3⟩ := box4_cells h2.out.1
  generalize gdS L P G q = R at cG HBk ⊢
  cases R with
  | false =>
    go_enter Tryd.func26, Tryd.ntmps26
    go_wp2_with fail
    refine cG.mono ?_
    rintro e w1 ⟨rfl, b1⟩
    have k1 := box_on h2.out.1 b1
    have k2 := box_on h2.out.2 b1
    have s1 : D + 2 ≤ w1.heap.size := by have := b1.size; rw [hs0.out] at this; exact this
    have g1 := Below.comp b0 b1
    clear x0 x1 x2 x3
    obtain ⟨c0, c1, c2, c3⟩ := box4_cells k1
    obtain ⟨d0, d1, d2, d3⟩ := box4_cells k2
    obtain ⟨p0, p1, p2, p3⟩ := box4_free k2
    go_wp2
    have hset := box4_set k2 (x0 := .slice none 0 0) (x1 := .slice none 0 0) (x2 := .slice none 0 0) (x3 := .int .i64 0)
    have hout := set4_out w1 (D + 1) (.slice none 0 0) (.slice none 0 0) (.slice none 0 0) (.int .i64 0)
    obtain ⟨u0, u1, u2, u3⟩ := box4_cells hset
    exact bodyPost_ret (v := .tuple #[stv none 0 0 none 0 0 none 0 0 0, .bool false]) (by simp [results, Tryd.results26, go_sem, u0, u1, u2, u3]) rfl (StB.no (g1.trans ((Out.below hout (by omega)).mono (by rw [HD.out]; omega))))
  | true =>
    have HBk2 := HBk.out rfl
    rw [Bool.true_and]
    unfold StB StR
    generalize (bif V then L else []) = LA at HBk2 ⊢
    generalize (bif V then PW else []) = PA at HBk2 ⊢
    generalize (bif V then G else []) = GA at HBk2 ⊢
    generalize (bif V then q else 0) = qa at HBk2 ⊢
    have HBK : Hid _ := HBk2
    clear HBk HBk2
    go_enter Tryd.func26, Tryd.ntmps26
    go_wp2_with fail
    refine cG.mono ?_
    rintro e w1 ⟨rfl, b1⟩
    have k1 := box_on h2.out.1 b1
    have k2 := box_on h2.out.2 b1
    have s1 : D + 2 ≤ w1.heap.size := by have := b1.size; rw [hs0.out] at this; exact this
    have g1 := Below.comp b0 b1
    clear x0 x1 x2 x3
    obtain ⟨c0, c1, c2, c3⟩ := box4_cells k1
    obtain ⟨d0, d1, d2, d3⟩ := box4_cells k2
    obtain ⟨p0, p1, p2, p3⟩ := box4_free k2
    have cO := l11Own_any x y z cx cy cz L P G q w1 ok.l ok.p ok.g (ha.below g1)
    go_wp2_with fail
    refine cO.mono ?_
    rintro e w2 ⟨b2, x', cx', y', cy', z', cz', C, rfl, hC1, hC2, mx, my, oz⟩
    obtain ⟨zz, cc, ee, hcc, mz⟩ := OwnT.mine oz
    cases ee
    have cB := HBK.out x' y' z' cx' cy' cz' w2 w1.heap.size C hcc hC1 hC2 mx my mz
    have j2 := box_on k2 b2
    have s2 := b2.size
    have g2 := Below.comp g1 b2
    clear mx my mz oz c0 c1 c2 c3 d0 d1 d2 d3 p0 p1 p2 p3 HBK
    go_wp2_with fail
    refine Calls.mono cB ?_
    rintro e w3 ⟨b3, xn, cxn, yn, cyn, zn, czn, rfl, mst⟩
    have j3 := box_on j2 b3
    have s3 := b3.size
    have g3 := Below.comp g2 b3
    obtain ⟨d0, d1, d2, d3⟩ := box4_cells j3
    obtain ⟨p0, p1, p2, p3⟩ := box4_free j3
    have J3 : Hid (w3.heap[D + 1]? = some (.cells #[.slice none 0 0, .slice none 0 0, .slice none 0 0, .int .i64 0] 34 (0, 0))) := j3
    have G3 : Hid (Below w.heap.size w w3) := g3
    have M3 : Hid (MineSt w3 w1.heap.size w3.heap.size xn yn zn LA.length PA.length GA.length (gt LA) (Tl PA) (Ul PA) (gt GA)) := mst
    clear mst j3 g3 j2 g2 b2 b3 cB cO
    go_wp2
    have hset := box4_set J3.out (x0 := .slice xn LA.length cxn) (x1 := .slice yn PA.length cyn) (x2 := .slice zn GA.length czn) (x3 := .int .i64 qa)
    have hout := set4_out w3 (D + 1) (.slice xn LA.length cxn) (.slice yn PA.length cyn) (.slice zn GA.length czn) (.int .i64 qa)
    obtain ⟨u0, u1, u2, u3⟩ := box4_cells hset
    have s5 := hout.size
    exact bodyPost_ret (v := .tuple #[stv xn LA.length cxn yn PA.length cyn zn GA.length czn qa, .bool V]) (by simp [results, Tryd.results26, go_sem, u0, u1, u2, u3]) rfl ⟨G3.out.trans ((Out.below hout (by omega)).mono (by rw [HD.out]; omega)), xn, cxn, yn, cyn, zn, czn, rfl, MineSt.mono (MineSt.out M3.out hout (.inr (by omega))) (by rw [HD.out]; omega) (by omega)⟩
end Go.Proofs.YtmijalmihfgolaaDoor
