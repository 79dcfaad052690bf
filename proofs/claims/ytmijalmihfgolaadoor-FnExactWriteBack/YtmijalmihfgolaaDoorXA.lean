import Derived.Test.YtmijalmihfgolaaDoorX9
import Derived.Test.YtmijalmihfgolaaDoorX5
/- WriteBack: the program. -/
namespace Go.Proofs.YtmijalmihfgolaaDoor
open Go.ChangeShapes Go.WideShapes Go.ChangeAt Go.RowKit
set_option linter.unusedVariables false
open Tx

attribute [local go_sem] Oper.semAt_some

theorem Sn.out {w w' : World} {a : Addr} {o : Nat} (h : Sn w a) (ho : Out o (o + 1) w w') (h0 : o ≠ 0) : Sn w' a := by
  have hl : 0 < w.heap.size := lt_of_cell h
  have e := ho.block 0 hl (.inl (by omega))
  unfold Sn at h ⊢
  rw [← h]
  simp only [World.cell?, e]
theorem Sn.ne {w : World} {a : Addr} {o : Nat} {X Y V : Value} {q : Int} {x : Option Addr} {n c : Nat} (h : Sn w a) (hX : X = .slice x n c) (hO : OB w o X Y V q) : o ≠ 0 := by
  rintro rfl
  subst hX
  have := (box4_cells hO).1
  unfold Sn at h
  rw [h] at this
  cases this
/-- The writes are done one by one, as many as there is room for. -/
theorem gdD_more {L : List ByteArray} {P Q : List Wr} (h : gdD L P = true) (hf : ∀ i, i < Q.length → fitB L.length (Tl Q i) (Ul Q i) = true) (hl : P.length + Q.length ≤ 60) : gdD L (P ++ Q) = true := by
  obtain ⟨g1, g2, g3, g4, g5⟩ := gdD_parts h
  refine decide_eq_true ⟨g1, g2, by rw [List.length_append]; exact hl, g4, fun i hi => ?_⟩
  rw [List.length_append] at hi
  by_cases e : i < P.length
  · have := g5 i e
    unfold Tl Ul at this ⊢
    rw [gw_app e]
    exact this
  · have := hf (i - P.length) (by omega)
    unfold Tl Ul at this ⊢
    rw [show gw (P ++ Q) i = gw Q (i - P.length) by simp [gw, List.getElem?_append_right (Nat.le_of_not_lt e)]]
    exact this
theorem take_fits {n : Nat} {Q : List Wr} {k : Nat} (hf : ∀ i, i < Q.length → fitB n (Tl Q i) (Ul Q i) = true) : ∀ i, i < (Q.take k).length → fitB n (Tl (Q.take k) i) (Ul (Q.take k) i) = true := fun i hi => by
  rw [List.length_take] at hi
  unfold Tl Ul
  rw [gw_take (by omega)]
  exact hf i (by omega)
theorem take_gw {Q : List Wr} {k : Nat} (h : k < Q.length) : Q.take (k + 1) = Q.take k ++ [gw Q k] := by
  rw [gw_lt h, List.take_succ_eq_append_getElem h]

set_option maxRecDepth 20000 in
set_option maxHeartbeats 4000000 in
theorem backDo (a : Addr) (L : List ByteArray) (P : List Wr) (G : List ByteArray) (q : Int) (hg : gdS L P G q = true) (W : World) (B o : Nat) (x y : Option Addr) (cx cy : Nat) (v : Value) (hS : Sn W a) (ho : B ≤ o) (hO : OB W o (.slice x L.length cx) (.slice y P.length cy) v q) (mx : MineT W B W.heap.size x L) (my : MineW W B W.heap.size y P) (hl : LogR W B B v (G.map rdL)) :
    Calls Tryd.prog 66 #[.pointer (some ⟨o, 0, none⟩)] W fun e w' => DoR W w' e a B o (decide (P.length + (wrs (G.take q.toNat)).length ≤ 60)) L (P ++ wrs (G.take q.toNat)) (G.map rdL) q := by
  have hlt := box_lt hO
  obtain ⟨hD, h40, hq0, hq1, hall, _⟩ := gd_parts hg
  obtain ⟨k, hk⟩ : ∃ k : Nat, q = k := ⟨q.toNat, by omega⟩
  subst hk
  have hkG : k ≤ G.length := by omega
  rw [Int.toNat_natCast]
  have hsh := map_short hg
  have cS : Calls Tryd.prog 67 #[.pointer (some ⟨o, 0, none⟩)] W fun e w' => Below W.heap.size W w' ∧ ∃ v, e = .returned v ∧ OwnW w' W.heap.size v (wrs (G.take k)) := by
    have := synced_any o _ _ v k (G.map rdL) W (by rw [List.length_map]; exact hkG) hsh hO (LogR.at hl)
    rwa [flt_map] at this
  have hwf : Hid (∀ i, i < (wrs (G.take k)).length → fitB L.length (Tl (wrs (G.take k)) i) (Ul (wrs (G.take k)) i) = true) := wrs_fits (all_take hall k)
  have hws : (wrs (G.take k)).length ≤ 8 * k := wrs_le (n := L.length) k hkG (fun i hi => List.all_eq_true.1 hall _ (by rw [gt_lt (by omega)]; exact List.getElem_mem _))
  generalize wrs (G.take k) = ws at *
  have hz := Sn.ne hS rfl hO
  have HS : Hid (Sn W a) := hS
  have HO : Hid (OB W o (.slice x L.length cx) (.slice y P.length cy) v k) := hO
  have HX : Hid (MineT W B W.heap.size x L) := mx
  have HY : Hid (MineW W B W.heap.size y P) := my
  have HL : Hid (LogR W B B v (G.map rdL)) := hl
  have HG : Hid (gdD L P = true) := hD
  have hP60 : P.length ≤ 60 := (gdD_parts hD).2.2.1
  obtain ⟨R, hR⟩ : ∃ R, decide (P.length + ws.length ≤ 60) = R := ⟨_, rfl⟩
  rw [hR]
  have HR : Hid (decide (P.length + ws.length ≤ 60) = R) := hR
  clear hR hS hO mx my hl hD hsh hall hg
  go_enter Tryd.func66, Tryd.ntmps66
  go_wp2_with fail
  refine cS.mono ?_
  rintro e w1 ⟨b1, v1, rfl, o1⟩
  obtain ⟨vx, vc, hv1, hvc, mv⟩ := OwnW.form o1
  subst hv1
  have s1 := b1.size
  have HB1 : Hid (Below W.heap.size W w1) := b1
  have HV : Hid (MineW w1 W.heap.size w1.heap.size vx ws) := mv
  clear o1 mv cS b1
  go_wp2
  go_loopw [7] (fun i wr => ∃ (m : Nat) (xk : Option Addr) (ck : Nat) (yk : Option Addr) (dk : Nat), m ≤ ws.length ∧ P.length + m ≤ 60 ∧ i = .int .i64 m ∧ Hid (OB wr o (.slice xk L.length ck) (.slice yk (P ++ ws.take m).length dk) v k) ∧ Hid (MineT wr B wr.heap.size xk L) ∧ Hid (MineW wr B wr.heap.size yk (P ++ ws.take m)) ∧ Hid (Out o (o + 1) w1 wr)) (fun i _ => ws.length - (intOf i).toNat)
  case atStart =>
    refine ⟨0, x, cx, y, cy, Nat.zero_le _, by omega, rfl, ?_, Mine.mono (Mine.below HX.out HB1.out) (Nat.le_refl _) s1, ?_, Out.refl _ _ _⟩
    · rw [List.take_zero, List.append_nil]
      exact box_on HO.out HB1.out
    · rw [List.take_zero, List.append_nil]
      exact Mine.mono (Mine.below HY.out HB1.out) (Nat.le_refl _) s1
  case round =>
    obtain ⟨m, xk, ck, yk, dk, hm, hm60, rfl, hOk, hXk, hYk, hok⟩ := hrel
    have hbw : Hid (Below B W wr) := (Below.mono HB1.out (by omega)).trans ((Out.below hok.out (by omega)).mono ho)
    have hsr := hok.out.size
    by_cases hlm : m < ws.length
    · have hrow : MineW wr W.heap.size w1.heap.size vx ws := Mine.out HV.out hok.out (.inr (by omega))
      obtain ⟨by', oy', hy', hcell⟩ := (Mine.wrts hrow) (by omega)
      subst hy'
      obtain ⟨hck, hck2⟩ := hcell m hlm
      have hlt' : (m : Int) < (ws.length : Int) := by omega
      have HT : Hid (ws.take (m + 1) = ws.take m ++ [⟨Tl ws m, Ul ws m⟩]) := take_gw hlm
      have HF : Hid (fitB L.length (Tl ws m) (Ul ws m) = true) := hwf.out m hlm
      have HGm : Hid (gdD L (P ++ ws.take m) = true) := gdD_more HG.out (take_fits hwf.out) (by rw [List.length_take]; omega)
      have HLn : Hid ((P ++ ws.take m).length = P.length + m) := by rw [Hid, List.length_append, List.length_take]; omega
      clear hcell hrow
      generalize Tl ws m = t at *
      generalize Ul ws m = u at *
      generalize hQ : P ++ ws.take m = Q at *
      obtain ⟨W7, hW7⟩ : ∃ W7, wr.alloc (.cells #[.int .i64 t, .string u] 63) = W7 := ⟨_, rfl⟩
      have b7 : Below wr.heap.size wr W7 := by subst hW7; exact below_alloc _ _
      have hx7 : Hid (W7.heap[wr.heap.size]? = some (.cells #[.int .i64 t, .string u] 63 (0, 0))) := by subst hW7; exact al1 _ _
      have hs7 : W7.heap.size = wr.heap.size + 1 := by subst hW7; exact sz1 _ _
      obtain ⟨y1, y2, _⟩ := box2_cells hx7.out
      have hO7 : Hid (OB W7.drew o (.slice xk L.length ck) (.slice yk Q.length dk) v k) := box_on hOk.out (Below.drew b7)
      have HB7 : Hid (Below wr.heap.size wr W7.drew) := Below.drew b7
      have hlo : o < wr.heap.size := box_lt hOk.out
      have HSr : Hid (Sn W7.drew a) := Sn.on (Sn.out (Sn.on HS.out HB1.out) hok.out hz) (Below.drew b7)
      have HX7 : Hid (MineT W7.drew B wr.heap.size xk L) := Mine.below hXk.out (Below.drew b7)
      have HY7 : Hid (MineW W7.drew B wr.heap.size yk Q) := Mine.below hYk.out (Below.drew b7)
      have HQ : Hid (P ++ ws.take m = Q) := hQ
      clear hQ b7 hs7
      by_cases h60 : P.length + m = 60
      · have e : R = false := by rw [← HR.out]; exact decide_eq_false (by omega)
        subst e
        have cN := write_no o xk yk ck dk L Q ⟨t, u⟩ v k W7.drew HGm.out HF.out (by rw [HLn.out]; exact h60) a HSr.out hO7.out (Mine.strs HX7.out) (Mine.wrts HY7.out)
        go_wp2
        refine wp_region_may [{ v := .iface 117 (.pointer (some a)), recovered := false }] (fun W' => Below B W W') (fun a' W' hd hW => ⟨hd, hW, fun h => (by cases h), fun _ => rfl⟩) ?_
        refine wp_region_L (fun W => W.cell? ⟨wr.heap.size, 0, none⟩ = some (.int .i64 t) ∧ W.cell? ⟨wr.heap.size, 1, none⟩ = some (.string u)) 5 5 (by kernel_rfl) rfl ⟨y1, y2⟩ (fun hS0 => ?_)
        refine tkL (i := 0) (d := 11) (v := ?_) rfl rfl (by kernel_rfl) (by kernel_rfl) (by kernel_rfl) (by kernel_rfl) (fun _ _ _ h => h) (Or.inl ⟨by rfl, by intro wq hSq; obtain ⟨hq1, hq2⟩ := hSq; go_simp; try with_reducible rfl⟩) (by assumption) ?_
        simp only [List.setIfInBounds_toArray, List.set_cons_zero, List.set_cons_succ]
        refine tkL (i := 1) (d := 12) (v := ?_) rfl rfl (by kernel_rfl) (by kernel_rfl) (by kernel_rfl) (by kernel_rfl) (fun _ _ _ h => h) (Or.inl ⟨by rfl, by intro wq hSq; obtain ⟨hq1, hq2⟩ := hSq; go_simp; try with_reducible rfl⟩) (by assumption) ?_
        simp only [List.setIfInBounds_toArray, List.set_cons_zero, List.set_cons_succ]
        refine tkL (i := 2) (d := 13) (v := ?_) rfl rfl (by kernel_rfl) (by kernel_rfl) (by kernel_rfl) (by kernel_rfl) (fun _ _ _ h => h) (Or.inl ⟨by rfl, by intro wq hSq; obtain ⟨hq1, hq2⟩ := hSq; go_simp; try with_reducible rfl⟩) (by assumption) ?_
        simp only [List.setIfInBounds_toArray, List.set_cons_zero, List.set_cons_succ]
        refine tkL (i := 3) (d := 14) (v := ?_) rfl rfl (by kernel_rfl) (by kernel_rfl) (by kernel_rfl) (by kernel_rfl) (fun _ _ _ h => h) (Or.inl ⟨by rfl, by intro wq hSq; obtain ⟨hq1, hq2⟩ := hSq; go_simp; try with_reducible rfl⟩) (by assumption) ?_
        simp only [List.setIfInBounds_toArray, List.set_cons_zero, List.set_cons_succ]
        refine oneL (i := 4) rfl (by kernel_rfl) (fun K hK => ?_)
        go_simp
        refine Calls.mono cN ?_
        rintro e w2 ⟨rfl, b2⟩
        exact ⟨rfl, rfl, (hbw.out.trans (HB7.out.mono (by omega))).trans (Below.mono b2 (by have := HB7.out.size; omega))⟩
      · have cY := write_yes o xk yk ck dk L Q ⟨t, u⟩ v k W7.drew HGm.out HF.out (by rw [HLn.out]; exact h60) hO7.out (Mine.strs HX7.out) (Mine.wrts HY7.out)
        have HCY : Hid _ := cY
        go_wp2
        go_region_held3 (fun W => W.cell? ⟨wr.heap.size, 0, none⟩ = some (.int .i64 t) ∧ W.cell? ⟨wr.heap.size, 1, none⟩ = some (.string u))
          ((first | exact ⟨y1, y2⟩ | exact ⟨n1, n2⟩))
          (first
          | (go_at_call 68; refine Calls.mono cY ?_; rintro e w2 ⟨rfl, o2, x2, c2, y2', d2, hO2, m2x, m2y⟩; obtain ⟨n1, n2, _⟩ := box2_cells (box_out (w := W7.drew) hx7.out o2 (by omega)); have HO2 : Hid (OB w2 o (.slice x2 L.length c2) (.slice y2' (Q ++ [(⟨t, u⟩ : Wr)]).length d2) v k) := hO2; have HX2 : Hid (MineT w2 W7.drew.heap.size w2.heap.size x2 L) := m2x; have HY2 : Hid (MineW w2 W7.drew.heap.size w2.heap.size y2' (Q ++ [(⟨t, u⟩ : Wr)])) := m2y; have HO : Hid (Out o (o + 1) W7.drew w2) := o2; clear hO2 m2x m2y o2))
        all_goals go_wp2
        all_goals go_roundw
        case rel =>
          have hB7 : B ≤ W7.drew.heap.size := by have := HB7.out.size; omega
          have eq2 : P ++ ws.take (m + 1) = Q ++ [(⟨t, u⟩ : Wr)] := by rw [HT.out, ← List.append_assoc, HQ.out]
          refine ⟨m + 1, x2, c2, y2', d2, by omega, by omega, by go_num, ?_, ?_, ?_, ?_⟩
          · rw [eq2]; exact HO2.out
          · exact Mine.mono HX2.out hB7 (Nat.le_refl _)
          · rw [eq2]; exact Mine.mono HY2.out hB7 (Nat.le_refl _)
          · exact (hok.out.then_below (HB7.out.mono hsr)).trans HO.out
        case measure => simp [intOf]; omega
    · obtain rfl : m = ws.length := by omega
      have e : R = true := by rw [← HR.out]; exact decide_eq_true hm60
      subst e
      have hnl : ¬ ((ws.length : Int) < (ws.length : Int)) := by omega
      go_wp2
      go_end0
      have hQ2 := hOk.out
      have hY2 := hYk.out
      rw [List.take_length] at hQ2 hY2
      refine ⟨hbw.out, fun _ => ⟨rfl, xk, ck, yk, dk, _, hQ2, hXk.out, hY2, ?_⟩, fun h => (by cases h)⟩
      exact LogR.at (LogR.out (LogR.below HL.out HB1.out) hok.out ho (box_on HO.out HB1.out) (by decide) (by decide))
end Go.Proofs.YtmijalmihfgolaaDoor
