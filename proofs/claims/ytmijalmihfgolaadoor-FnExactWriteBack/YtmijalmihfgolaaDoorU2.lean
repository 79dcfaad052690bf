import Derived.Test.YtmijalmihfgolaaDoorU1
/- Whether a store is good: the specification's side. -/
namespace Go.Proofs.YtmijalmihfgolaaDoor
open Go.ChangeShapes Go.WideShapes Go.ChangeAt Go.RowKit
set_option linter.unusedVariables false
open Tx

attribute [local go_sem] Oper.semAt_some

def gdD (L : List ByteArray) (P : List Wr) : Bool := goodB L.length P.length (gt L) (Tl P) (Ul P)
def gdS (L : List ByteArray) (P : List Wr) (G : List ByteArray) (q : Int) : Bool :=
  gdD L P && (decide (G.length ≤ 40) && (inB q 0 G.length && (G.all (okG L.length) && P.all fun x => memW x (wrs (G.take q.toNat)))))
/-- A store that can be read. -/
structure StAt (w : World) (x y z : Option Addr) (L : List ByteArray) (P : List Wr) (G : List ByteArray) : Prop where
  x : RowT w x L
  y : RowW w y P
  z : RowT w z G
theorem StAt.below {w w' : World} {x y z : Option Addr} {L : List ByteArray} {P : List Wr} {G : List ByteArray} (h : StAt w x y z L P G) (hb : Below w.heap.size w w') : StAt w' x y z L P G := ⟨h.x.below hb, h.y.below hb, h.z.below hb⟩
/-- What is known of a store that comes in: lengths, room. -/
structure SOk (L : List ByteArray) (P : List Wr) (G : List ByteArray) (cz : Nat) (q : Int) : Prop where
  l : L.length ≤ 1048576
  p : P.length ≤ 1048576
  g : G.length ≤ 1048576
  c : G.length ≤ cz
  fl : FewT L
  fp : Few P
  fg : FewT G
  q : -9223372036854775808 ≤ q ∧ q ≤ 9223372036854775807
theorem sizeStr (w : World) : (Go.sizeOf 9).run Tryd.prog w = .ok 1 w := Tryd.sizeOf9 w
theorem sliceT_to (x : Option Addr) (n c k : Nat) (h : k ≤ c) (w : World) : (Instr.slice 22 (.slice x n c) none (some (.int .i64 (k : Int))) none).run Tryd.prog w = .ok (.slice (subA 1 x 0 c) k c) w := by
  rw [run_slice_h w 22 x n c (by kernel_rfl) .i64 k (by omega) (by omega), show Tryd.prog.elem 22 = 9 from by kernel_rfl, sizeStr]
  simp [Result.andThen, sliced, subA]
theorem sliceT_from (x : Option Addr) (n c k : Nat) (h : k ≤ n) (w : World) : (Instr.slice 22 (.slice x n c) (some (.int .i64 (k : Int))) none none).run Tryd.prog w = .ok (.slice (subA 1 x k c) (n - k) (c - k)) w := by
  rw [run_slice_l w 22 x n c (by kernel_rfl) .i64 k (by omega) (by omega), show Tryd.prog.elem 22 = 9 from by kernel_rfl, sizeStr]
  simp [Result.andThen, sliced, subA]
theorem RowT.take {w : World} {a : Option Addr} {L : List ByteArray} (h : RowT w a L) (z c k : Nat) (hk : k ≤ L.length) : RowT w (subA z a 0 c) (L.take k) := by
  have h1 := At.take h z c k hk
  have e : (L.take k).length = k := by simp; omega
  intro hn
  rw [e] at hn
  obtain ⟨b, off, ea, hc⟩ := h1 hn
  refine ⟨b, off, ea, fun i hi => ?_⟩
  rw [e] at hi
  show w.cell? _ = some (.string (gt (L.take k) i))
  rw [gt_take hi]
  exact hc i hi
theorem RowT.drop {w : World} {a : Option Addr} {L : List ByteArray} (h : RowT w a L) (c k : Nat) (hc : L.length ≤ c) : RowT w (subA 1 a k c) (L.drop k) := by
  have h1 := At.drop h c k hc
  have e : (L.drop k).length = L.length - k := by simp
  intro hn
  rw [e] at hn
  obtain ⟨b, off, ea, hc⟩ := h1 hn
  refine ⟨b, off, ea, fun i hi => ?_⟩
  rw [e] at hi
  show w.cell? _ = some (.string (gt (L.drop k) i))
  rw [gt_drop]
  exact hc i hi
theorem FewT.take {L : List ByteArray} (h : FewT L) (k : Nat) : FewT (L.take k) := fun i hi => by
  rw [List.length_take] at hi
  rw [gt_take (by omega)]
  exact h i (by omega)
theorem all_take {n : Nat} {G : List ByteArray} (h : G.all (okG n) = true) (k : Nat) : (G.take k).all (okG n) = true := by
  rw [List.all_eq_true] at h ⊢
  exact fun g hg => h g (List.mem_of_mem_take hg)
theorem pend_no {P : List Wr} {ws : List Wr} {k : Nat} (hk : k < P.length) (h : memW (gw P k) ws = false) : (P.all fun x => memW x ws) = false := by
  cases q : (P.all fun x => memW x ws) with
  | false => rfl
  | true =>
    have := List.all_eq_true.1 q (gw P k) (by rw [gw_lt hk]; exact List.getElem_mem _)
    rw [h] at this
    cases this
theorem pend_yes {P : List Wr} {ws : List Wr} (h : ∀ i, i < P.length → memW (gw P i) ws = true) : (P.all fun x => memW x ws) = true := by
  rw [List.all_eq_true]
  intro g hg
  obtain ⟨i, hi, rfl⟩ := List.mem_iff_getElem.1 hg
  rw [← gw_lt hi]
  exact h i hi

theorem tl_iff (a b : ByteArray) : a.toList = b.toList ↔ a = b := by
  constructor
  · intro h
    rw [Go.ByteArray.toList_eq, Go.ByteArray.toList_eq] at h
    exact ByteArray.ext (Array.ext' h)
  · intro h; rw [h]
abbrev wv (x : Wr) : Value := .agg #[.int .i64 x.s, .string x.d]
theorem eqlW (x y : Wr) (w : World) : (binOp .eql 63 (wv x) (wv y)).run Tryd.prog w = .ok (.bool (eqW x y)) w := by
  have u3 := Tryd.underlying3
  have a3 := Tryd.isAgg3
  have z3 := Tryd.sizeOf3
  have u9 := Tryd.underlying9
  have a9 := Tryd.isAgg9
  have z9 := Tryd.sizeOf9
  have hS : Tryd.prog.underlying 63 = some (.struct (Tryd.prog.fieldsOf 63)) := by kernel_rfl
  have hp : Tryd.prog.stoodInHeld 63 = false := by kernel_rfl
  obtain ⟨c, d⟩ := x
  obtain ⟨c', d'⟩ := y
  rw [run_eql_struct, show (10000 : Nat) = 9999 + 1 from rfl, run_equalIn_agg w 9999 63 _ _ hS hp]
  simp only [Program.fieldsOf, Tryd.underlying63]
  go_simp
  simp only [tl_iff]
  cases hs : sameT d d' with
  | false =>
    have hd : ¬ d = d' := fun h => by rw [sameT_iff.2 h] at hs; cases hs
    by_cases h1 : c = c' <;> simp [eqW, hs, h1, hd]
  | true =>
    have hd : d = d' := sameT_iff.1 hs
    subst hd
    by_cases h1 : c = c' <;> simp [eqW, hs, h1]
theorem guardW (op : BinOp) (x y : Operand) (xs ys : Array Value) (w : World) : (eqGuard op 63 x y (.agg xs) (.agg ys)).run Tryd.prog w = .ok () w := run_eqGuard_agg w op _ x y xs ys (by kernel_rfl)

set_option maxRecDepth 20000 in
set_option maxHeartbeats 8000000 in
theorem specGoodS_any (x y z : Option Addr) (cx cy cz : Nat) (L : List ByteArray) (P : List Wr) (G : List ByteArray) (q : Int) (w : World) (ok : SOk L P G cz q) (ha : StAt w x y z L P G) :
    Calls Tryd.prog 12 #[stv x L.length cx y P.length cy z G.length cz q] w fun e w' => e = .returned (.bool (gdS L P G q)) ∧ Below w.heap.size w w' := by
  have HGD : Hid (gdS L P G q = (gdD L P && (decide (G.length ≤ 40) && (inB q 0 G.length && (G.all (okG L.length) && P.all fun x => memW x (wrs (G.take q.toNat))))))) := rfl
  obtain ⟨W0, hW0⟩ : ∃ W0, w.alloc (.cells #[.slice x L.length cx, .slice y P.length cy, .slice z G.length cz, .int .i64 q] 34) = W0 := ⟨_, rfl⟩
  have q0 : Below w.heap.size w W0 := by subst hW0; exact below_alloc _ _
  have HA : Hid (W0.heap[w.heap.size]? = some (.cells #[.slice x L.length cx, .slice y P.length cy, .slice z G.length cz, .int .i64 q] 34 (0, 0))) := by subst hW0; exact al1 _ _
  have cG := specGood_any x y L.length P.length cx cy (gt L) (Tl P) (Ul P) W0 ok.l ok.p (ha.x.below q0) (ha.y.below q0) ok.fl ok.fp
  have e0 : goodB L.length P.length (gt L) (Tl P) (Ul P) = gdD L P := rfl
  rw [e0] at cG
  clear e0
  generalize gdS L P G q = R at HGD ⊢
  have hG40 : ∀ n : Nat, n = G.length → True := fun _ _ => trivial
  clear hG40
  obtain ⟨x0, x1, x2, x3⟩ := box4_cells HA.out
  obtain ⟨hl1, hp1, hg1, hc1, hfl, hfp, hfg, hq1, hq2⟩ := ok
  cases hD : gdD L P with
  | false =>
    rw [hD] at cG HGD
    have e : R = false := HGD.out
    subst e
    go_enter Tryd.func12, Tryd.ntmps12
    go_wp2_with (go_at_call 44; refine cG.mono ?_; rintro e w1 ⟨rfl, b1⟩)
    go_ret
    exact ⟨rfl, Below.comp q0 b1⟩
  | true =>
    rw [hD, Bool.true_and] at HGD
    rw [hD] at cG
    by_cases h40 : G.length ≤ 40
    · have d40 : decide ((40 : Int) < (G.length : Int)) = false := by simp; omega
      rw [decide_eq_true h40, Bool.true_and] at HGD
      cases hI : inB q 0 G.length with
      | false =>
        rw [hI] at HGD
        have e : R = false := HGD.out
        subst e
        go_enter Tryd.func12, Tryd.ntmps12
        go_wp2_with fail
        refine cG.mono ?_
        rintro e w1 ⟨rfl, b1⟩
        obtain ⟨y0, y1, y2, y3⟩ := box4_cells (box_on HA.out b1)
        clear x0 x1 x2 x3
        go_wp2_with (go_at_call 45; refine (l1In_any _ _ _ _).mono ?_; rintro e w2 ⟨rfl, h2⟩; replace h2 := h2.symm; subst h2)
        go_ret
        exact ⟨rfl, Below.comp q0 b1⟩
      | true =>
        rw [hI, Bool.true_and] at HGD
        have hqr := of_decide_eq_true hI
        obtain ⟨k, hk⟩ : ∃ k : Nat, q = k := ⟨q.toNat, by omega⟩
        subst hk
        have hkG : k ≤ G.length := by omega
        rw [Int.toNat_natCast] at HGD
        have cW : Hid (∀ w1, Below w.heap.size w w1 → Calls Tryd.prog 46 #[.slice z G.length cz, .int .i64 (L.length : Nat)] w1 fun e w' => WrRes w1 w' e L.length G) := fun w1 hb => l11Writes_any z cz G L.length w1 (by omega) (by omega) hfg (ha.z.below hb)
        cases hA : G.all (okG L.length) with
        | false =>
          rw [hA] at HGD
          have e : R = false := HGD.out
          subst e
          unfold WrRes at cW
          rw [hA] at cW
          go_enter Tryd.func12, Tryd.ntmps12
          go_wp2_with fail
          refine cG.mono ?_
          rintro e w1 ⟨rfl, b1⟩
          obtain ⟨y0, y1, y2, y3⟩ := box4_cells (box_on HA.out b1)
          clear x0 x1 x2 x3
          go_wp2_with (first
            | (go_at_call 45; refine (l1In_any _ _ _ _).mono ?_; rintro e w2 ⟨rfl, h2⟩; replace h2 := h2.symm; subst h2)
            | (go_at_call 46; refine (cW.out _ (Below.comp q0 b1)).mono ?_; rintro e w3 ⟨b3, v3, rfl, o3⟩))
          go_ret
          exact ⟨rfl, Below.comp (Below.comp q0 b1) b3⟩
        | true =>
          rw [hA, Bool.true_and] at HGD
          have hlk : (G.take k).length = k := by simp; omega
          have cW2 : Hid (∀ w1, Below w.heap.size w w1 → Calls Tryd.prog 46 #[.slice (subA 1 z 0 cz) k cz, .int .i64 (L.length : Nat)] w1 fun e w' => WrRes w1 w' e L.length (G.take k)) := fun w1 hb => by
            have := l11Writes_any (subA 1 z 0 cz) cz (G.take k) L.length w1 (by omega) (by omega) (hfg.take k) (RowT.take (At.below ha.z hb) 1 cz k hkG)
            rwa [hlk] at this
          have hws : (wrs (G.take k)).length ≤ 8 * k := wrs_le (n := L.length) k hkG (fun i hi => by have := List.all_eq_true.1 hA (gt G i) (by rw [gt_lt (by omega)]; exact List.getElem_mem _); exact this)
          unfold WrRes at cW cW2
          rw [hA] at cW
          rw [all_take hA k] at cW2
          simp only [cond_true] at cW cW2
          have hsl := sliceT_to z G.length cz k (by omega)
          generalize wrs (G.take k) = ws at *
          clear hlk hA
          go_enter Tryd.func12, Tryd.ntmps12
          go_wp2_with fail
          refine cG.mono ?_
          rintro e w1 ⟨rfl, b1⟩
          obtain ⟨y0, y1, y2, y3⟩ := box4_cells (box_on HA.out b1)
          clear x0 x1 x2 x3
          go_wp2_with (first
            | (go_at_call 45; refine (l1In_any _ _ _ _).mono ?_; rintro e w2 ⟨rfl, h2⟩; replace h2 := h2.symm; subst h2)
            | (go_at_call 46; refine (cW.out _ (Below.comp q0 b1)).mono ?_; rintro e w3 ⟨b3, v3, rfl, o3⟩; have g3 := Below.comp (Below.comp q0 b1) b3; have hbx3 : Hid _ := box_on (box_on HA.out b1) b3; obtain ⟨z0, z1, z2, z3⟩ := box4_cells hbx3.out; clear y0 y1 y2 y3 o3))
          go_region_held3 (fun W => W.cell? ⟨w.heap.size, 0, none⟩ = some (.slice x L.length cx) ∧ W.cell? ⟨w.heap.size, 2, none⟩ = some (.slice z G.length cz) ∧ W.cell? ⟨w.heap.size, 3, none⟩ = some (.int .i64 (k : Int)))
            ((first | exact ⟨z0, z2, z3⟩ | exact ⟨n0, n2, n3⟩))
            (first
            | (go_at_call 46; refine (cW2.out _ (Below.drew g3)).mono ?_; rintro e w4 ⟨b4, v4, rfl, o4⟩; have hbx4 : Hid _ := box_on (show w3.drew.heap[w.heap.size]? = some (.cells #[.slice x L.length cx, .slice y P.length cy, .slice z G.length cz, .int .i64 (k : Int)] 34 (0, 0)) from hbx3.out) b4; obtain ⟨n0, n1, n2, n3⟩ := box4_cells hbx4.out; have g4 := Below.comp (Below.drew g3) b4; obtain ⟨vx, vc, hv4, hvc, mv⟩ := OwnW.form o4; subst hv4; have MV : Hid _ := mv; clear mv o4))
          have HG4 : Hid _ := g4
          have HY : Hid _ := At2.below ha.y g4
          have hsz4 : w.heap.size < w4.heap.size := box_lt hbx4.out
          have HP : Hid (∀ i, i < P.length → (gw P i).d.size ≤ 9223372036854775807) := hfp
          clear z0 z1 z2 z3 g3 g4 hbx4 b1 b3 b4 cW cW2 cG q0 hW0 HA ha hfl hfp hfg hsl
          go_wp2
          go_loopw [60] (fun i wr => ∃ (j : Nat), j ≤ P.length ∧ i = .int .i64 j ∧ Hid (∀ i, i < j → memW (gw P i) ws = true) ∧ Hid (Below w4.heap.size w4 wr)) (fun i _ => P.length - (intOf i).toNat)
          case atStart => exact ⟨0, Nat.zero_le _, rfl, fun i hi => absurd hi (by omega), Below.refl _ _⟩
          case round =>
            obtain ⟨j, hj, rfl, hall, hb⟩ := hrel
            by_cases hlt : j < P.length
            · obtain ⟨b, off, hy, hcell⟩ := (At2.below HY.out hb.out) (by omega)
              subst hy
              obtain ⟨hck, hck2⟩ := hcell j hlt
              have hlt' : (j : Int) < (P.length : Int) := by omega
              have HR : Hid _ := At2.below (Mine.wrts MV.out) hb.out
              clear hcell
              have hes : gw P j = ⟨Tl P j, Ul P j⟩ := rfl
              obtain ⟨t, ht⟩ : ∃ t, Tl P j = t := ⟨_, rfl⟩
              obtain ⟨u, hu⟩ : ∃ u, Ul P j = u := ⟨_, rfl⟩
              rw [ht] at hck hes
              rw [hu] at hck2 hes
              have HE : Hid (gw P j = ⟨t, u⟩) := hes
              clear hes ht hu
              go_wp2
              go_loopw [9, 66] (fun f i wr2 => ∃ (m : Nat) (fd : Bool), m ≤ ws.length ∧ i = .int .i64 m ∧ f = .bool fd ∧ Hid (fd = memW ⟨t, u⟩ (ws.take m)) ∧ Hid (Below wr.heap.size wr wr2) ∧ Hid (wr2.heap[wr.heap.size]? = some (.cells #[.int .i64 t, .string u] 63 (0, 0)))) (fun _ i _ => ws.length - (intOf i).toNat)
              case atStart => exact ⟨0, false, Nat.zero_le _, rfl, rfl, rfl, below_alloc _ _, al1 _ _⟩
              case round =>
                obtain ⟨m, fd, hm, rfl, rfl, hfd, hb2, hbx⟩ := hrel
                obtain ⟨y1, y2, _⟩ := box2_cells hbx.out
                by_cases hlm : m < ws.length
                · obtain ⟨b', off', hvx, hcell'⟩ := (At2.below HR.out hb2.out) (by omega)
                  subst hvx
                  obtain ⟨hcm, hcm2⟩ := hcell' m hlm
                  have hlm' : (m : Int) < (ws.length : Int) := by omega
                  have hsn : memW ⟨t, u⟩ (ws.take (m + 1)) = (memW ⟨t, u⟩ (ws.take m) || eqW ⟨Tl ws m, Ul ws m⟩ ⟨t, u⟩) := by
                    rw [take_snoc hlm, memW_snoc]
                    rfl
                  rw [← hfd.out] at hsn
                  obtain ⟨t2, ht2⟩ : ∃ t, Tl ws m = t := ⟨_, rfl⟩
                  obtain ⟨u2, hu2⟩ : ∃ u, Ul ws m = u := ⟨_, rfl⟩
                  rw [ht2] at hcm hsn
                  rw [hu2] at hcm2 hsn
                  have hq := eqlW ⟨t2, u2⟩ ⟨t, u⟩
                  have hgq := guardW
                  have HSn : Hid _ := hsn
                  have hbx2 : Hid _ := box_on hbx.out (below_alloc wr (.cells #[.int .i64 t2, .string u2] 63))
                  obtain ⟨y1, y2, _⟩ := box2_cells hbx2.out
                  clear hsn hcell' ht2 hu2
                  cases fd with
                  | true =>
                    go_wp2
                    go_roundw
                    case rel => exact ⟨m + 1, true, by omega, by go_num, rfl, by rw [HSn.out]; exact rfl, Below.comp hb2.out (below_alloc _ _), hbx2.out⟩
                    case measure => simp [intOf]; omega
                  | false =>
                    generalize eqW ⟨t2, u2⟩ ⟨t, u⟩ = EQ at *
                    go_wp2
                    go_roundw
                    case rel => exact ⟨m + 1, EQ, by omega, by go_num, rfl, by rw [HSn.out]; exact rfl, Below.comp hb2.out (below_alloc _ _), hbx2.out⟩
                    case measure => simp [intOf]; omega
                · obtain rfl : m = ws.length := by omega
                  have hfd2 : Hid (fd = memW (gw P j) ws) := by rw [HE.out, hfd.out, List.take_length]; exact rfl
                  clear hfd
                  have hbb := Below.comp hb.out hb2.out
                  cases fd with
                  | false =>
                    have e := HGD.out
                    rw [pend_no hlt hfd2.out.symm] at e
                    subst e
                    go_wp2
                    go_ret
                    exact ⟨rfl, Below.comp HG4.out hbb⟩
                  | true =>
                    go_wp2
                    go_roundw
                    case rel =>
                      refine ⟨j + 1, by omega, by go_num, ?_, hbb⟩
                      intro i hi
                      by_cases e : i = j
                      · subst e; exact hfd2.out.symm
                      · exact hall.out i (by omega)
                    case measure => simp [intOf]; omega
            · obtain rfl : j = P.length := by omega
              have e := HGD.out
              rw [pend_yes hall.out] at e
              subst e
              go_wp2
              go_ret
              exact ⟨rfl, Below.comp HG4.out hb.out⟩
    · have d40 : decide ((40 : Int) < (G.length : Int)) = true := by simp; omega
      rw [decide_eq_false h40] at HGD
      have e : R = false := HGD.out
      subst e
      go_enter Tryd.func12, Tryd.ntmps12
      go_wp2_with fail
      refine cG.mono ?_
      rintro e w1 ⟨rfl, b1⟩
      obtain ⟨y0, y1, y2, y3⟩ := box4_cells (box_on HA.out b1)
      clear x0 x1 x2 x3
      go_wp2
      go_ret
      exact ⟨rfl, Below.comp q0 b1⟩
end Go.Proofs.YtmijalmihfgolaaDoor
