import Derived.Test.YtmijalmihfgolaaDoorKG
/- The law of WriteBack, over two sides that tell the same store. -/
namespace Go.Proofs.YtmijalmihfgolaaDoor
open Go.ChangeShapes Go.WideShapes Go.ChangeAt Go.RowKit
set_option linter.unusedVariables false
open Tx

attribute [local go_sem] Oper.semAt_some

set_option maxRecDepth 20000 in
set_option maxHeartbeats 16000000 in
theorem lawBack_of (a a' az : Option Addr) (ca ca' cz : Nat) (L : List ByteArray) (P : List Wr) (G : List ByteArray) (q : Int) (w : World) (sa : Addr) (hi : SIn L P G q) (ha : StAt w a a' az L P G) (hS : Sn w sa)
    (ok : Bool) (LA : List ByteArray) (PA : List Wr) (GA : List ByteArray) (qa : Int) (hla : L.length ≤ 1048576 → P.length ≤ 1048576 → G.length ≤ 1048576 → LA.length ≤ 2000000 ∧ PA.length ≤ 2000000 ∧ GA.length ≤ 2000000)
    (KS : SOk L P G G.length q → ∀ x y z cx cy W, StAt W x y z L P G → Calls Tryd.prog 26 #[stv x L.length cx y P.length cy z G.length G.length q] W fun e w' => StR W w' e ok LA PA GA qa)
    (KI : SOk L P G G.length q → ∀ x y z cx cy W, StAt W x y z L P G → Sn W sa → Calls Tryd.prog 27 #[stv x L.length cx y P.length cy z G.length G.length q] W fun e w' => StR W w' e ok LA PA GA qa) :
    Calls Tryd.prog 6 #[stv a L.length ca a' P.length ca' az G.length cz q] w fun e w' => e = .returned (.bool true) ∧ Below w.heap.size w w' := by
  have h0 : ∀ o1, Below w.heap.size w (w.alloc o1) := fun o1 => below_alloc _ _
  have HS : Hid _ := hS
  have HSp : Hid _ := KS
  have HIm : Hid _ := KI
  clear KS KI
  obtain ⟨hl, hp, hg, hfl, hfp, hfg, hq⟩ := id hi
  go_enter Tryd.func6, Tryd.ntmps6
  go_wp2_with fail
  refine (szStore_any a a' az L.length P.length G.length ca ca' cz q (gt L) (Tl P) (Ul P) (gt G) _ _ (by omega) (by omega) hl (ha.below (h0 _)).x hfl hp (ha.below (h0 _)).y hfp hg (ha.below (h0 _)).z hfg).mono ?_
  rintro e w1 ⟨b1, r, rfl, hr0, hr⟩
  have g := Below.comp (h0 _) b1
  have y := box_on (al1 w _) b1
  clear b1 h0
  by_cases hneg : r < 0
  · go_wp2
    go_ret
    exact ⟨rfl, g⟩
  obtain ⟨hr1, hr2, hr3⟩ := hr (by omega)
  have hn' : L.length ≤ 1048576 := by omega
  have hm' : P.length ≤ 1048576 := by omega
  have hg' : G.length ≤ 1048576 := by omega
  obtain ⟨hA1, hA2, hA3⟩ := hla hn' hm' hg'
  have ks := HSp.out ⟨hn', hm', hg', Nat.le_refl _, hfl, hfp, hfg, hq⟩
  have ki := HIm.out ⟨hn', hm', hg', Nat.le_refl _, hfl, hfp, hfg, hq⟩
  have HKS : Hid _ := ks
  have HKI : Hid _ := ki
  have HT : Hid (∀ W, Below w.heap.size w W → Calls Tryd.prog 13 #[stv a L.length ca a' P.length ca' az G.length cz q] W fun e w' => Below W.heap.size W w' ∧ ∃ x cx y cy z, e = .returned (stv x L.length cx y P.length cy z G.length G.length q) ∧ MineSt w' W.heap.size w'.heap.size x y z L.length P.length G.length (gt L) (Tl P) (Ul P) (gt G)) := fun W hW => toStore_any a a' az L.length P.length G.length ca ca' cz q (gt L) (Tl P) (Ul P) (gt G) W hn' hm' hg' (ha.below hW).x (ha.below hW).y (ha.below hW).z
  have sw : w.heap.size + 1 ≤ w1.heap.size := box_lt y
  clear hr ks ki HSp HIm hl hp hg hfl hfp hfg hi hla
  obtain ⟨y0, y1, y2, y3⟩ := box4_cells y
  go_wp2_with fail
  refine (HT.out _ g).mono ?_
  rintro e w2 ⟨b2, x, cx, y', cy, z, rfl, mx⟩
  replace g := Below.comp g b2
  replace y := box_on y b2
  have s2 := b2.size
  clear b2 y0 y1 y2 y3
  go_wp2_with fail
  refine (HKS.out x y' z cx cy _ (MineSt.at mx)).mono ?_
  rintro e w3 ⟨b3, xw, cxw, yw, cyw, zw, czw, rfl, mw⟩
  replace g := Below.comp g b3
  replace y := box_on y b3
  have s3 := b3.size
  clear b3 mx
  obtain ⟨K1, hK1⟩ : ∃ K1, w3.alloc (.cells #[.slice xw LA.length cxw, .slice yw PA.length cyw, .slice zw GA.length czw, .int .i64 qa] 34) = K1 := ⟨_, rfl⟩
  have q3 : Below w3.heap.size w3 K1 := by subst hK1; exact below_alloc _ _
  have k : K1.heap[w3.heap.size]? = some (.cells #[.slice xw LA.length cxw, .slice yw PA.length cyw, .slice zw GA.length czw, .int .i64 qa] 34) := by subst hK1; exact al1 _ _
  have sk : w3.heap.size < K1.heap.size := box_lt k
  have mwk := mw.below q3
  have gk := Below.comp g q3
  have yk := box_on y q3
  obtain ⟨y0, y1, y2, y3⟩ := box4_cells yk
  go_wp2_with fail
  refine (HT.out _ gk).mono ?_
  rintro e w4 ⟨b4, x, cx, y', cy, z, rfl, mx0⟩
  replace k := box_on k b4
  have y := box_on yk b4
  have mw := mwk.below b4
  have g := Below.comp gk b4
  have s4 := b4.size
  have mx := mx0.mono (B' := w3.heap.size + 1) (C' := w4.heap.size) (by omega) (Nat.le_refl _)
  clear b4 y0 y1 y2 y3 hK1 q3 mwk gk yk mx0
  obtain ⟨K2, hK2⟩ : ∃ K2, w4.alloc (.cells #[.slice x L.length cx, .slice y' P.length cy, .slice z G.length G.length, .int .i64 q] 34) = K2 := ⟨_, rfl⟩
  have q4 : Below w4.heap.size w4 K2 := by subst hK2; exact below_alloc _ _
  have l : K2.heap[w4.heap.size]? = some (.cells #[.slice x L.length cx, .slice y' P.length cy, .slice z G.length G.length, .int .i64 q] 34) := by subst hK2; exact al1 _ _
  have sl : w4.heap.size < K2.heap.size := box_lt l
  have kk := box_on k q4
  have yk := box_on y q4
  have gk := Below.comp g q4
  have mwk := mw.below q4
  have mxk := mx.below q4
  obtain ⟨l0, l1, l2, l3⟩ := box4_cells l
  go_wp2_with fail
  refine (HKI.out x y' z cx cy _ (MineSt.at mxk) (Sn.on HS.out gk)).mono ?_
  rintro e w5 ⟨b5, xg, cxg, yg, cyg, zg, czg, rfl, mg0⟩
  replace l := box_on l b5
  have k := box_on kk b5
  have y := box_on yk b5
  have g := Below.comp gk b5
  have mw := mwk.below b5
  have mx := mxk.below b5
  have s5 := b5.size
  have mg := mg0.mono (B' := w4.heap.size + 1) (C' := w5.heap.size) (by omega) (Nat.le_refl _)
  clear b5 hK2 q4 kk yk gk mwk mxk mg0 l0 l1 l2 l3
  obtain ⟨K3, hK3⟩ : ∃ K3, w5.alloc (.cells #[.slice xg LA.length cxg, .slice yg PA.length cyg, .slice zg GA.length czg, .int .i64 qa] 34) = K3 := ⟨_, rfl⟩
  have q5 : Below w5.heap.size w5 K3 := by subst hK3; exact below_alloc _ _
  have j : K3.heap[w5.heap.size]? = some (.cells #[.slice xg LA.length cxg, .slice yg PA.length cyg, .slice zg GA.length czg, .int .i64 qa] 34) := by subst hK3; exact al1 _ _
  have sj : w5.heap.size < K3.heap.size := box_lt j
  have kk := box_on k q5
  have ll := box_on l q5
  have yk := box_on y q5
  have gk := Below.comp g q5
  have mwk := mw.below q5
  have mxk := mx.below q5
  have mgk := mg.below q5
  obtain ⟨j0, j1, j2, j3⟩ := box4_cells j
  obtain ⟨k0, k1, k2, k3⟩ := box4_cells kk
  go_wp2_with fail
  refine (eqStore_any xg yg zg xw yw zw LA.length PA.length GA.length cxg cyg czg cxw cyw czw qa (gt LA) (Tl PA) (Ul PA) (gt GA) _ (by omega) (by omega) (by omega) (MineSt.at mgk).x (MineSt.at mgk).y (MineSt.at mgk).z (MineSt.at mwk).x (MineSt.at mwk).y (MineSt.at mwk).z).mono ?_
  rintro e w6 ⟨rfl, b6⟩
  replace j := box_on j b6
  have k := box_on kk b6
  have l := box_on ll b6
  have y := box_on yk b6
  have g := Below.comp gk b6
  have mw := mwk.below b6
  have mx := mxk.below b6
  have mg := mgk.below b6
  have s6 := b6.size
  clear b6 hK3 q5 kk ll yk gk mwk mxk mgk j0 j1 j2 j3 k0 k1 k2 k3
  obtain ⟨y0, y1, y2, y3⟩ := box4_cells y
  obtain ⟨l0, l1, l2, l3⟩ := box4_cells l
  go_wp2
  go_region_held3 (fun W => (W.cell? ⟨w.heap.size, 0, none⟩ = some (.slice a L.length ca) ∧ W.cell? ⟨w.heap.size, 1, none⟩ = some (.slice a' P.length ca') ∧ W.cell? ⟨w.heap.size, 2, none⟩ = some (.slice az G.length cz) ∧ W.cell? ⟨w.heap.size, 3, none⟩ = some (.int .i64 q)) ∧ (W.cell? ⟨w4.heap.size, 0, none⟩ = some (.slice x L.length cx) ∧ W.cell? ⟨w4.heap.size, 1, none⟩ = some (.slice y' P.length cy) ∧ W.cell? ⟨w4.heap.size, 2, none⟩ = some (.slice z G.length G.length) ∧ W.cell? ⟨w4.heap.size, 3, none⟩ = some (.int .i64 q)))
    ((first | exact ⟨⟨y0, y1, y2, y3⟩, l0, l1, l2, l3⟩ | exact ⟨box4_cells hy7.out, box4_cells hl7.out⟩ | exact ⟨box4_cells hy8.out, box4_cells hl8.out⟩))
    (first
    | (go_at_call 13; refine (HT.out _ (Below.drew g)).mono ?_; rintro e w7 ⟨b7, x7, cx7, y7, cy7, z7, rfl, m7⟩; have hy7 : Hid _ := box_on (w := w6.drew) y b7; have hl7 : Hid _ := box_on (w := w6.drew) l b7; have mx7 : Hid _ := MineSt.below (w := w6.drew) mx b7)
    | (go_at_call 15; refine (eqStore_any x y' z x7 y7 z7 L.length P.length G.length cx cy G.length cx7 cy7 G.length q (gt L) (Tl P) (Ul P) (gt G) _ (by omega) (by omega) (by omega) (MineSt.at mx7.out).x (MineSt.at mx7.out).y (MineSt.at mx7.out).z (MineSt.at m7).x (MineSt.at m7).y (MineSt.at m7).z).mono ?_; rintro e w8 ⟨rfl, b8⟩; have hy8 : Hid _ := box_on hy7.out b8; have hl8 : Hid _ := box_on hl7.out b8; have b68 : Hid _ := Below.comp (b := w6.drew) (Below.drew (Below.refl w6.heap.size w6)) (Below.comp b7 b8)))
  replace j := box_on j b68.out
  replace k := box_on k b68.out
  replace l := box_on l b68.out
  replace y := box_on y b68.out
  replace g := Below.comp g b68.out
  replace mw := mw.below b68.out
  replace mx := mx.below b68.out
  replace mg := mg.below b68.out
  have s8 := b68.out.size
  clear b7 b8 hy7 hl7 mx7 m7 hy8 hl8 b68 y0 y1 y2 y3 l0 l1 l2 l3
  obtain ⟨l0, l1, l2, l3⟩ := box4_cells l
  go_wp2_with fail
  refine (markStore_any (w3.heap.size + 1) w4.heap.size x y' z L.length P.length G.length cx cy G.length q (gt L) (Tl P) (Ul P) (gt G) 1 _ (by omega) (by omega) (by omega) mx).mono ?_
  rintro e w9 ⟨rfl, o9, mx9⟩
  replace j := box_out j o9 (by omega)
  replace k := box_out k o9 (by omega)
  replace y := box_out y o9 (by omega)
  replace mw := mw.out o9 (by omega)
  replace mg := mg.out o9 (by omega)
  replace g := g.trans (Below.mono (Out.below o9 (by omega)) (by omega))
  have s9 := o9.size
  have hk9 : ¬ (((1 + L.length + 2 * P.length + G.length : Nat) : Int) < 0) := by omega
  clear o9 mx mx9 l0 l1 l2 l3 l
  obtain ⟨j0, j1, j2, j3⟩ := box4_cells j
  obtain ⟨k0, k1, k2, k3⟩ := box4_cells k
  go_wp2_with fail
  refine (eqStore_any xg yg zg xw yw zw LA.length PA.length GA.length cxg cyg czg cxw cyw czw qa (gt LA) (Tl PA) (Ul PA) (gt GA) _ (by omega) (by omega) (by omega) (MineSt.at mg).x (MineSt.at mg).y (MineSt.at mg).z (MineSt.at mw).x (MineSt.at mw).y (MineSt.at mw).z).mono ?_
  rintro e w10 ⟨rfl, b10⟩
  replace j := box_on j b10
  replace k := box_on k b10
  replace y := box_on y b10
  replace g := Below.comp g b10
  replace mw := mw.below b10
  replace mg := mg.below b10
  have s10 := b10.size
  clear b10 j0 j1 j2 j3 k0 k1 k2 k3
  obtain ⟨j0, j1, j2, j3⟩ := box4_cells j
  go_wp2_with fail
  refine (markStore_any (w4.heap.size + 1) w5.heap.size xg yg zg LA.length PA.length GA.length cxg cyg czg qa (gt LA) (Tl PA) (Ul PA) (gt GA) 1 _ (by omega) (by omega) (by omega) mg).mono ?_
  rintro e w11 ⟨rfl, o11, mg11⟩
  replace j := box_out j o11 (by omega)
  replace k := box_out k o11 (by omega)
  replace y := box_out y o11 (by omega)
  replace mw := mw.out o11 (by omega)
  replace g := g.trans (Below.mono (Out.below o11 (by omega)) (by omega))
  have s11 := o11.size
  clear o11 mg j0 j1 j2 j3
  obtain ⟨j0, j1, j2, j3⟩ := box4_cells j
  go_wp2_with fail
  refine (heldStore_any xg yg zg LA.length PA.length GA.length cxg cyg czg qa 1 _ (by omega) (by omega) mg11.1.1.strs mg11.1.2.wrts mg11.2.1.strs).mono ?_
  rintro e w12 ⟨rfl, b12⟩
  replace j := box_on j b12
  replace k := box_on k b12
  replace y := box_on y b12
  replace g := Below.comp g b12
  replace mw := mw.below b12
  replace mg11 := mg11.below b12
  have s12 := b12.size
  have hk12 : ¬ (((1 + LA.length + 2 * PA.length + GA.length : Nat) : Int) < 0) := by omega
  clear b12 j0 j1 j2 j3
  obtain ⟨y0, y1, y2, y3⟩ := box4_cells y
  go_wp2_with fail
  refine (HT.out _ g).mono ?_
  rintro e w13 ⟨b13, xh0, cxh0, yh0, cyh0, zh0, rfl, mx⟩
  replace j := box_on j b13
  replace k := box_on k b13
  replace g := Below.comp g b13
  replace mw := mw.below b13
  replace mg11 := mg11.below b13
  have s13 := b13.size
  clear b13 y0 y1 y2 y3 y
  go_wp2_with fail
  refine (HKI.out xh0 yh0 zh0 cxh0 cyh0 _ (MineSt.at mx) (Sn.on HS.out g)).mono ?_
  rintro e w14 ⟨b14, xh, cxh, yh, cyh, zh, czh, rfl, mh⟩
  replace j := box_on j b14
  replace k := box_on k b14
  replace g := Below.comp g b14
  replace mw := mw.below b14
  replace mg11 := mg11.below b14
  clear b14 mx
  obtain ⟨K4, hK4⟩ : ∃ K4, w14.alloc (.cells #[.slice xh LA.length cxh, .slice yh PA.length cyh, .slice zh GA.length czh, .int .i64 qa] 34) = K4 := ⟨_, rfl⟩
  have q14 : Below w14.heap.size w14 K4 := by subst hK4; exact below_alloc _ _
  have hh : K4.heap[w14.heap.size]? = some (.cells #[.slice xh LA.length cxh, .slice yh PA.length cyh, .slice zh GA.length czh, .int .i64 qa] 34) := by subst hK4; exact al1 _ _
  have jk := box_on j q14
  have kk := box_on k q14
  have gk := Below.comp g q14
  have mwk := mw.below q14
  have mgk := mg11.below q14
  have mhk := mh.below q14
  obtain ⟨h0, h1, h2, h3⟩ := box4_cells hh
  obtain ⟨k0, k1, k2, k3⟩ := box4_cells kk
  go_wp2_with fail
  refine (eqStore_any xh yh zh xw yw zw LA.length PA.length GA.length cxh cyh czh cxw cyw czw qa (gt LA) (Tl PA) (Ul PA) (gt GA) _ (by omega) (by omega) (by omega) (MineSt.at mhk).x (MineSt.at mhk).y (MineSt.at mhk).z (MineSt.at mwk).x (MineSt.at mwk).y (MineSt.at mwk).z).mono ?_
  rintro e w15 ⟨rfl, b15⟩
  have j := box_on jk b15
  have g := Below.comp gk b15
  have mg11 := mgk.below b15
  clear b15 hK4 q14 hh h0 h1 h2 h3 k0 k1 k2 k3 jk kk gk mwk mgk mhk
  obtain ⟨j0, j1, j2, j3⟩ := box4_cells j
  go_wp2_with fail
  refine (heldStore_any xg yg zg LA.length PA.length GA.length cxg cyg czg qa 1 _ (by omega) (by omega) mg11.1.1.strs mg11.1.2.wrts mg11.2.1.strs).mono ?_
  rintro e w16 ⟨rfl, b16⟩
  replace g := Below.comp g b16
  clear j0 j1 j2 j3
  go_wp2
  go_ret
  exact ⟨rfl, g⟩
end Go.Proofs.YtmijalmihfgolaaDoor
