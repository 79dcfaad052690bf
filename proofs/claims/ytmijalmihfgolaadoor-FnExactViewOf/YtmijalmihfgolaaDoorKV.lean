import Derived.Test.YtmijalmihfgolaaDoorX8
/- The law of ViewOf, over two sides that tell the same sectors. -/
namespace Go.Proofs.YtmijalmihfgolaaDoor
open Go.ChangeShapes Go.WideShapes Go.ChangeAt Go.RowKit
set_option linter.unusedVariables false
open Tx

attribute [local go_sem] Oper.semAt_some

set_option maxRecDepth 20000 in
set_option maxHeartbeats 16000000 in
theorem lawView_of (a a' az : Option Addr) (ca ca' cz : Nat) (L : List ByteArray) (P : List Wr) (G : List ByteArray) (q : Int) (w : World) (sa : Addr) (hi : SIn L P G q) (ha : StAt w a a' az L P G) (hS : Sn w sa)
    (ok : Bool) (LA : List ByteArray) (hla : L.length ≤ 1048576 → P.length ≤ 1048576 → G.length ≤ 1048576 → LA.length ≤ 2000000)
    (KS : SOk L P G G.length q → ∀ x y z cx cy W, StAt W x y z L P G → Calls Tryd.prog 37 #[stv x L.length cx y P.length cy z G.length G.length q] W fun e w' => ViR W w' e ok LA)
    (KI : SOk L P G G.length q → ∀ x y z cx cy W, StAt W x y z L P G → Sn W sa → Calls Tryd.prog 38 #[stv x L.length cx y P.length cy z G.length G.length q] W fun e w' => ViR W w' e ok LA) :
    Calls Tryd.prog 10 #[stv a L.length ca a' P.length ca' az G.length cz q] w fun e w' => e = .returned (.bool true) ∧ Below w.heap.size w w' := by
  have h0 : ∀ o1, Below w.heap.size w (w.alloc o1) := fun o1 => below_alloc _ _
  have HS : Hid _ := hS
  have HSp : Hid _ := KS
  have HIm : Hid _ := KI
  clear KS KI
  obtain ⟨hl, hp, hg, hfl, hfp, hfg, hq⟩ := id hi
  go_enter Tryd.func10, Tryd.ntmps10
  go_wp2_with fail
  refine (szStore_any a a' az L.length P.length G.length ca ca' cz q (gt L) (Tl P) (Ul P) (gt G) _ _ (by omega) (by omega) hl (ha.below (h0 _)).x hfl hp (ha.below (h0 _)).y hfp hg (ha.below (h0 _)).z hfg).mono ?_
  rintro e w1 ⟨b1, r, rfl, hr0, hr⟩
  have g := Below.comp (h0 _) b1
  have y := box_on (al1 w _) b1
  clear b1 h0
  by_cases hneg : r < 0
  · go_wp2
    go_ret
    exact ⟨rfl, g⟩
  obtain ⟨hr1, hr2, hr3⟩ := hr (by omega)
  have hn' : L.length ≤ 1048576 := by omega
  have hm' : P.length ≤ 1048576 := by omega
  have hg' : G.length ≤ 1048576 := by omega
  have hA1 := hla hn' hm' hg'
  have ks := HSp.out ⟨hn', hm', hg', Nat.le_refl _, hfl, hfp, hfg, hq⟩
  have ki := HIm.out ⟨hn', hm', hg', Nat.le_refl _, hfl, hfp, hfg, hq⟩
  have HKS : Hid _ := ks
  have HKI : Hid _ := ki
  have HT : Hid (∀ W, Below w.heap.size w W → Calls Tryd.prog 13 #[stv a L.length ca a' P.length ca' az G.length cz q] W fun e w' => Below W.heap.size W w' ∧ ∃ x cx y cy z, e = .returned (stv x L.length cx y P.length cy z G.length G.length q) ∧ MineSt w' W.heap.size w'.heap.size x y z L.length P.length G.length (gt L) (Tl P) (Ul P) (gt G)) := fun W hW => toStore_any a a' az L.length P.length G.length ca ca' cz q (gt L) (Tl P) (Ul P) (gt G) W hn' hm' hg' (ha.below hW).x (ha.below hW).y (ha.below hW).z
  have sw : w.heap.size + 1 ≤ w1.heap.size := box_lt y
  clear hr ks ki HSp HIm hl hp hg hfl hfp hfg hi hla
  obtain ⟨y0, y1, y2, y3⟩ := box4_cells y
  go_wp2_with fail
  refine (HT.out _ g).mono ?_
  rintro e w2 ⟨b2, x, cx, y', cy, z, rfl, mx⟩
  replace g := Below.comp g b2
  replace y := box_on y b2
  have s2 := b2.size
  clear b2 y0 y1 y2 y3
  go_wp2_with fail
  refine (HKS.out x y' z cx cy _ (MineSt.at mx)).mono ?_
  rintro e w3 ⟨b3, xw, cxw, rfl, mw⟩
  replace g := Below.comp g b3
  replace y := box_on y b3
  have s3 := b3.size
  clear b3 mx
  obtain ⟨y0, y1, y2, y3⟩ := box4_cells y
  go_wp2_with fail
  refine (HT.out _ g).mono ?_
  rintro e w4 ⟨b4, x, cx, y', cy, z, rfl, mx0⟩
  replace y := box_on y b4
  replace mw := mw.below b4
  replace g := Below.comp g b4
  have s4 := b4.size
  have mx := mx0.mono (B' := w3.heap.size) (C' := w4.heap.size) (by omega) (Nat.le_refl _)
  clear b4 y0 y1 y2 y3 mx0
  obtain ⟨K2, hK2⟩ : ∃ K2, w4.alloc (.cells #[.slice x L.length cx, .slice y' P.length cy, .slice z G.length G.length, .int .i64 q] 34) = K2 := ⟨_, rfl⟩
  have q4 : Below w4.heap.size w4 K2 := by subst hK2; exact below_alloc _ _
  have l : K2.heap[w4.heap.size]? = some (.cells #[.slice x L.length cx, .slice y' P.length cy, .slice z G.length G.length, .int .i64 q] 34) := by subst hK2; exact al1 _ _
  have sl : w4.heap.size < K2.heap.size := box_lt l
  have yk := box_on y q4
  have gk := Below.comp g q4
  have mwk := mw.below q4
  have mxk := mx.below q4
  obtain ⟨l0, l1, l2, l3⟩ := box4_cells l
  go_wp2_with fail
  refine (HKI.out x y' z cx cy _ (MineSt.at mxk) (Sn.on HS.out gk)).mono ?_
  rintro e w5 ⟨b5, xg, cxg, rfl, mg0⟩
  replace l := box_on l b5
  have y := box_on yk b5
  have g := Below.comp gk b5
  have mw := mwk.below b5
  have mx := mxk.below b5
  have s5 := b5.size
  have mg := mg0.mono (B' := w4.heap.size + 1) (C' := w5.heap.size) (by omega) (Nat.le_refl _)
  clear b5 hK2 q4 yk gk mwk mxk mg0 l0 l1 l2 l3
  go_wp2_with fail
  refine (eqStringS_any xg xw LA.length cxg cxw (gt LA) _ (by omega) mg.strs mw.strs).mono ?_
  rintro e w6 ⟨rfl, b6⟩
  replace l := box_on l b6
  replace y := box_on y b6
  replace g := Below.comp g b6
  replace mw := mw.below b6
  replace mx := mx.below b6
  replace mg := mg.below b6
  have s6 := b6.size
  clear b6
  obtain ⟨y0, y1, y2, y3⟩ := box4_cells y
  obtain ⟨l0, l1, l2, l3⟩ := box4_cells l
  go_wp2
  go_region_held3 (fun W => (W.cell? ⟨w.heap.size, 0, none⟩ = some (.slice a L.length ca) ∧ W.cell? ⟨w.heap.size, 1, none⟩ = some (.slice a' P.length ca') ∧ W.cell? ⟨w.heap.size, 2, none⟩ = some (.slice az G.length cz) ∧ W.cell? ⟨w.heap.size, 3, none⟩ = some (.int .i64 q)) ∧ (W.cell? ⟨w4.heap.size, 0, none⟩ = some (.slice x L.length cx) ∧ W.cell? ⟨w4.heap.size, 1, none⟩ = some (.slice y' P.length cy) ∧ W.cell? ⟨w4.heap.size, 2, none⟩ = some (.slice z G.length G.length) ∧ W.cell? ⟨w4.heap.size, 3, none⟩ = some (.int .i64 q)))
    ((first | exact ⟨⟨y0, y1, y2, y3⟩, l0, l1, l2, l3⟩ | exact ⟨box4_cells hy7.out, box4_cells hl7.out⟩ | exact ⟨box4_cells hy8.out, box4_cells hl8.out⟩))
    (first
    | (go_at_call 13; refine (HT.out _ (Below.drew g)).mono ?_; rintro e w7 ⟨b7, x7, cx7, y7, cy7, z7, rfl, m7⟩; have hy7 : Hid _ := box_on (w := w6.drew) y b7; have hl7 : Hid _ := box_on (w := w6.drew) l b7; have mx7 : Hid _ := MineSt.below (w := w6.drew) mx b7)
    | (go_at_call 15; refine (eqStore_any x y' z x7 y7 z7 L.length P.length G.length cx cy G.length cx7 cy7 G.length q (gt L) (Tl P) (Ul P) (gt G) _ (by omega) (by omega) (by omega) (MineSt.at mx7.out).x (MineSt.at mx7.out).y (MineSt.at mx7.out).z (MineSt.at m7).x (MineSt.at m7).y (MineSt.at m7).z).mono ?_; rintro e w8 ⟨rfl, b8⟩; have hy8 : Hid _ := box_on hy7.out b8; have hl8 : Hid _ := box_on hl7.out b8; have b68 : Hid _ := Below.comp (b := w6.drew) (Below.drew (Below.refl w6.heap.size w6)) (Below.comp b7 b8)))
  replace l := box_on l b68.out
  replace y := box_on y b68.out
  replace g := Below.comp g b68.out
  replace mw := mw.below b68.out
  replace mx := mx.below b68.out
  replace mg := mg.below b68.out
  have s8 := b68.out.size
  clear b7 b8 hy7 hl7 mx7 m7 hy8 hl8 b68 y0 y1 y2 y3 l0 l1 l2 l3
  obtain ⟨l0, l1, l2, l3⟩ := box4_cells l
  go_wp2_with fail
  refine (markStore_any w3.heap.size w4.heap.size x y' z L.length P.length G.length cx cy G.length q (gt L) (Tl P) (Ul P) (gt G) 1 _ (by omega) (by omega) (by omega) mx).mono ?_
  rintro e w9 ⟨rfl, o9, mx9⟩
  replace y := box_out y o9 (by omega)
  replace mw := mw.out o9 (by omega)
  replace mg := mg.out o9 (by omega)
  replace g := g.trans (Below.mono (Out.below o9 (by omega)) (by omega))
  have s9 := o9.size
  have hk9 : ¬ (((1 + L.length + 2 * P.length + G.length : Nat) : Int) < 0) := by omega
  clear o9 mx mx9 l0 l1 l2 l3 l
  go_wp2_with fail
  refine (eqStringS_any xg xw LA.length cxg cxw (gt LA) _ (by omega) mg.strs mw.strs).mono ?_
  rintro e w10 ⟨rfl, b10⟩
  replace y := box_on y b10
  replace g := Below.comp g b10
  replace mw := mw.below b10
  replace mg := mg.below b10
  have s10 := b10.size
  clear b10
  go_wp2_with fail
  refine (markStringS_any (w4.heap.size + 1) w5.heap.size xg LA.length cxg (gt LA) 1 _ (by omega) (by omega) mg).mono ?_
  rintro e w11 ⟨rfl, o11, mg11⟩
  replace y := box_out y o11 (by omega)
  replace mw := mw.out o11 (by omega)
  replace g := g.trans (Below.mono (Out.below o11 (by omega)) (by omega))
  have s11 := o11.size
  clear o11 mg
  go_wp2_with fail
  refine (heldStringS_any xg LA.length cxg 1 _ (by omega) (by omega) mg11.strs).mono ?_
  rintro e w12 ⟨rfl, b12⟩
  replace y := box_on y b12
  replace g := Below.comp g b12
  replace mw := mw.below b12
  replace mg11 := mg11.below b12
  have s12 := b12.size
  have hk12 : ¬ (((1 + LA.length : Nat) : Int) < 0) := by omega
  clear b12
  obtain ⟨y0, y1, y2, y3⟩ := box4_cells y
  go_wp2_with fail
  refine (HT.out _ g).mono ?_
  rintro e w13 ⟨b13, xh0, cxh0, yh0, cyh0, zh0, rfl, mx⟩
  replace g := Below.comp g b13
  replace mw := mw.below b13
  replace mg11 := mg11.below b13
  have s13 := b13.size
  clear b13 y0 y1 y2 y3 y
  go_wp2_with fail
  refine (HKI.out xh0 yh0 zh0 cxh0 cyh0 _ (MineSt.at mx) (Sn.on HS.out g)).mono ?_
  rintro e w14 ⟨b14, xh, cxh, rfl, mh⟩
  replace g := Below.comp g b14
  replace mw := mw.below b14
  replace mg11 := mg11.below b14
  clear b14 mx
  go_wp2_with fail
  refine (eqStringS_any xh xw LA.length cxh cxw (gt LA) _ (by omega) mh.strs mw.strs).mono ?_
  rintro e w15 ⟨rfl, b15⟩
  replace g := Below.comp g b15
  replace mg11 := mg11.below b15
  clear b15
  go_wp2_with fail
  refine (heldStringS_any xg LA.length cxg 1 _ (by omega) (by omega) mg11.strs).mono ?_
  rintro e w16 ⟨rfl, b16⟩
  replace g := Below.comp g b16
  go_wp2
  go_ret
  exact ⟨rfl, g⟩
theorem bifV {α : Type} (b : Bool) (l : List α) : (bif b then l else []).length ≤ l.length := by cases b <;> simp
theorem lawView (a a' az : Option Addr) (ca ca' cz : Nat) (L : List ByteArray) (P : List Wr) (G : List ByteArray) (q : Int) (w : World) (sa : Addr) (hi : SIn L P G q) (ha : StAt w a a' az L P G) (hS : Sn w sa) :
    Calls Tryd.prog 10 #[stv a L.length ca a' P.length ca' az G.length cz q] w fun e w' => e = .returned (.bool true) ∧ Below w.heap.size w w' :=
  lawView_of a a' az ca ca' cz L P G q w sa hi ha hS (gdS L P G q) _
    (fun h1 h2 h3 => by have := bifV (gdS L P G q) (dn (dn L P) (wrs G)); rw [dn_len, dn_len] at this; omega)
    (fun ok x y z cx cy W h => specView_any x y z cx cy _ L P G q W ok h)
    (fun ok x y z cx cy W h hs => implView_any x y z cx cy _ L P G q W sa ok h hs)
end Go.Proofs.YtmijalmihfgolaaDoor
