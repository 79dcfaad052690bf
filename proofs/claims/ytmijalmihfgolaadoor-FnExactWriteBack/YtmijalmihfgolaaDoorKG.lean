import Derived.Test.YtmijalmihfgolaaDoorX1
/- The law of GoodStore. -/
namespace Go.Proofs.YtmijalmihfgolaaDoor
open Go.ChangeShapes Go.WideShapes Go.ChangeAt Go.RowKit
set_option linter.unusedVariables false
open Tx

attribute [local go_sem] Oper.semAt_some

/-- What is known of a store as it comes in. -/
structure SIn (L : List ByteArray) (P : List Wr) (G : List ByteArray) (q : Int) : Prop where
  l : L.length ≤ 9223372036854775807
  p : P.length ≤ 9223372036854775807
  g : G.length ≤ 9223372036854775807
  fl : FewT L
  fp : Few P
  fg : FewT G
  q : -9223372036854775808 ≤ q ∧ q ≤ 9223372036854775807
theorem MineSt.at {w : World} {B C : Nat} {x y z : Option Addr} {L : List ByteArray} {P : List Wr} {G : List ByteArray} (h : MineSt w B C x y z L.length P.length G.length (gt L) (Tl P) (Ul P) (gt G)) : StAt w x y z L P G := ⟨h.1.1.strs, h.1.2.wrts, h.2.1.strs⟩

set_option maxRecDepth 20000 in
set_option maxHeartbeats 8000000 in
theorem lawGoodS (a a' az : Option Addr) (ca ca' cz : Nat) (L : List ByteArray) (P : List Wr) (G : List ByteArray) (q : Int) (w : World) (sa : Addr) (hi : SIn L P G q) (ha : StAt w a a' az L P G) (hS : Sn w sa) :
    Calls Tryd.prog 3 #[stv a L.length ca a' P.length ca' az G.length cz q] w fun e w' => e = .returned (.bool true) ∧ Below w.heap.size w w' := by
  have h0 : ∀ o1, Below w.heap.size w (w.alloc o1) := fun o1 => below_alloc _ _
  have KS : Hid (SOk L P G G.length q → ∀ x y z cx cy W, StAt W x y z L P G → Calls Tryd.prog 12 #[stv x L.length cx y P.length cy z G.length G.length q] W fun e w' => e = .returned (.bool (gdS L P G q)) ∧ Below W.heap.size W w') := fun ok x y z cx cy W h => specGoodS_any x y z cx cy _ L P G q W ok h
  have KI : Hid (SOk L P G G.length q → ∀ x y z cx cy W, StAt W x y z L P G → Sn W sa → Calls Tryd.prog 14 #[stv x L.length cx y P.length cy z G.length G.length q] W fun e w' => e = .returned (.bool (gdS L P G q)) ∧ Below W.heap.size W w') := fun ok x y z cx cy W h hs => implGoodS_any x y z cx cy _ L P G q W sa ok h hs
  generalize gdS L P G q = ok at KS KI
  have HS : Hid _ := hS
  obtain ⟨hl, hp, hg, hfl, hfp, hfg, hq⟩ := id hi
  go_enter Tryd.func3, Tryd.ntmps3
  go_wp2_with fail
  refine (szStore_any a a' az L.length P.length G.length ca ca' cz q (gt L) (Tl P) (Ul P) (gt G) _ _ (by omega) (by omega) hl (ha.below (h0 _)).x hfl hp (ha.below (h0 _)).y hfp hg (ha.below (h0 _)).z hfg).mono ?_
  rintro e w1 ⟨b1, r, rfl, hr0, hr⟩
  have g := Below.comp (h0 _) b1
  have y := box_on (al1 w _) b1
  clear b1 h0
  by_cases hneg : r < 0
  · go_wp2
    go_ret
    exact ⟨rfl, g⟩
  obtain ⟨hr1, hr2, hr3⟩ := hr (by omega)
  have hn' : L.length ≤ 1048576 := by omega
  have hm' : P.length ≤ 1048576 := by omega
  have hg' : G.length ≤ 1048576 := by omega
  have ks := KS.out ⟨hn', hm', hg', Nat.le_refl _, hfl, hfp, hfg, hq⟩
  have ki := KI.out ⟨hn', hm', hg', Nat.le_refl _, hfl, hfp, hfg, hq⟩
  have HKS : Hid _ := ks
  have HKI : Hid _ := ki
  have HT : Hid (∀ W, Below w.heap.size w W → Calls Tryd.prog 13 #[stv a L.length ca a' P.length ca' az G.length cz q] W fun e w' => Below W.heap.size W w' ∧ ∃ x cx y cy z, e = .returned (stv x L.length cx y P.length cy z G.length G.length q) ∧ MineSt w' W.heap.size w'.heap.size x y z L.length P.length G.length (gt L) (Tl P) (Ul P) (gt G)) := fun W hW => toStore_any a a' az L.length P.length G.length ca ca' cz q (gt L) (Tl P) (Ul P) (gt G) W hn' hm' hg' (ha.below hW).x (ha.below hW).y (ha.below hW).z
  clear hr ks ki KS KI hl hp hg hfl hfp hfg hi
  obtain ⟨y0, y1, y2, y3⟩ := box4_cells y
  go_wp2_with fail
  refine (HT.out _ g).mono ?_
  rintro e w2 ⟨b2, x, cx, y', cy, z, rfl, mx⟩
  replace g := Below.comp g b2
  replace y := box_on y b2
  clear b2 y0 y1 y2 y3
  obtain ⟨y0, y1, y2, y3⟩ := box4_cells y
  go_wp2_with fail
  refine (HKS.out x y' z cx cy _ (MineSt.at mx)).mono ?_
  rintro e w3 ⟨rfl, b3⟩
  replace g := Below.comp g b3
  replace y := box_on y b3
  clear b3 y0 y1 y2 y3 mx
  obtain ⟨y0, y1, y2, y3⟩ := box4_cells y
  go_wp2_with fail
  refine (HT.out _ g).mono ?_
  rintro e w4 ⟨b4, x, cx, y', cy, z, rfl, mx⟩
  replace g := Below.comp g b4
  replace y := box_on y b4
  clear b4 y0 y1 y2 y3
  have q4 := below_alloc w4 (.cells #[.slice x L.length cx, .slice y' P.length cy, .slice z G.length G.length, .int .i64 q] 34)
  have l := al1 w4 (.cells #[.slice x L.length cx, .slice y' P.length cy, .slice z G.length G.length, .int .i64 q] 34)
  go_wp2_with fail
  refine (HKI.out x y' z cx cy _ (MineSt.at (mx.below q4)) (Sn.on HS.out (Below.comp g q4))).mono ?_
  rintro e w5 ⟨rfl, b5⟩
  have b5' := Below.comp q4 b5
  replace l := box_on l b5
  replace y := box_on y b5'
  replace mx := mx.below b5'
  replace g := Below.comp g b5'
  obtain ⟨y0, y1, y2, y3⟩ := box4_cells y
  obtain ⟨l0, l1, l2, l3⟩ := box4_cells l
  clear b5 b5' q4
  have hne : (ok != ok) = false := by simp
  go_wp2
  go_region_held3 (fun W => (W.cell? ⟨w.heap.size, 0, none⟩ = some (.slice a L.length ca) ∧ W.cell? ⟨w.heap.size, 1, none⟩ = some (.slice a' P.length ca') ∧ W.cell? ⟨w.heap.size, 2, none⟩ = some (.slice az G.length cz) ∧ W.cell? ⟨w.heap.size, 3, none⟩ = some (.int .i64 q)) ∧ (W.cell? ⟨w4.heap.size, 0, none⟩ = some (.slice x L.length cx) ∧ W.cell? ⟨w4.heap.size, 1, none⟩ = some (.slice y' P.length cy) ∧ W.cell? ⟨w4.heap.size, 2, none⟩ = some (.slice z G.length G.length) ∧ W.cell? ⟨w4.heap.size, 3, none⟩ = some (.int .i64 q)))
    ((first | exact ⟨⟨y0, y1, y2, y3⟩, l0, l1, l2, l3⟩ | exact ⟨box4_cells hy7.out, box4_cells hl7.out⟩ | exact ⟨box4_cells hy8.out, box4_cells hl8.out⟩))
    (first
    | (go_at_call 13; refine (HT.out _ (Below.drew g)).mono ?_; rintro e w7 ⟨b7, x7, cx7, y7, cy7, z7, rfl, m7⟩; have hy7 : Hid _ := box_on (w := w5.drew) y b7; have hl7 : Hid _ := box_on (w := w5.drew) l b7; have mx7 : Hid _ := MineSt.below (w := w5.drew) mx b7)
    | (go_at_call 15; refine (eqStore_any x y' z x7 y7 z7 L.length P.length G.length cx cy G.length cx7 cy7 G.length q (gt L) (Tl P) (Ul P) (gt G) _ (by omega) (by omega) (by omega) (MineSt.at mx7.out).x (MineSt.at mx7.out).y (MineSt.at mx7.out).z (MineSt.at m7).x (MineSt.at m7).y (MineSt.at m7).z).mono ?_; rintro e w8 ⟨rfl, b8⟩; have hy8 : Hid _ := box_on hy7.out b8; have hl8 : Hid _ := box_on hl7.out b8))
  all_goals go_wp2
  all_goals go_ret
  exact ⟨rfl, Below.comp (Below.comp (Below.drew g) b7) b8⟩
end Go.Proofs.YtmijalmihfgolaaDoor
