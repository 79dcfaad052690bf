import Derived.Test.YtmijalmihfgolaaDoorX2a
/- A store that owns its memory; SyncLog on both sides. -/
namespace Go.Proofs.YtmijalmihfgolaaDoor
open Go.ChangeShapes Go.WideShapes Go.ChangeAt Go.RowKit
set_option linter.unusedVariables false
open Tx

attribute [local go_sem] Oper.semAt_some

/-- What follows a store that owns its memory, where its log is a row of its own. -/
theorem mineSt_of {w : World} {B C : Nat} {x y z : Option Addr} {cz : Nat} {L : List ByteArray} {P : List Wr} {G : List ByteArray} (hBC : B ≤ C) (hC : C ≤ w.heap.size) (mx : MineT w B C x L) (my : MineW w B C y P) (oz : OwnT w C (.slice z G.length cz) G) : MineSt w B w.heap.size x y z L.length P.length G.length (gt L) (Tl P) (Ul P) (gt G) := by
  obtain ⟨z', c', e, _, mz⟩ := OwnT.mine oz
  cases e
  exact ⟨⟨mx.mono (Nat.le_refl _) hC, my.mono (Nat.le_refl _) hC⟩, mz.mono hBC (Nat.le_refl _), apt_of mx mz (Nat.le_refl _)⟩
theorem MineSt.setw {w w' : World} {B C o : Nat} {x y z : Option Addr} {L : List ByteArray} {P : List Wr} {G : List ByteArray} (h : MineSt w B C x y z L.length P.length G.length (gt L) (Tl P) (Ul P) (gt G)) (ho : Out o (o + 1) w w') (hd : o < B) : MineSt w' B C x y z L.length P.length G.length (gt L) (Tl P) (Ul P) (gt G) := h.out ho (.inr hd)

set_option maxRecDepth 20000 in
set_option maxHeartbeats 4000000 in
theorem specSync_any (x y z : Option Addr) (cx cy cz : Nat) (L : List ByteArray) (P : List Wr) (G : List ByteArray) (q : Int) (w : World) (ok : SOk L P G cz q) (ha : StAt w x y z L P G) :
    Calls Tryd.prog 24 #[stv x L.length cx y P.length cy z G.length cz q] w fun e w' => StB w w' e (gdS L P G q) L P G (G.length : Nat) := by
  obtain ⟨D, hD0⟩ : ∃ D, w.heap.size = D := ⟨_, rfl⟩
  have HD : Hid (w.heap.size = D) := hD0
  obtain ⟨W0, hW0⟩ : ∃ W0, (w.alloc (.cells #[.slice x L.length cx, .slice y P.length cy, .slice z G.length cz, .int .i64 q] 34)).alloc (.cells #[.slice none 0 0, .slice none 0 0, .slice none 0 0, .int .i64 0] 34) = W0 := ⟨_, rfl⟩
  have b0 : Below w.heap.size w W0 := by subst hW0; exact ba2 _ _ _
  have h2 : Hid (W0.heap[D]? = some (.cells #[.slice x L.length cx, .slice y P.length cy, .slice z G.length cz, .int .i64 q] 34 (0, 0)) ∧ W0.heap[D + 1]? = some (.cells #[.slice none 0 0, .slice none 0 0, .slice none 0 0, .int .i64 0] 34 (0, 0))) := by subst hW0 hD0; exact al2 _ _ _
  have hs0 : Hid (W0.heap.size = D + 2) := by subst hW0 hD0; rw [Hid, sz1, sz1]
  have cG := specGoodS_any x y z cx cy cz L P G q W0 ok (ha.below b0)
  obtain ⟨x0, x1, x2, x3⟩ := box4_cells h2.out.1
  generalize gdS L P G q = R at cG ⊢
  go_enter Tryd.func24, Tryd.ntmps24
  go_wp2_with fail
  refine cG.mono ?_
  rintro e w1 ⟨rfl, b1⟩
  have k1 := box_on h2.out.1 b1
  have k2 := box_on h2.out.2 b1
  have s1 : D + 2 ≤ w1.heap.size := by have := b1.size; rw [hs0.out] at this; exact this
  have g1 := Below.comp b0 b1
  clear x0 x1 x2 x3
  obtain ⟨c0, c1, c2, c3⟩ := box4_cells k1
  obtain ⟨f0, f1, f2, f3⟩ := box4_free k1
  obtain ⟨d0, d1, d2, d3⟩ := box4_cells k2
  obtain ⟨p0, p1, p2, p3⟩ := box4_free k2
  cases R with
  | false =>
    go_wp2
    have hset := box4_set k2 (x0 := .slice none 0 0) (x1 := .slice none 0 0) (x2 := .slice none 0 0) (x3 := .int .i64 0)
    have hout := set4_out w1 (D + 1) (.slice none 0 0) (.slice none 0 0) (.slice none 0 0) (.int .i64 0)
    obtain ⟨u0, u1, u2, u3⟩ := box4_cells hset
    exact bodyPost_ret (v := .tuple #[stv none 0 0 none 0 0 none 0 0 0, .bool false]) (by simp [results, Tryd.results24, go_sem, u0, u1, u2, u3]) rfl (StB.no (g1.trans ((Out.below hout (by omega)).mono (by rw [HD.out]; omega))))
  | true =>
    have cO := l11Own_any x y z cx cy cz L P G q w1 ok.l ok.p ok.g (ha.below g1)
    go_wp2_with fail
    refine cO.mono ?_
    rintro e w2 ⟨b2, x', cx', y', cy', z', cz', C, rfl, hC1, hC2, mx, my, oz⟩
    have mst := mineSt_of hC1 hC2 mx my oz
    have j1 := box_on k1 b2
    have j2 := box_on k2 b2
    have s2 := b2.size
    have g2 := Below.comp g1 b2
    clear c0 c1 c2 c3 f0 f1 f2 f3 d0 d1 d2 d3 p0 p1 p2 p3 mx my oz
    have hset3 := box4_set j1 (x0 := .slice x' L.length cx') (x1 := .slice y' P.length cy') (x2 := .slice z' G.length cz') (x3 := .int .i64 q)
    have ho3 := set4_out w2 D (.slice x' L.length cx') (.slice y' P.length cy') (.slice z' G.length cz') (.int .i64 q)
    obtain ⟨W3, hW3⟩ : ∃ W3, (((w2.setCell ⟨D, 0, none⟩ (.slice x' L.length cx')).setCell ⟨D, 1, none⟩ (.slice y' P.length cy')).setCell ⟨D, 2, none⟩ (.slice z' G.length cz')).setCell ⟨D, 3, none⟩ (.int .i64 q) = W3 := ⟨_, rfl⟩
    rw [hW3] at hset3 ho3
    obtain ⟨W4, hW4⟩ : ∃ W4, W3.setCell ⟨D, 3, none⟩ (.int .i64 (G.length : Nat)) = W4 := ⟨_, rfl⟩
    have hbox4 : W4.heap[D]? = some (.cells #[.slice x' L.length cx', .slice y' P.length cy', .slice z' G.length cz', .int .i64 (G.length : Nat)] 34 (0, 0)) := by subst hW4; rw [block_setz hset3]; rfl
    have o4 : Out D (D + 1) W3 W4 := by subst hW4; exact out_setCell _ _ _ _
    have j4 := box_out (box_out j2 ho3 (.inr (Nat.le_refl _))) o4 (.inr (Nat.le_refl _))
    have mst4 := (mst.out ho3 (.inr (by omega))).out o4 (.inr (by omega))
    have s3 := ho3.size
    have s4 := o4.size
    have g4 := (g2.trans ((Out.below ho3 (by omega)).mono (by rw [HD.out]; omega))).trans ((Out.below o4 (by omega)).mono (by rw [HD.out]; omega))
    obtain ⟨f0, f1, f2, f3⟩ := box4_free j1
    obtain ⟨c0, c1, c2, c3⟩ := box4_cells j1
    obtain ⟨a0, a1, a2, a3⟩ := box4_cells hset3
    obtain ⟨b0', b1', b2', b3'⟩ := box4_free hset3
    obtain ⟨e0, e1, e2, e3⟩ := box4_cells hbox4
    obtain ⟨d0, d1, d2, d3⟩ := box4_cells j4
    obtain ⟨p0, p1, p2, p3⟩ := box4_free j4
    have HG4 : Hid _ := g4
    have HM4 : Hid (MineSt W4 w1.heap.size w2.heap.size x' y' z' L.length P.length G.length (gt L) (Tl P) (Ul P) (gt G)) := mst4
    have HJ4 : Hid _ := j4
    clear g4 mst4 mst g2 g1 j4 hbox4 hset3 j1 j2 k1 k2 b1 b2 b0 h2
    go_wp2
    have hset := box4_set HJ4.out (x0 := .slice x' L.length cx') (x1 := .slice y' P.length cy') (x2 := .slice z' G.length cz') (x3 := .int .i64 (G.length : Nat))
    have hout := set4_out W4 (D + 1) (.slice x' L.length cx') (.slice y' P.length cy') (.slice z' G.length cz') (.int .i64 (G.length : Nat))
    obtain ⟨u0, u1, u2, u3⟩ := box4_cells hset
    have s5 := hout.size
    have mst5 := MineSt.out HM4.out hout (.inr (by omega))
    refine bodyPost_ret (v := .tuple #[stv x' L.length cx' y' P.length cy' z' G.length cz' (G.length : Nat), .bool true]) (by simp [results, Tryd.results24, go_sem, u0, u1, u2, u3]) rfl ⟨HG4.out.trans ((Out.below hout (by omega)).mono (by rw [HD.out]; omega)), x', cx', y', cy', z', cz', rfl, MineSt.mono mst5 (by rw [HD.out]; omega) (by omega)⟩
end Go.Proofs.YtmijalmihfgolaaDoor
