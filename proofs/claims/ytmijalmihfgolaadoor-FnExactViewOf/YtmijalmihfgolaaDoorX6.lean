import Derived.Test.YtmijalmihfgolaaDoorX5
import Derived.Test.YtmijalmihfgolaaDoorX2
/- RecoverStore: both sides. -/
namespace Go.Proofs.YtmijalmihfgolaaDoor
open Go.ChangeShapes Go.WideShapes Go.ChangeAt Go.RowKit
set_option linter.unusedVariables false
open Tx

attribute [local go_sem] Oper.semAt_some

theorem ltS_fun {n : Nat} {S : Nat → ByteArray} {w : World} {a : Option Addr} (h : At w a n fun i => .string (S i)) : RowT w a (ltS n S) := by
  intro hn
  rw [ltS_len] at hn
  obtain ⟨b, off, ea, hc⟩ := h hn
  refine ⟨b, off, ea, fun i hi => ?_⟩
  rw [ltS_len] at hi
  show w.cell? _ = some (.string (gt (ltS n S) i))
  rw [ltS_at hi]
  exact hc i hi
/-- The specification's l1Done over rows. -/
theorem l1DoneR (x y : Option Addr) (cx cy : Nat) (L : List ByteArray) (P : List Wr) (w : World) (h1 : 1 ≤ L.length) (h2 : L.length ≤ 32) (hm : P.length ≤ 1048576) (hx : RowT w x L) (hy : RowW w y P) (hf : ∀ i, i < P.length → fitB L.length (Tl P i) (Ul P i) = true) :
    Calls Tryd.prog 71 #[.slice x L.length cx, .slice y P.length cy] w fun e w' => Below w.heap.size w w' ∧ ∃ x' cx', e = .returned (.slice x' L.length cx') ∧ MineT w' w.heap.size w'.heap.size x' (dn L P) :=
  (l1Done_any x y L.length P.length cx cy (gt L) (Tl P) (Ul P) w h1 h2 hm hx hy hf).mono fun e w' ⟨b, x', cx', he, m⟩ => ⟨b, x', cx', he, mineT_of m⟩

set_option maxRecDepth 20000 in
set_option maxHeartbeats 4000000 in
theorem specRecover_any (x y z : Option Addr) (cx cy cz : Nat) (L : List ByteArray) (P : List Wr) (G : List ByteArray) (q : Int) (w : World) (ok : SOk L P G cz q) (ha : StAt w x y z L P G) :
    Calls Tryd.prog 35 #[stv x L.length cx y P.length cy z G.length cz q] w fun e w' => StB w w' e (gdS L P G q && decide (q = (G.length : Nat))) (dn (dn L P) (wrs G)) [] [] 0 := by
  obtain ⟨D, hD0⟩ : ∃ D, w.heap.size = D := ⟨_, rfl⟩
  have HD : Hid (w.heap.size = D) := hD0
  obtain ⟨W0, hW0⟩ : ∃ W0, (w.alloc (.cells #[.slice x L.length cx, .slice y P.length cy, .slice z G.length cz, .int .i64 q] 34)).alloc (.cells #[.slice none 0 0, .slice none 0 0, .slice none 0 0, .int .i64 0] 34) = W0 := ⟨_, rfl⟩
  have b0 : Below w.heap.size w W0 := by subst hW0; exact ba2 _ _ _
  have h2 : Hid (W0.heap[D]? = some (.cells #[.slice x L.length cx, .slice y P.length cy, .slice z G.length cz, .int .i64 q] 34 (0, 0)) ∧ W0.heap[D + 1]? = some (.cells #[.slice none 0 0, .slice none 0 0, .slice none 0 0, .int .i64 0] 34 (0, 0))) := by subst hW0 hD0; exact al2 _ _ _
  have hs0 : Hid (W0.heap.size = D + 2) := by subst hW0 hD0; rw [Hid, sz1, sz1]
  have cG := specGoodS_any x y z cx cy cz L P G q W0 ok (ha.below b0)
  have HP : Hid (gdS L P G q = true → gdD L P = true ∧ G.length ≤ 40 ∧ 0 ≤ q ∧ q ≤ G.length ∧ G.all (okG L.length) = true ∧ (P.all fun x => memW x (wrs (G.take q.toNat))) = true) := gd_parts
  obtain ⟨x0, x1, x2, x3⟩ := box4_cells h2.out.1
  generalize gdS L P G q = R at cG HP ⊢
  obtain ⟨V, hV⟩ : ∃ V, (R && decide (q = ((G.length : Nat) : Int))) = V := ⟨_, rfl⟩
  rw [hV]
  have HV : Hid _ := hV
  clear hV
  go_enter Tryd.func35, Tryd.ntmps35
  go_wp2_with fail
  refine cG.mono ?_
  rintro e w1 ⟨rfl, b1⟩
  have k1 := box_on h2.out.1 b1
  have k2 := box_on h2.out.2 b1
  have s1 : D + 2 ≤ w1.heap.size := by have := b1.size; rw [hs0.out] at this; exact this
  have g1 := Below.comp b0 b1
  clear x0 x1 x2 x3
  obtain ⟨c0, c1, c2, c3⟩ := box4_cells k1
  obtain ⟨d0, d1, d2, d3⟩ := box4_cells k2
  obtain ⟨p0, p1, p2, p3⟩ := box4_free k2
  have hset := box4_set k2 (x0 := .slice none 0 0) (x1 := .slice none 0 0) (x2 := .slice none 0 0) (x3 := .int .i64 0)
  have hout := set4_out w1 (D + 1) (.slice none 0 0) (.slice none 0 0) (.slice none 0 0) (.int .i64 0)
  obtain ⟨u0, u1, u2, u3⟩ := box4_cells hset
  have gN : Hid _ := g1.trans ((Out.below hout (by omega)).mono (by rw [HD.out]; omega))
  have HG1 : Hid _ := g1
  have HB1 : Hid _ := b1
  have K2 : Hid _ := k2
  have K1 : Hid _ := k1
  clear hout hset g1 b1 k1 k2 b0 hW0
  cases R with
  | false =>
    clear c0 c1 c2 c3
    have e : V = false := HV.out.symm
    subst e
    go_wp2
    exact bodyPost_ret (v := .tuple #[stv none 0 0 none 0 0 none 0 0 0, .bool false]) (by simp [results, Tryd.results35, go_sem, u0, u1, u2, u3]) rfl (StB.no gN.out)
  | true =>
    by_cases hq : q = (G.length : Nat)
    · subst hq
      obtain ⟨gD, g40, _, _, gA, _⟩ := HP.out rfl
      obtain ⟨t1, t2, t3, t4, t5⟩ := gdD_parts gD
      have h320 := wrs_320 gA g40
      have hwf : Hid _ := wrs_fits gA
      have cW : Calls Tryd.prog 46 #[.slice z G.length cz, .int .i64 (L.length : Nat)] w1 fun e w' => WrRes w1 w' e L.length G := l11Writes_any z cz G L.length w1 (by omega) (by omega) ok.fg (At.below ha.z HG1.out)
      have cD1 : Hid (∀ w', Below w.heap.size w w' → Calls Tryd.prog 71 #[.slice x L.length cx, .slice y P.length cy] w' fun e w'' => Below w'.heap.size w' w'' ∧ ∃ x' cx', e = .returned (.slice x' L.length cx') ∧ MineT w'' w'.heap.size w''.heap.size x' (dn L P)) := fun w' hb => l1DoneR x y cx cy L P w' t1 t2 (by omega) (ha.x.below hb) (ha.y.below hb) t5
      have dnl : Hid _ := dn_len L P
      have e : V = true := by rw [← HV.out]; simp
      subst e
      clear t4 t5 u0 u1 u2 u3
      have HA9 : Hid _ := gA
      clear gA
      go_wp2_with fail
      refine cW.mono ?_
      rintro e w2 hW2
      unfold WrRes at hW2
      rw [HA9.out] at hW2
      obtain ⟨b2, v2, rfl, o2⟩ := hW2
      rw [cond_true] at o2
      have l1 := box_on K1.out b2
      have l2 := box_on K2.out b2
      obtain ⟨vx, vc, hv2, hvc, mv⟩ := OwnW.form o2
      subst hv2
      have s2 := b2.size
      have g2 := Below.comp HG1.out b2
      clear c0 c1 c2 c3 d0 d1 d2 d3 p0 p1 p2 p3 o2
      obtain ⟨c0, c1, c2, c3⟩ := box4_cells l1
      go_wp2_with fail
      refine (cD1.out _ g2).mono ?_
      rintro e w3 ⟨b3, x3, cx3, rfl, m3⟩
      have g3 := Below.comp g2 b3
      have cD2 := l1DoneR x3 vx cx3 vc (dn L P) (wrs G) w3 (by rw [dnl.out]; exact t1) (by rw [dnl.out]; exact t2) (by omega) m3.strs (Mine.wrts (Mine.below mv b3)) (by rw [dnl.out]; exact hwf.out)
      rw [dnl.out] at cD2
      go_wp2_with fail
      refine cD2.mono ?_
      rintro e w4 ⟨b4, x4, cx4, rfl, m4⟩
      have j2 := box_on (box_on l2 b3) b4
      have g4 := Below.comp g3 b4
      have s3 := b3.size
      have s4 := b4.size
      obtain ⟨d0, d1, d2, d3⟩ := box4_cells j2
      obtain ⟨p0, p1, p2, p3⟩ := box4_free j2
      have HM : Hid (MineT w4 w3.heap.size w4.heap.size x4 (dn (dn L P) (wrs G))) := m4
      have HG4 : Hid _ := g4
      have HJ2 : Hid _ := j2
      clear c0 c1 c2 c3 g2 g3 g4 m4 m3 mv b2 b3 b4 l1 l2 j2
      go_wp2
      have hset := box4_set HJ2.out (x0 := .slice x4 L.length cx4) (x1 := .slice none 0 0) (x2 := .slice none 0 0) (x3 := .int .i64 0)
      have hout := set4_out w4 (D + 1) (.slice x4 L.length cx4) (.slice none 0 0) (.slice none 0 0) (.int .i64 0)
      obtain ⟨u0, u1, u2, u3⟩ := box4_cells hset
      have s5 := hout.size
      have eL : (dn (dn L P) (wrs G)).length = L.length := by rw [dn_len, dn_len]
      refine bodyPost_ret (v := .tuple #[stv x4 L.length cx4 none 0 0 none 0 0 0, .bool true]) (by simp [results, Tryd.results35, go_sem, u0, u1, u2, u3]) rfl ⟨HG4.out.trans ((Out.below hout (by omega)).mono (by rw [HD.out]; omega)), x4, cx4, none, 0, none, 0, ?_, ⟨?_, mine_none _ _ _ _ _ _⟩, mine_none _ _ _ _ _ _, .inr (.inl rfl)⟩
      · show _ = Ending.returned (.tuple #[stv x4 (dn (dn L P) (wrs G)).length cx4 none 0 0 none 0 0 0, .bool true])
        rw [eL]
      · exact Mine.mono (Mine.out HM.out hout (.inr (by omega))) (by rw [HD.out]; omega) (by omega)
    · have e : V = false := by rw [← HV.out, decide_eq_false hq]; rfl
      subst e
      go_wp2
      exact bodyPost_ret (v := .tuple #[stv none 0 0 none 0 0 none 0 0 0, .bool false]) (by simp [results, Tryd.results35, go_sem, u0, u1, u2, u3]) rfl (StB.no gN.out)
end Go.Proofs.YtmijalmihfgolaaDoor
