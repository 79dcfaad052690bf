import Derived.Test.YtmijalmihfgolaaDoorX6
/- ViewOf: both sides. -/
namespace Go.Proofs.YtmijalmihfgolaaDoor
open Go.ChangeShapes Go.WideShapes Go.ChangeAt Go.RowKit
set_option linter.unusedVariables false
open Tx

attribute [local go_sem] Oper.semAt_some

def ViR (w w' : World) (e : Ending) (ok : Bool) (LA : List ByteArray) : Prop :=
  Below w.heap.size w w' ∧ ∃ x cx, e = .returned (.tuple #[.slice x LA.length cx, .bool ok]) ∧ MineT w' w.heap.size w'.heap.size x LA

set_option maxRecDepth 20000 in
set_option maxHeartbeats 4000000 in
theorem specView_any (x y z : Option Addr) (cx cy cz : Nat) (L : List ByteArray) (P : List Wr) (G : List ByteArray) (q : Int) (w : World) (ok : SOk L P G cz q) (ha : StAt w x y z L P G) :
    Calls Tryd.prog 37 #[stv x L.length cx y P.length cy z G.length cz q] w fun e w' => ViR w w' e (gdS L P G q) (bif gdS L P G q then dn (dn L P) (wrs G) else []) := by
  obtain ⟨D, hD0⟩ : ∃ D, w.heap.size = D := ⟨_, rfl⟩
  have HD : Hid (w.heap.size = D) := hD0
  obtain ⟨W0, hW0⟩ : ∃ W0, w.alloc (.cells #[.slice x L.length cx, .slice y P.length cy, .slice z G.length cz, .int .i64 q] 34) = W0 := ⟨_, rfl⟩
  have b0 : Below w.heap.size w W0 := by subst hW0; exact below_alloc _ _
  have h2 : Hid (W0.heap[D]? = some (.cells #[.slice x L.length cx, .slice y P.length cy, .slice z G.length cz, .int .i64 q] 34 (0, 0))) := by subst hW0 hD0; exact al1 _ _
  have hs0 : Hid (W0.heap.size = D + 1) := by subst hW0 hD0; rw [Hid, sz1]
  have cG := specGoodS_any x y z cx cy cz L P G q W0 ok (ha.below b0)
  have HP : Hid (gdS L P G q = true → gdD L P = true ∧ G.length ≤ 40 ∧ 0 ≤ q ∧ q ≤ G.length ∧ G.all (okG L.length) = true ∧ (P.all fun x => memW x (wrs (G.take q.toNat))) = true) := gd_parts
  obtain ⟨x0, x1, x2, x3⟩ := box4_cells h2.out
  generalize gdS L P G q = R at cG HP ⊢
  go_enter Tryd.func37, Tryd.ntmps37
  go_wp2_with fail
  refine cG.mono ?_
  rintro e w1 ⟨rfl, b1⟩
  have k1 := box_on h2.out b1
  have s1 : D + 1 ≤ w1.heap.size := by have := b1.size; rw [hs0.out] at this; exact this
  have g1 := Below.comp b0 b1
  clear x0 x1 x2 x3
  obtain ⟨c0, c1, c2, c3⟩ := box4_cells k1
  have HG1 : Hid _ := g1
  have K1 : Hid _ := k1
  clear g1 b1 k1 b0 hW0
  cases R with
  | false =>
    clear c0 c1 c2 c3
    go_wp2
    refine bodyPost_ret (v := .tuple #[.slice none 0 0, .bool false]) (by simp [results, Tryd.results37, go_sem]) rfl ?_
    exact ⟨HG1.out, none, 0, rfl, mine_none _ _ _ _ _ _⟩
  | true =>
    obtain ⟨gD, g40, _, _, gA, _⟩ := HP.out rfl
    obtain ⟨t1, t2, t3, t4, t5⟩ := gdD_parts gD
    have h320 := wrs_320 gA g40
    have hwf : Hid _ := wrs_fits gA
    have cW : Calls Tryd.prog 46 #[.slice z G.length cz, .int .i64 (L.length : Nat)] w1 fun e w' => WrRes w1 w' e L.length G := l11Writes_any z cz G L.length w1 (by omega) (by omega) ok.fg (At.below ha.z HG1.out)
    have cD1 : Hid (∀ w', Below w.heap.size w w' → Calls Tryd.prog 71 #[.slice x L.length cx, .slice y P.length cy] w' fun e w'' => Below w'.heap.size w' w'' ∧ ∃ x' cx', e = .returned (.slice x' L.length cx') ∧ MineT w'' w'.heap.size w''.heap.size x' (dn L P)) := fun w' hb => l1DoneR x y cx cy L P w' t1 t2 (by omega) (ha.x.below hb) (ha.y.below hb) t5
    have dnl : Hid _ := dn_len L P
    clear t4 t5
    have HA9 : Hid _ := gA
    clear gA
    go_wp2_with fail
    refine cW.mono ?_
    rintro e w2 hW2
    unfold WrRes at hW2
    rw [HA9.out] at hW2
    obtain ⟨b2, v2, rfl, o2⟩ := hW2
    rw [cond_true] at o2
    have l1 := box_on K1.out b2
    obtain ⟨vx, vc, hv2, hvc, mv⟩ := OwnW.form o2
    subst hv2
    have s2 := b2.size
    have g2 := Below.comp HG1.out b2
    clear c0 c1 c2 c3 o2
    obtain ⟨c0, c1, c2, c3⟩ := box4_cells l1
    go_wp2_with fail
    refine (cD1.out _ g2).mono ?_
    rintro e w3 ⟨b3, x3, cx3, rfl, m3⟩
    have g3 := Below.comp g2 b3
    have cD2 := l1DoneR x3 vx cx3 vc (dn L P) (wrs G) w3 (by rw [dnl.out]; exact t1) (by rw [dnl.out]; exact t2) (by omega) m3.strs (Mine.wrts (Mine.below mv b3)) (by rw [dnl.out]; exact hwf.out)
    rw [dnl.out] at cD2
    go_wp2_with fail
    refine cD2.mono ?_
    rintro e w4 ⟨b4, x4, cx4, rfl, m4⟩
    have g4 := Below.comp g3 b4
    have s3 := b3.size
    have s4 := b4.size
    have HM : Hid (MineT w4 w3.heap.size w4.heap.size x4 (dn (dn L P) (wrs G))) := m4
    have HG4 : Hid _ := g4
    clear c0 c1 c2 c3 g2 g3 g4 m4 m3 mv b2 b3 b4 l1
    go_wp2
    refine bodyPost_ret (v := .tuple #[.slice x4 L.length cx4, .bool true]) (by simp [results, Tryd.results37, go_sem]) rfl ?_
    have eL : (dn (dn L P) (wrs G)).length = L.length := by rw [dn_len, dn_len]
    refine ⟨HG4.out, x4, cx4, ?_, ?_⟩
    · show _ = Ending.returned (.tuple #[.slice x4 (dn (dn L P) (wrs G)).length cx4, .bool true])
      rw [eL]
    · exact Mine.mono HM.out (by rw [HD.out]; omega) (Nat.le_refl _)

set_option maxRecDepth 20000 in
set_option maxHeartbeats 4000000 in
theorem viewDo (a : Addr) (L : List ByteArray) (P : List Wr) (G : List ByteArray) (q : Int) (hg : gdS L P G q = true) (W : World) (B o : Nat) (x y : Option Addr) (cx cy : Nat) (v : Value) (ho : B ≤ o) (hO : OB W o (.slice x L.length cx) (.slice y P.length cy) v q) (mx : MineT W B W.heap.size x L) (my : MineW W B W.heap.size y P) (hl : LogR W B B v (G.map rdL)) :
    Calls Tryd.prog 81 #[.pointer (some ⟨o, 0, none⟩)] W fun e w' => DoR W w' e a B o true (dn (dn L P) (wrs G)) [] [] 0 := by
  have hlt := box_lt hO
  have hdr := redo_any o B x y cx cy L P G _ q W hg ho hO mx my hl
  go_enter Tryd.func81, Tryd.ntmps81
  go_wp2_with fail
  refine hdr.mono ?_
  rintro e w3 ⟨rfl, o3, x3, cx3, hO3, m3⟩
  go_wp2
  go_end0
  have hb3 : Below B W w3 := Below.mono (Out.below o3 (by omega)) ho
  have eL : (dn (dn L P) (wrs G)).length = L.length := by rw [dn_len, dn_len]
  refine ⟨hb3, fun _ => ⟨rfl, x3, cx3, none, 0, _, by rw [eL]; exact hO3, m3.mono (by omega) (Nat.le_refl _), mine_none _ _ _ _ _ _, (LogR.nil w3 B B).at⟩, fun h => (by cases h)⟩

set_option maxRecDepth 20000 in
set_option maxHeartbeats 1600000 in
theorem implView_any (x y z : Option Addr) (cx cy cz : Nat) (L : List ByteArray) (P : List Wr) (G : List ByteArray) (q : Int) (w : World) (a : Addr) (ok : SOk L P G cz q) (ha : StAt w x y z L P G) (hS : Sn w a) :
    Calls Tryd.prog 38 #[stv x L.length cx y P.length cy z G.length cz q] w fun e w' => ViR w w' e (gdS L P G q) (bif gdS L P G q then dn (dn L P) (wrs G) else []) := by
  obtain ⟨D, hD0⟩ : ∃ D, w.heap.size = D := ⟨_, rfl⟩
  have HD : Hid (w.heap.size = D) := hD0
  obtain ⟨W0, hW0⟩ : ∃ W0, w.alloc (.cells #[.slice x L.length cx, .slice y P.length cy, .slice z G.length cz, .int .i64 q] 34) = W0 := ⟨_, rfl⟩
  have b0 : Below w.heap.size w W0 := by subst hW0; exact below_alloc _ _
  have h2 : Hid (W0.heap[D]? = some (.cells #[.slice x L.length cx, .slice y P.length cy, .slice z G.length cz, .int .i64 q] 34 (0, 0))) := by subst hW0 hD0; exact al1 _ _
  have hs0 : Hid (W0.heap.size = D + 1) := by subst hW0 hD0; rw [Hid, sz1]
  have cW := with_any 81 #[] (enters_of Tryd.func81 (by kernel_rfl) (by kernel_rfl)) x y z cx cy cz L P G q W0 a ok (ha.below b0) (hS.on b0) true (dn (dn L P) (wrs G)) [] [] 0 (fun _ _ => ⟨by simp, fun i hi => by simp at hi⟩)
    (fun h W B o x' y' cx' cy' v hb hB ho hO mx my hl => viewDo a L P G q h W B o x' y' cx' cy' v ho hO mx my hl)
  unfold StB StR at cW
  rw [Bool.and_true] at cW
  unfold ViR
  generalize gdS L P G q = OK at cW ⊢
  generalize (bif OK then dn (dn L P) (wrs G) else []) = LA at cW ⊢
  generalize (bif OK then ([] : List Wr) else []) = PA at cW ⊢
  generalize (bif OK then txs [] else []) = GA at cW ⊢
  generalize (bif OK then (0 : Int) else 0) = qa at cW ⊢
  obtain ⟨x0, x1, x2, x3⟩ := box4_cells h2.out
  go_enter Tryd.func38, Tryd.ntmps38
  go_wp2_with fail
  refine cW.mono ?_
  rintro e w1 ⟨b1, xn, cxn, yn, cyn, zn, czn, rfl, mst⟩
  have s1 : D + 1 ≤ w1.heap.size := by have := b1.size; rw [hs0.out] at this; exact this
  obtain ⟨K1, hK1⟩ : ∃ K1, w1.alloc (.cells #[.slice xn LA.length cxn, .slice yn PA.length cyn, .slice zn GA.length czn, .int .i64 qa] 34) = K1 := ⟨_, rfl⟩
  have q3 : Below w1.heap.size w1 K1 := by subst hK1; exact below_alloc _ _
  have k : K1.heap[w1.heap.size]? = some (.cells #[.slice xn LA.length cxn, .slice yn PA.length cyn, .slice zn GA.length czn, .int .i64 qa] 34) := by subst hK1; exact al1 _ _
  have sk : w1.heap.size < K1.heap.size := box_lt k
  obtain ⟨y0, y1, y2, y3⟩ := box4_cells k
  have HM : Hid (MineT K1 w1.heap.size w1.heap.size xn LA) ∨ True := .inr trivial
  have mx : MineT w1 W0.heap.size w1.heap.size xn LA := mst.1.1
  have MX : Hid (MineT K1 W0.heap.size w1.heap.size xn LA) := Mine.below mx q3
  have gg : Hid _ := Below.comp (Below.comp b0 b1) q3
  clear x0 x1 x2 x3 cW mst mx HM b1 q3 k
  go_wp2
  refine bodyPost_ret (v := .tuple #[.slice xn LA.length cxn, .bool OK]) (by simp [results, Tryd.results38, go_sem]) rfl ?_
  exact ⟨gg.out, xn, cxn, rfl, Mine.mono MX.out (by rw [hs0.out, HD.out]; omega) (by omega)⟩
end Go.Proofs.YtmijalmihfgolaaDoor
