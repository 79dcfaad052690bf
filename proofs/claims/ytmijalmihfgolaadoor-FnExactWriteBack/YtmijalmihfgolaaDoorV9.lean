import Derived.Test.YtmijalmihfgolaaDoorV8
/- withOpenStore, whatever is done in it. -/
namespace Go.Proofs.YtmijalmihfgolaaDoor
open Go.ChangeShapes Go.WideShapes Go.ChangeAt Go.RowKit
set_option linter.unusedVariables false
open Tx

attribute [local go_sem] Oper.semAt_some

/-- What an answer of a store tells: its rows in blocks of their own. -/
def StR (w w' : World) (e : Ending) (ok : Bool) (L : List ByteArray) (P : List Wr) (G : List ByteArray) (q : Int) : Prop :=
  Below w.heap.size w w' ∧ ∃ x cx y cy z cz, e = .returned (.tuple #[stv x L.length cx y P.length cy z G.length cz q, .bool ok]) ∧ MineSt w' w.heap.size w'.heap.size x y z L.length P.length G.length (gt L) (Tl P) (Ul P) (gt G)
def StB (w w' : World) (e : Ending) (ok : Bool) (L : List ByteArray) (P : List Wr) (G : List ByteArray) (q : Int) : Prop :=
  StR w w' e ok (bif ok then L else []) (bif ok then P else []) (bif ok then G else []) (bif ok then q else 0)
theorem StB.no {w w' : World} {L : List ByteArray} {P : List Wr} {G : List ByteArray} {q : Int} (hb : Below w.heap.size w w') : StB w w' (.returned (.tuple #[stv none 0 0 none 0 0 none 0 0 0, .bool false])) false L P G q :=
  ⟨hb, none, 0, none, 0, none, 0, rfl, ⟨mine_none _ _ _ _ _ _, mine_none _ _ _ _ _ _⟩, mine_none _ _ _ _ _ _, .inl rfl⟩
/-- What is done to an open store. -/
def DoR (W w' : World) (e : Ending) (a : Addr) (B o : Nat) (R : Bool) (L : List ByteArray) (P : List Wr) (Ls : List (List Wr)) (q : Int) : Prop :=
  Below B W w' ∧ (R = true → e = .returned (.tuple #[]) ∧ ∃ x cx y cy v, OB w' o (.slice x L.length cx) (.slice y P.length cy) v q ∧ MineT w' B w'.heap.size x L ∧ MineW w' B w'.heap.size y P ∧ LogAt w' v Ls) ∧ (R = false → e = giveUp a)

theorem apt_of {w : World} {B C B' C' : Nat} {e e' : TypeId} {n m : Nat} {x z : Option Addr} {p p' : Array Value → Prop} (hx : Mine w B C e n x p) (hz : Mine w B' C' e' m z p') (h : C ≤ B') : Apt n x m z := by
  rcases hx with h0 | ⟨b, c, h1, h2, h3, h4, h5⟩
  · exact .inl h0
  · rcases hz with k0 | ⟨b', c', k1, k2, k3, k4, k5⟩
    · exact .inr (.inl k0)
    · refine .inr (.inr fun a a' ha ha' => ?_)
      rw [h3] at ha
      rw [k3] at ha'
      cases ha
      cases ha'
      show b ≠ b'
      omega

set_option maxRecDepth 20000 in
set_option maxHeartbeats 8000000 in
theorem with_any (f : FuncId) (caps : Array Value) (hf : ∀ (args : Array Value) (w : World), (callFunc f args).run Tryd.prog w = .ok (.enter f args) w)
    (x y z : Option Addr) (cx cy cz : Nat) (L : List ByteArray) (P : List Wr) (G : List ByteArray) (q : Int) (w : World) (a : Addr) (ok : SOk L P G cz q) (ha : StAt w x y z L P G) (hS : Sn w a)
    (R : Bool) (L' : List ByteArray) (P' : List Wr) (Ls' : List (List Wr)) (q' : Int) (hLs : gdS L P G q = true → R = true → Ls'.length ≤ 40 ∧ ∀ i, i < Ls'.length → txB 32 (gl Ls' i) = true)
    (hdo : gdS L P G q = true → ∀ (W : World) (B o : Nat) (x y : Option Addr) (cx cy : Nat) (v : Value), Below w.heap.size w W → w.heap.size ≤ B → B ≤ o → OB W o (.slice x L.length cx) (.slice y P.length cy) v q → MineT W B W.heap.size x L → MineW W B W.heap.size y P → LogR W B B v (G.map rdL) →
      Calls Tryd.prog f (#[.pointer (some ⟨o, 0, none⟩)] ++ caps) W fun e w' => DoR W w' e a B o R L' P' Ls' q') :
    Calls Tryd.prog 49 #[stv x L.length cx y P.length cy z G.length cz q, .func (.func f) #[] caps] w fun e w' => StB w w' e (gdS L P G q && R) L' P' (txs Ls') q' := by
  have hmf : ∀ (fn : Fn) (first cap : Array Value) (w : World), (Instr.makeFunc fn first cap).run Tryd.prog w = .ok (.func fn first cap) w := fun _ _ _ _ => rfl
  obtain ⟨D, hD0⟩ : ∃ D, w.heap.size = D := ⟨_, rfl⟩
  have HD : Hid (w.heap.size = D) := hD0
  obtain ⟨W0, hW0⟩ : ∃ W0, ((w.alloc (.cells #[.slice x L.length cx, .slice y P.length cy, .slice z G.length cz, .int .i64 q] 34)).alloc (.cells #[.slice none 0 0, .slice none 0 0, .slice none 0 0, .int .i64 0] 34)).alloc (.cells #[.bool false] 4) = W0 := ⟨_, rfl⟩
  have b0 : Below w.heap.size w W0 := by subst hW0; exact ba3 _ _ _ _
  have h3 : Hid (W0.heap[D]? = some (.cells #[.slice x L.length cx, .slice y P.length cy, .slice z G.length cz, .int .i64 q] 34 (0, 0)) ∧ W0.heap[D + 1]? = some (.cells #[.slice none 0 0, .slice none 0 0, .slice none 0 0, .int .i64 0] 34 (0, 0)) ∧ W0.heap[D + 1 + 1]? = some (.cells #[.bool false] 4 (0, 0))) := by subst hW0 hD0; exact al3 _ _ _ _
  have hs0 : Hid (W0.heap.size = D + 3) := by subst hW0 hD0; rw [Hid, sz1, sz1, sz1]
  have cO := opened_any x y z cx cy cz L P G q W0 a ok (ha.below b0) (hS.on b0)
  have HLs : Hid _ := hLs
  have HDo : Hid _ := hdo
  clear hLs hdo
  generalize hgd : gdS L P G q = GD at *
  unfold OpRes at cO
  obtain ⟨x0, x1, x2, x3⟩ := box4_cells h3.out.1
  cases GD with
  | false =>
    go_enter_defers Tryd.func49, Tryd.ntmps49
    go_wp2_with (go_at_call 85; refine cO.mono ?_; rintro e w1 ⟨b1, _, he⟩; have he' := he rfl; subst he')
    have hr1 := box_on h3.out.2.1 b1
    have hr2 := box_on h3.out.2.2 b1
    refine leaves_cons (f := 84) (args := #[.pointer (some ⟨D + 1, 0, none⟩), .pointer (some ⟨D + 1 + 1, 0, none⟩)]) (by simp) (by simp [go_sem]) ?_
    refine (catch_panicking (D + 1) (D + 1 + 1) _ _ _ _ _ 117 _ [] _ hr1 hr2 (by omega)).mono ?_
    rintro e u' w2 ⟨rfl, rfl, k1, k2, k3⟩
    obtain ⟨c0, c1, c2, c3⟩ := box4_cells k1
    obtain ⟨c4, _⟩ := box1_cells k2
    have hfin : StB w w2 (.returned (.tuple #[stv none 0 0 none 0 0 none 0 0 0, .bool false])) false L' P' (txs Ls') q' := StB.no ((Below.comp b0 b1).trans (k3 w.heap.size (by rw [HD.out]; omega) (by rw [HD.out]; omega) (Below.comp b0 b1).size))
    simp [Leaves, settle, results, Tryd.results49, go_sem, c0, c1, c2, c3, c4]
    exact hfin
  | true =>
    go_enter_defers Tryd.func49, Tryd.ntmps49
    go_wp2_with fail
    refine cO.mono ?_
    rintro e w1 ⟨b1, he, _⟩
    obtain ⟨x', cx', y', cy', v, rfl, mx, my, hlg⟩ := he (by simp)
    clear x0 x1 x2 x3
    obtain ⟨A, C, hown, _⟩ := id hlg
    obtain ⟨xv, cv, hv⟩ := owns_form hown
    subst hv
    clear hown
    obtain ⟨W2, hW2⟩ : ∃ W2, w1.alloc (.cells #[.slice x' L.length cx', .slice y' P.length cy', .slice xv (G.map rdL).length cv, .int .i64 q] 81) = W2 := ⟨_, rfl⟩
    have b2 : Below w1.heap.size w1 W2 := by subst hW2; exact below_alloc _ _
    have hO2 : OB W2 w1.heap.size (.slice x' L.length cx') (.slice y' P.length cy') (.slice xv (G.map rdL).length cv) q := by subst hW2; exact al1 _ _
    have hs1 := b1.size
    rw [hs0.out] at hs1 mx my hlg
    have cF := HDo.out (by simp) W2 (D + 3) w1.heap.size x' y' cx' cy' _ (Below.comp (Below.comp b0 b1) b2) (by rw [HD.out]; omega) hs1 hO2 ((mx.below b2).mono (Nat.le_refl _) b2.size) ((my.below b2).mono (Nat.le_refl _) b2.size) (LogR.below hlg b2)
    rw [List.length_map] at hW2
    have h31 : Hid _ := box_on (box_on h3.out.2.1 b1) b2
    have h32 : Hid _ := box_on (box_on h3.out.2.2 b1) b2
    have g2 : Hid _ := Below.comp (Below.comp b0 b1) b2
    have HT : Hid (D + 3 ≤ w1.heap.size) := hs1
    have hs2 : Hid (w1.heap.size < W2.heap.size) := box_lt hO2
    have HL2 : Hid _ := HLs.out (by simp)
    clear mx my hlg hs1 cO he
    go_wp2_with fail
    refine cF.mono ?_
    rintro e w3 ⟨b3, hy, hn⟩
    have h41 : w3.heap[D + 1]? = some (.cells #[.slice none 0 0, .slice none 0 0, .slice none 0 0, .int .i64 0] 34 (0, 0)) := (b3.block (D + 1) (by omega)).trans h31.out
    have h42 : w3.heap[D + 1 + 1]? = some (.cells #[.bool false] 4 (0, 0)) := (b3.block (D + 1 + 1) (by omega)).trans h32.out
    have g3 : Hid (Below w.heap.size w w3) := g2.out.trans (b3.mono (by rw [HD.out]; omega))
    cases R with
    | false =>
      have he := hn rfl
      subst he
      refine leaves_cons (f := 84) (args := #[.pointer (some ⟨D + 1, 0, none⟩), .pointer (some ⟨D + 1 + 1, 0, none⟩)]) (by simp) (by simp [go_sem]) ?_
      refine (catch_panicking (D + 1) (D + 1 + 1) _ _ _ _ _ 117 _ [] _ h41 h42 (by omega)).mono ?_
      rintro e u' w5 ⟨rfl, rfl, k1, k2, k3⟩
      obtain ⟨c0, c1, c2, c3⟩ := box4_cells k1
      obtain ⟨c4, _⟩ := box1_cells k2
      have hfin : StB w w5 (.returned (.tuple #[stv none 0 0 none 0 0 none 0 0 0, .bool false])) false L' P' (txs Ls') q' := StB.no (g3.out.trans (k3 w.heap.size (by rw [HD.out]; omega) (by rw [HD.out]; omega) g3.out.size))
      simp [Leaves, settle, results, Tryd.results49, go_sem, c0, c1, c2, c3, c4]
      exact hfin
    | true =>
      obtain ⟨he, xn, cxn, yn, cyn, vn, hOn, mxn, myn, hlgn⟩ := hy rfl
      subst he
      obtain ⟨hl40, hltx⟩ := HL2.out (by simp)
      have cC := closed_any w1.heap.size xn yn L'.length P'.length cxn cyn vn q' Ls' w3 hl40 hltx hOn hlgn
      have H41 : Hid _ := h41
      have H42 : Hid _ := h42
      have s3 : Hid (D + 3 ≤ w3.heap.size) := by have := b3.size; have := hs2.out; have := HT.out; exact (by omega : D + 3 ≤ w3.heap.size)
      clear h41 h42 hy hn
      go_wp2_with fail
      refine cC.mono ?_
      rintro e w4 ⟨b4, zn, czn, rfl, mzn⟩
      have k1 := box_on H41.out b4
      have k2 := box_on H42.out b4
      obtain ⟨c0, c1, c2, c3⟩ := box4_cells k1
      obtain ⟨f0, f1, f2, f3⟩ := box4_free k1
      obtain ⟨c4, f4⟩ := box1_cells k2
      have hset := box4_set k1 (x0 := .slice xn L'.length cxn) (x1 := .slice yn P'.length cyn) (x2 := .slice zn Ls'.length czn) (x3 := .int .i64 q')
      have hout := set4_out w4 (D + 1) (.slice xn L'.length cxn) (.slice yn P'.length cyn) (.slice zn Ls'.length czn) (.int .i64 q')
      obtain ⟨W5, hW5⟩ : ∃ W5, (((w4.setCell ⟨D + 1, 0, none⟩ (.slice xn L'.length cxn)).setCell ⟨D + 1, 1, none⟩ (.slice yn P'.length cyn)).setCell ⟨D + 1, 2, none⟩ (.slice zn Ls'.length czn)).setCell ⟨D + 1, 3, none⟩ (.int .i64 q') = W5 := ⟨_, rfl⟩
      rw [hW5] at hset hout
      have k2' := box_out k2 hout (by omega)
      obtain ⟨c4', f4'⟩ := box1_cells k2'
      go_wp2
      have o6 := out_setCell W5 (D + 1 + 1) 0 (.bool true)
      have j1 := box_out hset o6 (by omega)
      have j2 : (W5.setCell ⟨D + 1 + 1, 0, none⟩ (.bool true)).heap[D + 1 + 1]? = some (.cells #[.bool true] 4 (0, 0)) := by rw [block_setz k2']; rfl
      obtain ⟨W6, hW6⟩ : ∃ W6, W5.setCell ⟨D + 1 + 1, 0, none⟩ (.bool true) = W6 := ⟨_, rfl⟩
      rw [hW6] at j1 j2 o6 ⊢
      obtain ⟨d0, d1, d2, d3⟩ := box4_cells j1
      obtain ⟨d4, _⟩ := box1_cells j2
      have s34 := b4.size
      have s45 := hout.size
      have s56 := o6.size
      have s3' := s3.out
      have mx6 := (((mxn.below b4).out hout (.inr (by omega))).out o6 (.inr (by omega)))
      have my6 := (((myn.below b4).out hout (.inr (by omega))).out o6 (.inr (by omega)))
      have mz6 := ((mzn.out hout (.inr (by omega))).out o6 (.inr (by omega)))
      have hb6 : Below w.heap.size w W6 := ((Below.comp g3.out b4).trans ((Out.below hout (by omega)).mono (by rw [HD.out]; omega))).trans ((Out.below o6 (by omega)).mono (by rw [HD.out]; omega))
      have hlt := txs_len Ls'
      have hfin : StB w W6 (.returned (.tuple #[stv xn L'.length cxn yn P'.length cyn zn Ls'.length czn q', .bool true])) true L' P' (txs Ls') q' := by
        refine ⟨hb6, xn, cxn, yn, cyn, zn, czn, ?_, ⟨mx6.mono (by rw [HD.out]; omega) (by omega), my6.mono (by rw [HD.out]; omega) (by omega)⟩, mz6.mono (by rw [HD.out]; omega) (by omega), apt_of mx6 mz6 (Nat.le_refl _)⟩
        simp only [cond_true]
        rw [hlt]
      refine leaves_cons (f := 84) (args := #[.pointer (some ⟨D + 1, 0, none⟩), .pointer (some ⟨D + 1 + 1, 0, none⟩)]) (by simp) (by simp [go_sem]) ?_
      refine (catch_idle (D + 1) (D + 1 + 1) _).mono ?_
      rintro e u' w7 ⟨rfl, rfl, rfl⟩
      simp [Leaves, settle, results, Tryd.results49, go_sem, d0, d1, d2, d3, d4]
      exact hfin
end Go.Proofs.YtmijalmihfgolaaDoor
