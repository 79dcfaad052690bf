import Derived.Test.YtmijalmihfgolaaDoorXA
/- WriteBack: the program, whole. -/
namespace Go.Proofs.YtmijalmihfgolaaDoor
open Go.ChangeShapes Go.WideShapes Go.ChangeAt Go.RowKit
set_option linter.unusedVariables false
open Tx

attribute [local go_sem] Oper.semAt_some

set_option maxRecDepth 20000 in
set_option maxHeartbeats 1600000 in
theorem implWriteBackW (x y z : Option Addr) (cx cy cz : Nat) (L : List ByteArray) (P : List Wr) (G : List ByteArray) (q : Int) (w : World) (a : Addr) (ok : SOk L P G cz q) (ha : StAt w x y z L P G) (hS : Sn w a)
    (R : Bool) (L' : List ByteArray) (P' : List Wr) (Ls' : List (List Wr)) (q' : Int) (hLs : gdS L P G q = true → R = true → Ls'.length ≤ 40 ∧ ∀ i, i < Ls'.length → txB 32 (gl Ls' i) = true)
    (hdo : gdS L P G q = true → ∀ (W : World) (B o : Nat) (x y : Option Addr) (cx cy : Nat) (v : Value), Below w.heap.size w W → w.heap.size ≤ B → B ≤ o → OB W o (.slice x L.length cx) (.slice y P.length cy) v q → MineT W B W.heap.size x L → MineW W B W.heap.size y P → LogR W B B v (G.map rdL) →
      Calls Tryd.prog 66 (#[.pointer (some ⟨o, 0, none⟩)] ++ #[]) W fun e w' => DoR W w' e a B o R L' P' Ls' q') :
    Calls Tryd.prog 27 #[stv x L.length cx y P.length cy z G.length cz q] w fun e w' => StB w w' e (gdS L P G q && R) L' P' (txs Ls') q' := by
  obtain ⟨D, hD0⟩ : ∃ D, w.heap.size = D := ⟨_, rfl⟩
  have HD : Hid (w.heap.size = D) := hD0
  obtain ⟨W0, hW0⟩ : ∃ W0, (w.alloc (.cells #[.slice x L.length cx, .slice y P.length cy, .slice z G.length cz, .int .i64 q] 34)).alloc (.cells #[.slice none 0 0, .slice none 0 0, .slice none 0 0, .int .i64 0] 34) = W0 := ⟨_, rfl⟩
  have b0 : Below w.heap.size w W0 := by subst hW0; exact ba2 _ _ _
  have h2 : Hid (W0.heap[D]? = some (.cells #[.slice x L.length cx, .slice y P.length cy, .slice z G.length cz, .int .i64 q] 34 (0, 0)) ∧ W0.heap[D + 1]? = some (.cells #[.slice none 0 0, .slice none 0 0, .slice none 0 0, .int .i64 0] 34 (0, 0))) := by subst hW0 hD0; exact al2 _ _ _
  have hs0 : Hid (W0.heap.size = D + 2) := by subst hW0 hD0; rw [Hid, sz1, sz1]
  have cW := with_any 66 #[] (enters_of Tryd.func66 (by kernel_rfl) (by kernel_rfl)) x y z cx cy cz L P G q W0 a ok (ha.below b0) (hS.on b0) R L' P' Ls' q' hLs
    (fun h W B o x' y' cx' cy' v hb hB ho hO mx my hl => hdo h W B o x' y' cx' cy' v (Below.comp b0 hb) (Nat.le_trans b0.size hB) ho hO mx my hl)
  unfold StB StR at cW ⊢
  generalize (gdS L P G q && R) = OK at cW ⊢
  generalize (bif OK then L' else []) = LA at cW ⊢
  generalize (bif OK then P' else []) = PA at cW ⊢
  generalize (bif OK then txs Ls' else []) = GA at cW ⊢
  generalize (bif OK then q' else 0) = qa at cW ⊢
  obtain ⟨x0, x1, x2, x3⟩ := box4_cells h2.out.1
  go_enter Tryd.func27, Tryd.ntmps27
  go_wp2_with fail
  refine cW.mono ?_
  rintro e w1 ⟨b1, xn, cxn, yn, cyn, zn, czn, rfl, mst⟩
  have k2 := box_on h2.out.2 b1
  have s1 : D + 2 ≤ w1.heap.size := by have := b1.size; rw [hs0.out] at this; exact this
  obtain ⟨d0, d1, d2, d3⟩ := box4_cells k2
  obtain ⟨p0, p1, p2, p3⟩ := box4_free k2
  clear x0 x1 x2 x3 cW
  go_wp2
  have hset := box4_set k2 (x0 := .slice xn LA.length cxn) (x1 := .slice yn PA.length cyn) (x2 := .slice zn GA.length czn) (x3 := .int .i64 qa)
  have hout := set4_out w1 (D + 1) (.slice xn LA.length cxn) (.slice yn PA.length cyn) (.slice zn GA.length czn) (.int .i64 qa)
  obtain ⟨u0, u1, u2, u3⟩ := box4_cells hset
  have sF := hout.size
  rw [hs0.out] at mst
  refine bodyPost_ret (v := .tuple #[stv xn LA.length cxn yn PA.length cyn zn GA.length czn qa, .bool OK]) (by simp [results, Tryd.results27, go_sem, u0, u1, u2, u3]) rfl ⟨?_, xn, cxn, yn, cyn, zn, czn, rfl, (mst.out hout (.inr (Nat.le_refl _))).mono (by rw [HD.out]; omega) (by omega)⟩
  exact (Below.comp b0 b1).trans ((Out.below hout (by omega)).mono (by rw [HD.out]; omega))

theorem implBack_any (x y z : Option Addr) (cx cy cz : Nat) (L : List ByteArray) (P : List Wr) (G : List ByteArray) (q : Int) (w : World) (a : Addr) (ok : SOk L P G cz q) (ha : StAt w x y z L P G) (hS : Sn w a) :
    Calls Tryd.prog 27 #[stv x L.length cx y P.length cy z G.length cz q] w fun e w' => StB w w' e (gdS L P G q && decide (P.length + (wrs (G.take q.toNat)).length ≤ 60)) L (P ++ wrs (G.take q.toNat)) G q := by
  have K := implWriteBackW x y z cx cy cz L P G q w a ok ha hS (decide (P.length + (wrs (G.take q.toNat)).length ≤ 60)) L (P ++ wrs (G.take q.toNat)) (G.map rdL) q (fun h _ => map_ok h)
    (fun h W B o x' y' cx' cy' v hb hB ho hO mx my hl => backDo a L P G q h W B o x' y' cx' cy' v (hS.on hb) ho hO mx my hl)
  refine K.mono fun e w' h => ?_
  exact h.congr fun hg => ⟨rfl, rfl, txs_map (gd_parts (Bool.and_eq_true_iff.1 hg).1).2.2.2.2.1, rfl⟩
end Go.Proofs.YtmijalmihfgolaaDoor
