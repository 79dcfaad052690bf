import Derived.Test.YtmijalmihfgolaaDoorV9
/- A function that has a body is entered; a store good: the program's side. -/
namespace Go.Proofs.YtmijalmihfgolaaDoor
open Go.ChangeShapes Go.WideShapes Go.ChangeAt Go.RowKit
set_option linter.unusedVariables false
open Tx

attribute [local go_sem] Oper.semAt_some

theorem enters_of {f : FuncId} {fn : Func} (hf : Tryd.prog.funcs[f]? = some fn) (hn : (fn.name == "runtime.NumGoroutine") = false) (hb : fn.body.isNone = false) (args : Array Value) (w : World) : (callFunc f args).run Tryd.prog w = .ok (.enter f args) w := by
  have h1 : ¬ fn.name = "runtime.NumGoroutine" := by simpa using hn
  have h2 : ¬ fn.body = none := fun h => by rw [h] at hb; cases hb
  simp [go_sem, callFunc, hf, h1, h2]
theorem txs_map {n : Nat} {G : List ByteArray} (h : G.all (okG n) = true) : txs (G.map rdL) = G := by
  unfold txs
  rw [List.map_map]
  have : ∀ g ∈ G, (tx ∘ rdL) g = g := fun g hg => rdB_tx (okG_iff.1 (List.all_eq_true.1 h g hg)).1
  rw [List.map_congr_left this]
  simp
theorem gd_parts {L : List ByteArray} {P : List Wr} {G : List ByteArray} {q : Int} (h : gdS L P G q = true) : gdD L P = true ∧ G.length ≤ 40 ∧ 0 ≤ q ∧ q ≤ G.length ∧ G.all (okG L.length) = true ∧ (P.all fun x => memW x (wrs (G.take q.toNat))) = true := by
  simp only [gdS, Bool.and_eq_true] at h
  obtain ⟨h1, h2, h3, h4, h5⟩ := h
  exact ⟨h1, of_decide_eq_true h2, (of_decide_eq_true h3).1, (of_decide_eq_true h3).2, h4, h5⟩
theorem gl_map {G : List ByteArray} {i : Nat} (h : i < G.length) : gl (G.map rdL) i = rdL (gt G i) := by rw [gl_lt (by rw [List.length_map]; exact h), List.getElem_map, gt_lt h]
theorem map_ok {L : List ByteArray} {P : List Wr} {G : List ByteArray} {q : Int} (h : gdS L P G q = true) : (G.map rdL).length ≤ 40 ∧ ∀ i, i < (G.map rdL).length → txB 32 (gl (G.map rdL) i) = true := by
  obtain ⟨h1, h2, _, _, h5, _⟩ := gd_parts h
  refine ⟨by rw [List.length_map]; exact h2, fun i hi => ?_⟩
  rw [List.length_map] at hi
  rw [gl_map hi]
  exact rdB_ok (okG_iff.1 (List.all_eq_true.1 h5 (gt G i) (by rw [gt_lt hi]; exact List.getElem_mem _))).1

set_option maxRecDepth 20000 in
set_option maxHeartbeats 1600000 in
theorem implGoodS_any (x y z : Option Addr) (cx cy cz : Nat) (L : List ByteArray) (P : List Wr) (G : List ByteArray) (q : Int) (w : World) (a : Addr) (ok : SOk L P G cz q) (ha : StAt w x y z L P G) (hS : Sn w a) :
    Calls Tryd.prog 14 #[stv x L.length cx y P.length cy z G.length cz q] w fun e w' => e = .returned (.bool (gdS L P G q)) ∧ Below w.heap.size w w' := by
  obtain ⟨W0, hW0⟩ : ∃ W0, w.alloc (.cells #[.slice x L.length cx, .slice y P.length cy, .slice z G.length cz, .int .i64 q] 34) = W0 := ⟨_, rfl⟩
  have b0 : Below w.heap.size w W0 := by subst hW0; exact below_alloc _ _
  have cW := with_any 50 #[] (enters_of Tryd.func50 (by kernel_rfl) (by kernel_rfl)) x y z cx cy cz L P G q W0 a ok (ha.below b0) (hS.on b0) true L P (G.map rdL) q (fun h _ => map_ok h)
    (fun h W B o x' y' cx' cy' v hb hB ho hO mx my hl => by
      refine Calls.mono (R := fun e w' => e = .returned (.tuple #[]) ∧ w' = W) ?_ ?_
      · go_enter Tryd.func50, Tryd.ntmps50
        go_wp2
        go_end0
        exact ⟨rfl, rfl⟩
      · rintro e w' ⟨rfl, rfl⟩
        exact ⟨Below.refl _ _, fun _ => ⟨rfl, _, _, _, _, _, hO, mx, my, hl.at⟩, fun h => (by cases h)⟩)
  rw [Bool.and_true] at cW
  unfold StB StR at cW
  generalize gdS L P G q = GD at cW ⊢
  obtain ⟨x0, x1, x2, x3⟩ := box4_cells (show W0.heap[w.heap.size]? = some (.cells #[.slice x L.length cx, .slice y P.length cy, .slice z G.length cz, .int .i64 q] 34 (0, 0)) from by subst hW0; exact al1 _ _)
  go_enter Tryd.func14, Tryd.ntmps14
  go_wp2_with (go_at_call 49; refine cW.mono ?_; rintro e w1 ⟨b1, xn, cxn, yn, cyn, zn, czn, rfl, _⟩)
  go_ret
  exact ⟨rfl, Below.comp (Below.comp b0 b1) (below_alloc _ _)⟩
end Go.Proofs.YtmijalmihfgolaaDoor
