import Derived.Test.YtfmgaenedkjmkaaD2
/- The program: a bucket of the names that belong to a place. -/
namespace Go.Proofs.Ytfmgaenedkjmkaa
open Go.ChangeShapes Go.WideShapes Go.ChangeAt Go.RowKit
set_option linter.unusedVariables false
open Hd

attribute [local go_sem] Oper.semAt_some

abbrev Z63 : Obj := .cells #[.int .i64 0, .slice none 0 0] 63
set_option maxHeartbeats 2000000 in
theorem bucketAt_any (a : Option Addr) (l : List Nm) (cap q p : Nat) (w : World) (hn : l.length ≤ 1000) (hz : ∀ i, i < l.length → (gm l i).nm.size ≤ 9223372036854775807) (hq : q ≤ 62) (hc : Nms w a l) :
    Calls Try.prog 88 #[pv q p, .slice a l.length cap] w fun e w' => Below w.heap.size w w' ∧ ∃ x c g, e = .returned (.agg #[.int .i64 (q : Int), .slice x (hf q p l).length c]) ∧ NB w' w.heap.size w'.heap.size (.slice x (hf q p l).length c) (hf q p l) g := by
  obtain ⟨W0, hW0⟩ : ∃ W0, (w.alloc (.cells #[.int .i64 (q : Int), .int .i64 (p : Int)] 92)).alloc Z63 = W0 := ⟨_, rfl⟩
  have q0 : Below w.heap.size w W0 := by subst hW0; exact ba2 _ _ _
  obtain ⟨B1, B2⟩ : W0.heap[w.heap.size]? = some (.cells #[.int .i64 (q : Int), .int .i64 (p : Int)] 92 (0, 0)) ∧ W0.heap[w.heap.size + 1]? = some (.cells #[.int .i64 0, .slice none 0 0] 63 (0, 0)) := by subst hW0; exact al2 _ _ _
  have HA : Hid _ := B1
  have HB : Hid _ := B2
  have z0 := box_lt B2
  have HX : Hid (∀ W, Below W0.heap.size W0 W → Calls Try.prog 94 #[.slice a l.length cap, .func (.func 79) #[pv q p] #[]] W fun e w' => Below W.heap.size W w' ∧ ∃ x c, e = .returned (.slice x (hf q p l).length c) ∧ OwnN w' W.heap.size (.slice x (hf q p l).length c) (hf q p l)) := fun W h => namesThat_any a l cap 79 #[pv q p] #[] (fun x => decide (low (nh x.nm) q = p)) W hn (hc.below (Below.comp q0 h)) (fun args u => enters_of Try.func79 (by kernel_rfl) rfl args u) (fun i W' hi => hasName_any q p (gm l i) W' (hz i hi) hq)
  clear B1 B2 hc hz
  obtain ⟨R, hR⟩ : ∃ R, hf q p l = R := ⟨_, rfl⟩
  rw [hR] at HX
  rw [hR]
  clear hR
  obtain ⟨n, hln⟩ : ∃ n, l.length = n := ⟨_, rfl⟩
  rw [hln] at hn HX ⊢
  clear hln
  unfold pv at *
  have SB : Hid (∀ W, Out (w.heap.size + 1) (w.heap.size + 2) W0 W → W.cell? ⟨w.heap.size, 0, none⟩ = some (.int .i64 (q : Int)) ∧ W.cell? ⟨w.heap.size, 1, none⟩ = some (.int .i64 (p : Int)) ∧ Out (w.heap.size + 1) (w.heap.size + 2) W0 W) := fun W z => ⟨(box2_cells (box_out HA.out z (by omega))).1, (box2_cells (box_out HA.out z (by omega))).2.1, z⟩
  go_enter Try.func88, Try.ntmps88
  go_upto_region 1 with fail
  clear hW0
  go_region_held3 (fun W => W.cell? ⟨w.heap.size, 0, none⟩ = some (.int .i64 (q : Int)) ∧ W.cell? ⟨w.heap.size, 1, none⟩ = some (.int .i64 (p : Int)) ∧ Out (w.heap.size + 1) (w.heap.size + 2) W0 W)
    ((refine SB.out _ ?_; first | assumption | exact Out.of_below (Below.drew (Below.refl _ _)) | exact Out.of_below (Below.refl _ _) | exact (oA.setCell (Nat.le_refl _) (Nat.lt_succ_self _) _ _).setCell (Nat.le_refl _) (Nat.lt_succ_self _) _ _))
    (first
    | (go_at_call 94; refine (HX.out _ (Below.drew (Below.refl _ _))).mono ?_; rintro e w8 ⟨b8, x, cx, rfl, hN8⟩; have b78 : Below W0.heap.size W0 w8 := Below.comp (Below.drew (Below.refl W0.heap.size W0)) b8; have oA : Out (w.heap.size + 1) (w.heap.size + 2) W0 w8 := Out.of_below b78; have HB8 : Hid (w8.heap[w.heap.size + 1]? = some (.cells #[.int .i64 0, .slice none 0 0] 63 (0, 0))) := box_on HB.out b78; obtain ⟨f0, f1, f2, f3⟩ := box2_cells HB8.out))
  go_wp2_with fail
  have hB2 := box2_set HB8.out (x0 := .int .i64 (q : Int)) (x1 := .slice x R.length cx)
  have o2 := box2_out w8 (w.heap.size + 1) (.int .i64 (q : Int)) (.slice x R.length cx)
  obtain ⟨wb, hwb⟩ : ∃ wb, (w8.setCell ⟨w.heap.size + 1, 0, none⟩ (.int .i64 (q : Int))).setCell ⟨w.heap.size + 1, 1, none⟩ (.slice x R.length cx) = wb := ⟨_, rfl⟩
  rw [hwb] at hB2 o2
  rw [hwb]
  clear hwb
  obtain ⟨t0, t1, -, -⟩ := box2_cells hB2
  obtain ⟨g, hN9⟩ := hN8.nb
  have z1 := b78.size
  have z2 := o2.size
  refine bodyPost_ret (v := .agg #[.int .i64 (q : Int), .slice x R.length cx]) (by simp [results, Try.results88, go_sem, t0, t1]) rfl ⟨?_, x, cx, g, rfl, ?_⟩
  · exact (Below.comp q0 b78).trans ((o2.below (by omega)).mono (by omega))
  · exact (hN9.out' o2 (.inr (by simp; omega))).mono (by simp; omega) (by omega)
end Go.Proofs.Ytfmgaenedkjmkaa
