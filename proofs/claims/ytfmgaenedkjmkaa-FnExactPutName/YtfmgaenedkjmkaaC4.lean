import Derived.Test.YtfmgaenedkjmkaaC3
import Derived.Test.YtfmgaenedkjmkaaH3
/- The program: a name that goes. -/
namespace Go.Proofs.Ytfmgaenedkjmkaa
open Go.ChangeShapes Go.WideShapes Go.ChangeAt Go.RowKit
set_option linter.unusedVariables false
open Hd

attribute [local go_sem] Oper.semAt_some

/-- What a name that goes leaves. -/
def DpOk (d : Dr) (s : ByteArray) (D : Dr) (B : Bool) : Prop :=
  (¬ (GS d ∧ isN s = true) → B = false) ∧ (B = false → D = ⟨0, [], []⟩) ∧ (GS d → isN s = true → ∃ k, AtN (bkL d s) s k ∧ B = hasN (bkL d s) s k ∧ (B = true → D = exD d (bkN d s) (exR (bkL d s) s k [])))
theorem dp_ex (d : Dr) (s : ByteArray) : ∃ D B, DpOk d s D B := by
  by_cases h : GS d ∧ isN s = true
  · obtain ⟨k, hk⟩ := at_ex (bkL d s) s
    cases hh : hasN (bkL d s) s k with
    | false => exact ⟨_, false, fun _ => rfl, fun _ => rfl, fun _ _ => ⟨k, hk, hh.symm, fun q => by cases q⟩⟩
    | true => exact ⟨_, true, fun q => absurd h q, fun q => absurd q (by simp), fun _ _ => ⟨k, hk, hh.symm, fun _ => rfl⟩⟩
  · exact ⟨_, false, fun _ => rfl, fun _ => rfl, fun h1 h2 => absurd ⟨h1, h2⟩ h⟩
theorem DpOk.look {d : Dr} {s : ByteArray} {D : Dr} {B : Bool} (h : DpOk d s D B) : ∃ N, LoOk d s N B := by
  by_cases q : GS d ∧ isN s = true
  · obtain ⟨k, hk, hB, -⟩ := h.2.2 q.1 q.2
    exact ⟨_, fun q' => absurd q q', fun _ _ => ⟨k, hk, hB, rfl⟩⟩
  · exact ⟨0, fun _ => ⟨rfl, h.1 q⟩, fun h1 h2 => absurd ⟨h1, h2⟩ q⟩
theorem own_zero (w : World) (B C : Nat) : DOwn w B C (.agg #[.int .i64 0, .slice none 0 0, .slice none 0 0]) ⟨0, [], []⟩ := ⟨_, none, 0, 0, rfl, Nat.le_refl _, IB.nil, fun h => absurd rfl h⟩
set_option maxHeartbeats 4000000 in
theorem implDrop_any (v : Value) (d : Dr) (s : ByteArray) (w : World) (hsm : Sml d) (hf : FewD d) (hs : s.size ≤ 9223372036854775807) (hc : DirAt w v d) {D : Dr} {B : Bool} (hDB : DpOk d s D B) :
    Calls Try.prog 16 #[v, .string s] w fun e w' => Below w.heap.size w w' ∧ ∃ v', e = .returned (.tuple #[v', .bool B]) ∧ DOwn w' w.heap.size w'.heap.size v' D := by
  obtain ⟨N, hNB⟩ := hDB.look
  have cL := fun W x h => implLook_any x d s W hsm hf hs h hNB
  have HX : Hid (∀ W x, DirAt W x d → B = true → Calls Try.prog 42 #[x, .string s, .slice none 0 0] W fun e w' => Below W.heap.size W w' ∧ ∃ v', e = .returned v' ∧ DOwn w' W.heap.size w'.heap.size v' D) := fun W x h hB => by
    have hG : GS d ∧ isN s = true := Classical.byContradiction fun q => by have := hDB.1 q; rw [hB] at this; cases this
    obtain ⟨k, hk, -, hD⟩ := hDB.2.2 hG.1 hG.2
    rw [hD hB]
    exact exchange_any x d s none 0 [] k W hsm hG.1 hs (by simp) (fun q => absurd rfl q) hk h
  have HZ : Hid (B = false → D = ⟨0, [], []⟩) := hDB.2.1
  obtain ⟨a, c, a', c', rfl, hca, hca', ha, ha'⟩ := hc
  have HD : Hid (∀ W, Below w.heap.size w W → DirAt W (dv d.dp a d.sl.length c a' d.bs.length c') d) := fun W h => ⟨a, c, a', c', rfl, hca, hca', ha.below h, ha'.below h⟩
  clear ha ha' hca hca' hsm hf hDB hNB
  unfold dv at *
  generalize d.dp = DP at *
  generalize d.sl.length = n at *
  generalize d.bs.length = m at *
  obtain ⟨W0, hW0⟩ : ∃ W0, (w.alloc (.cells #[.int .i64 DP, .slice a n c, .slice a' m c'] 32)).alloc Z27 = W0 := ⟨_, rfl⟩
  have q0 : Below w.heap.size w W0 := by subst hW0; exact ba2 _ _ _
  obtain ⟨B1, B2⟩ : W0.heap[w.heap.size]? = some (.cells #[.int .i64 DP, .slice a n c, .slice a' m c'] 32 (0, 0)) ∧ W0.heap[w.heap.size + 1]? = some (.cells #[.int .i64 0, .slice none 0 0, .slice none 0 0] 32 (0, 0)) := by subst hW0; exact al2 _ _ _
  have HA : Hid _ := B1
  have HB : Hid _ := B2
  obtain ⟨x0, x1, x2, -, -, -⟩ := box3_cells B1
  clear B1 B2
  go_enter Try.func16, Try.ntmps16
  go_wp2_with fail
  refine (cL _ _ (HD.out _ q0)).mono ?_
  rintro e w1 ⟨rfl, b1⟩
  have g1 := Below.comp q0 b1
  clear x0 x1 x2 hW0 cL
  have z0 := box_lt (box_on HB.out b1)
  obtain ⟨x0, x1, x2, -, -, -⟩ := box3_cells (box_on HA.out b1)
  cases B with
  | false =>
    have hb1 := box_on HB.out b1
    obtain ⟨f0, f1, f2, f3, f4, f5⟩ := box3_cells hb1
    go_wp2_with fail
    obtain ⟨t0, t1, t2, -, -, -⟩ := box3_cells (box3_set hb1 (x0 := .int .i64 0) (x1 := .slice none 0 0) (x2 := .slice none 0 0))
    refine bodyPost_ret (v := .tuple #[.agg #[.int .i64 0, .slice none 0 0, .slice none 0 0], .bool false]) (by simp [results, Try.results16, go_sem, t0, t1, t2]) rfl ⟨?_, _, rfl, ?_⟩
    · exact g1.trans ((box3_out _ _ _ _ _).below (by omega) |>.mono (by omega))
    · rw [HZ.out (by simp)]
      exact own_zero _ _ _
  | true =>
    have cX := HX.out w1 _ (HD.out _ g1) rfl
    go_wp2_with fail
    refine cX.mono ?_
    rintro e w2 ⟨b2, v2, rfl, own2⟩
    obtain ⟨xx, aa, cc, gs, rfl, h1, h2, h3⟩ := own2
    have own2 : DOwn w2 w1.heap.size w2.heap.size _ D := ⟨xx, aa, cc, gs, rfl, h1, h2, h3⟩
    have h2' := h2
    obtain ⟨ax, cx, rfl, -, -⟩ := h2'
    have Own2 : Hid _ := own2
    clear own2 h1 h2 h3 cX x0 x1 x2
    have hb1 := box_on (box_on HB.out b1) b2
    obtain ⟨f0, f1, f2, f3, f4, f5⟩ := box3_cells hb1
    go_wp2_with fail
    obtain ⟨t0, t1, t2, -, -, -⟩ := box3_cells (box3_set hb1 (x0 := .int .i64 D.dp) (x1 := .slice ax D.sl.length cx) (x2 := .slice aa D.bs.length cc))
    have o3 := box3_out w2 (w.heap.size + 1) (.int .i64 D.dp) (.slice ax D.sl.length cx) (.slice aa D.bs.length cc)
    have z2 := b2.size
    have z3 := o3.size
    refine bodyPost_ret (v := .tuple #[.agg #[.int .i64 D.dp, .slice ax D.sl.length cx, .slice aa D.bs.length cc], .bool true]) (by simp [results, Try.results16, go_sem, t0, t1, t2]) rfl ⟨?_, _, rfl, ?_⟩
    · exact (Below.comp g1 b2).trans (o3.below (by omega) |>.mono (by omega))
    · exact (DOwn.out Own2.out o3 (.inr (by omega))).mono (by have := g1.size; omega) z3
end Go.Proofs.Ytfmgaenedkjmkaa
