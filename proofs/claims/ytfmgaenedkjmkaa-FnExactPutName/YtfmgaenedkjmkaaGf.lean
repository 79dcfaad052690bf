import Derived.Test.YtfmgaenedkjmkaaGg
import Derived.Test.YtfmgaenedkjmkaaA1
import Derived.Test.YtfmgaenedkjmkaaC7
/- The specification: a bucket of one's own cut into two, the walk. -/
namespace Go.Proofs.Ytfmgaenedkjmkaa
open Go.ChangeShapes Go.WideShapes Go.ChangeAt Go.RowKit
set_option linter.unusedVariables false
open Hd

attribute [local go_sem] Oper.semAt_some

theorem GB.nms {w : World} {B gB m cap : Nat} {N : List Bk} {kb : Nat → Nat} (h : GB w B (.slice (some ⟨gB, 0, none⟩) m cap) N kb) (hm : N.length = m) {k : Nat} (hk : k < m) : ∃ na nc, w.cell? ⟨gB, k * 2, none⟩ = some (.int .i64 (gb N k).dp) ∧ w.cell? ⟨gB, k * 2 + 1, none⟩ = some (.slice na (gb N k).ns.length nc) ∧ Nms w na (gb N k).ns ∧ (gb N k).ns.length ≤ nc := by
  obtain ⟨⟨xs, ho, hx⟩, -⟩ := h
  obtain ⟨h0, p, h1, hb⟩ := hx k (by omega)
  obtain ⟨a, c, rfl, hc, hnm⟩ := hb.names
  rcases ho.2 with ⟨e1, -⟩ | ⟨g, cap', cur, e1, -, e3, e4, -, e5, e6⟩
  · cases e1
  · simp only [Value.slice.injEq, Option.some.injEq, Addr.mk.injEq] at e1
    obtain ⟨⟨rfl, -⟩, -, rfl⟩ := e1
    have at' : ∀ (j : Nat) (u : Value), xs[j]? = some u → cur[j]? = some u := fun j u hj => by
      rw [← e6, List.getElem?_take] at hj
      split at hj
      · simpa using hj
      · simp at hj
    exact ⟨a, c, cell_of_block e3 (at' _ _ h0), cell_of_block e3 (at' _ _ h1), hnm, hc⟩
theorem KeepT.out {w w' : World} {b : Nat} {c0 : Array Value} {t0 : TypeId} (hb : w.heap[b]? = some (.cells c0 t0 (0, 0))) (ht : t0 ≠ 63 ∧ t0 ≠ 36) (ho : Out b (b + 1) w w') : KeepT w w' :=
  ⟨ho.size, fun g c t hg h => by
    have hne : g ≠ b := fun e => by
      rw [e, hb] at hg
      simp only [Option.some.injEq, Obj.cells.injEq] at hg
      rcases h with h | h
      · exact ht.1 (hg.2.1.trans h)
      · exact ht.2 (hg.2.1.trans h)
    exact ho.block g (box_lt hg) (by omega)⟩
theorem cuS2_sl {d : Dr} {k q n m : Nat} (hn : d.sl.length = n) (hm : d.bs.length = m) {i : Nat} (hi : i < n) : gi (cuS2 d k q).sl i = if gi d.sl i = (k : Int) ∧ bit i q = 1 then (m : Int) else gi d.sl i := by
  unfold cuS2 gi
  simp only [List.getD_eq_getElem?_getD]
  rw [List.getElem?_map, List.getElem?_range (by omega), ← hm]
  rfl

theorem owns_ints {w : World} {Z c : Nat} {y : Option Addr} {l : List Int} (h : w.ownsRow Z 3 1 (.slice y l.length c) l.length (cis l)) (hn : 0 < l.length) : ∃ g cur, y = some ⟨g, 0, none⟩ ∧ Z ≤ g ∧ l.length ≤ c ∧ w.heap[g]? = some (.cells cur 3 (0, 0)) ∧ intsN l.length l cur := by
  rcases h.2 with ⟨e1, -⟩ | ⟨g, cap, cur, e1, hb, hc, hm, -, hz, ht⟩
  · simp only [Value.slice.injEq] at e1
    omega
  · simp only [Value.slice.injEq] at e1
    obtain ⟨rfl, -, rfl⟩ := e1
    refine ⟨g, cur, rfl, hb, hm, hc, fun i hi => ?_⟩
    have h1 : (cis l)[i]? = some (iv (gi l i)) := by
      unfold cis gi
      rw [List.getElem?_map, List.getD_eq_getElem?_getD, List.getElem?_eq_getElem hi]
      rfl
    rw [← ht, List.getElem?_take] at h1
    split at h1
    · simpa using h1
    · simp at h1

set_option maxHeartbeats 8000000 in
set_option maxRecDepth 20000 in
theorem l8Cut_any (v : Value) (d : Dr) (kb : Nat → Nat) (s : ByteArray) (w : World) (B : Nat) (hS : SpO w B v d kb) (hG : GU d) (hB : B ≤ w.heap.size) (hm8 : d.bs.length ≤ 900) :
    Calls Try.prog 36 #[v, .int .i64 (bkN d s : Int)] w fun z w' => Below B w w' ∧ w.heap.size ≤ w'.heap.size ∧ ((gb d.bs (bkN d s)).dp = 8 → ∃ (q : Int) (a1 : Option Addr) (n1 c1 : Nat) (a2 : Option Addr) (n2 c2 : Nat), z = .returned (.tuple #[.agg #[.int .i64 q, .slice a1 n1 c1, .slice a2 n2 c2], .bool false])) ∧ (¬ (gb d.bs (bkN d s)).dp = 8 → ∃ v' kb', z = .returned (.tuple #[v', .bool true]) ∧ SpO w' B v' (stS d s) kb') := by
  obtain ⟨gs, c, cs, vB, rfl, hsc, hgs, hcs, hin, hGB⟩ := hS
  obtain ⟨hsl, hsk, hkm, hvb⟩ := hG.slot s
  obtain ⟨hq1, hq2, hq3⟩ := hG.deep s
  obtain ⟨hok4, -, hokN⟩ := hG.ok s
  have hn2 : d.sl.length = 2 ^ d.dp.toNat := hG.g.2.2.1
  have hn8 : d.sl.length ≤ 1000 := by rw [hn2]; have := Nat.pow_le_pow_right (n := 2) (by omega) (show d.dp.toNat ≤ 8 by omega); omega
  have HGU : Hid (GU d) := hG
  obtain ⟨gB, cap, hvB, hgB⟩ : ∃ gB cap, vB = .slice (some ⟨gB, 0, none⟩) d.bs.length cap ∧ gB < w.heap.size := by
    obtain ⟨⟨xs, ho, -⟩, -⟩ := hGB
    rcases ho.2 with ⟨-, e2⟩ | ⟨g, cap', cur, e1, -, e3, -⟩
    · omega
    · exact ⟨g, cap', e1, box_lt e3⟩
  subst hvB
  have zgs := box_lt hcs
  obtain ⟨W0, hW0⟩ : ∃ W0, (w.alloc (.cells #[.int .i64 d.dp, .slice (some ⟨gs, 0, none⟩) d.sl.length c, .slice (some ⟨gB, 0, none⟩) d.bs.length cap] 32)).alloc (.cells #[.int .i64 0, .slice none 0 0, .slice none 0 0] 32) = W0 := ⟨_, rfl⟩
  have q0 : Below w.heap.size w W0 := by subst hW0; exact ba2 _ _ _
  obtain ⟨B1, B2⟩ : W0.heap[w.heap.size]? = some (.cells #[.int .i64 d.dp, .slice (some ⟨gs, 0, none⟩) d.sl.length c, .slice (some ⟨gB, 0, none⟩) d.bs.length cap] 32 (0, 0)) ∧ W0.heap[w.heap.size + 1]? = some (.cells #[.int .i64 0, .slice none 0 0, .slice none 0 0] 32 (0, 0)) := by subst hW0; exact al2 _ _ _
  have z0 := box_lt B2
  obtain ⟨na, nc, y0', y1', hNa1, hNa2⟩ := hGB.nms rfl hkm
  have y0 := cell_on y0' q0
  have y1 := cell_on y1' q0
  clear y0' y1'
  rw [hq1] at y0
  have hNa : Nms w na (gb d.bs (bkN d s)).ns ∧ (gb d.bs (bkN d s)).ns.length ≤ nc := ⟨hNa1, hNa2⟩
  clear hNa1 hNa2
  have HNa : Hid _ := hNa
  obtain ⟨F, hF⟩ : ∃ F, W0.heap.size = F := ⟨_, rfl⟩
  have HF' : Hid _ := hF
  obtain ⟨W1, hW1⟩ : ∃ W1, W0.alloc (.cells #[.int .i64 (dpN d s : Int), .slice na (gb d.bs (bkN d s)).ns.length nc] 63) = W1 := ⟨_, rfl⟩
  have q1 : Below W0.heap.size W0 W1 := by subst hW1; exact below_alloc _ _
  have q01 : Below w.heap.size w W1 := Below.comp q0 q1
  have HF : Hid (W1.heap[F]? = some (.cells #[.int .i64 (dpN d s : Int), .slice na (gb d.bs (bkN d s)).ns.length nc] 63 (0, 0))) := by subst hW1 hF; exact al1 _ _
  have HE : Hid (W1.heap[w.heap.size]? = some (.cells #[.int .i64 d.dp, .slice (some ⟨gs, 0, none⟩) d.sl.length c, .slice (some ⟨gB, 0, none⟩) d.bs.length cap] 32 (0, 0))) := box_on B1 q1
  have HZ : Hid (W1.heap[w.heap.size + 1]? = some (.cells #[.int .i64 0, .slice none 0 0, .slice none 0 0] 32 (0, 0))) := box_on B2 q1
  have HSl : Hid (W1.heap[gs]? = some (.cells cs 3 (0, 0)) ∧ intsN d.sl.length d.sl cs) := ⟨box_on hcs q01, hin⟩
  have HGB : Hid (GB W1 B (.slice (some ⟨gB, 0, none⟩) d.bs.length cap) d.bs kb) := hGB.keepT (KeepT.below q01)
  obtain ⟨x0, x1, x2, -, -, -⟩ := box3_cells B1
  obtain ⟨e0, e1, e2, e3, e4, e5⟩ := box3_cells HE.out
  obtain ⟨j0, j1, -, -⟩ := box2_cells HF.out
  obtain ⟨r0, r1, r2, r3, r4, r5⟩ := box3_cells HZ.out
  have hkm' : (bkN d s : Int) < (d.bs.length : Int) := by omega
  have HN : Hid (w.heap.size + 1 < F ∧ F < W1.heap.size ∧ gs < w.heap.size ∧ gB < w.heap.size ∧ B ≤ w.heap.size ∧ B ≤ gs) := ⟨by omega, box_lt HF.out, zgs, hgB, hB, hgs⟩
  have hok : (gb d.bs (bkN d s)).ns.length ≤ 4 := hok4
  have HokN : Hid (∀ x, x ∈ (gb d.bs (bkN d s)).ns → isN x.nm = true) := fun x hx => (hokN x hx).1
  have Hq1 : Hid _ := hq1
  clear B1 B2 hGB hcs hin hsl hsk hvb hokN hok4 hG hNa q0 q1 hq1 hn2
  obtain ⟨nl, hnl⟩ : ∃ nl, (gb d.bs (bkN d s)).ns.length = nl := ⟨_, rfl⟩
  have Hnl : Hid _ := hnl
  rw [hnl] at HF hW1 y1 j1 hok
  clear hnl
  generalize hDP : d.dp = DP at *
  generalize hn : d.sl.length = n at *
  generalize hm : d.bs.length = m at *
  generalize hk : bkN d s = k at *
  generalize hqn : dpN d s = qn at *
  have HD : Hid (d.dp = DP ∧ d.sl.length = n ∧ d.bs.length = m ∧ bkN d s = k ∧ dpN d s = qn) := ⟨hDP, hn, hm, hk, hqn⟩
  have HNm : Hid (gb d.bs (bkN d s) = gb d.bs k) := by show _ = _; rw [hk]
  clear hDP hn hm hk hqn
  by_cases hqd : (qn : Int) = DP
  · subst hqd
    by_cases h8 : (qn : Int) = 8
    · have h8' : ((qn : Int) == 8) = true := by simp [h8]
      have H8 : Hid _ := h8
      clear h8
      go_enter Try.func36, Try.ntmps36
      go_wp2_with fail
      obtain ⟨W9, hW9⟩ : ∃ W9, ((W1.setCell ⟨w.heap.size + 1, 0, none⟩ (.int .i64 (qn : Int))).setCell ⟨w.heap.size + 1, 1, none⟩ (.slice (some ⟨gs, 0, none⟩) n c)).setCell ⟨w.heap.size + 1, 2, none⟩ (.slice (some ⟨gB, 0, none⟩) m cap) = W9 := ⟨_, rfl⟩
      have o9 : Out (w.heap.size + 1) (w.heap.size + 1 + 1) W1 W9 := by subst hW9; exact (((Out.refl _ _ _).setCell (Nat.le_refl _) (Nat.lt_succ_self _) _ _).setCell (Nat.le_refl _) (Nat.lt_succ_self _) _ _).setCell (Nat.le_refl _) (Nat.lt_succ_self _) _ _
      have R9 : W9.heap[w.heap.size + 1]? = some (.cells #[.int .i64 (qn : Int), .slice (some ⟨gs, 0, none⟩) n c, .slice (some ⟨gB, 0, none⟩) m cap] 32 (0, 0)) := by subst hW9; exact box3_set HZ.out
      rw [hW9]
      clear hW9
      obtain ⟨t0, t1, t2, -, -, -⟩ := box3_cells R9
      have g2 := q01.size
      have g3 := o9.size
      refine bodyPost_ret (v := .tuple #[.agg #[.int .i64 (qn : Int), .slice (some ⟨gs, 0, none⟩) n c, .slice (some ⟨gB, 0, none⟩) m cap], .bool false]) (by simp [results, Try.results36, go_sem, t0, t1, t2]) rfl ⟨(q01.mono hB).trans ((o9.below (by have := HN.out.2.1; omega)).mono (by omega)), by omega, fun _ => ⟨_, _, _, _, _, _, _, rfl⟩, fun h => absurd ?_ h⟩
      rw [Hq1.out]
      exact H8.out
    · have h8' : ((qn : Int) == 8) = false := by simp [h8]
      have HW : Hid (wide d s = dbl d) := by show _ = _; unfold wide; rw [if_pos (by rw [HNm.out, Hq1.out, HD.out.1])]
      go_enter Try.func36, Try.ntmps36
      obtain ⟨W2, hW2⟩ : ∃ W2, W1.setCell ⟨w.heap.size, 0, none⟩ (.int .i64 ((qn : Int) + 1)) = W2 := ⟨_, rfl⟩
      have o2 : Out w.heap.size (w.heap.size + 1) W1 W2 := by subst hW2; exact out_setCell _ _ _ _
      have HE2 : Hid (W2.heap[w.heap.size]? = some (.cells #[.int .i64 ((qn : Int) + 1), .slice (some ⟨gs, 0, none⟩) n c, .slice (some ⟨gB, 0, none⟩) m cap] 32 (0, 0))) := by subst hW2; exact block_set HE.out
      obtain ⟨i0, i1, i2, i3, i4, i5⟩ := box3_cells HE2.out
      have g2 := q01.size
      have oo : Below w.heap.size w W2 := q01.trans (o2.below (by have := HN.out.2.1; omega))
      have HE0 : Hid (d.sl.length = n) := HD.out.2.1
      have hS2 : W2.heap[gs]? = some (.cells cs 3 (0, 0)) := box_out HSl.out.1 o2 (by omega)
      have HS2 : Hid (∀ W, Below W2.heap.size W2 W → n = 0 ∨ ∃ ad, some (⟨gs, 0, none⟩ : Addr) = some ad ∧ ∀ j u, (cis d.sl)[j]? = some u → W.cell? (ad.add j) = some u) := fun W hW => .inr ⟨_, rfl, fun j u hj => by
        rw [addN, Nat.zero_add]
        unfold cis at hj
        rw [List.getElem?_map, Option.map_eq_some_iff] at hj
        obtain ⟨a, ha, rfl⟩ := hj
        have hjl : j < n := by rw [← HE0.out]; exact (List.getElem?_eq_some_iff.1 ha).1
        have h1 := HSl.out.2 j hjl
        unfold gi at h1
        rw [List.getD_eq_getElem?_getD, ha] at h1
        exact cell_of_block (box_on hS2 hW) h1⟩
      have SB : Hid (∀ W, Below W2.heap.size W2 W → W.cell? ⟨w.heap.size, 1, none⟩ = some (.slice (some ⟨gs, 0, none⟩) n c) ∧ Below W2.heap.size W2 W) := fun W hW => ⟨(box3_cells (box_on HE2.out hW)).2.1, hW⟩
      have HE6 : Hid _ := HE2
      clear hS2
      go_wp2_with fail
      refine wp_region_L (fun W => W.cell? ⟨w.heap.size, 1, none⟩ = some (.slice (some ⟨gs, 0, none⟩) n c) ∧ Below W2.heap.size W2 W) 8 9 (by kernel_rfl) rfl (SB.out _ (by first | exact Below.refl _ _ | exact Below.drew (Below.refl _ _))) (fun hS0 => ?_)
      refine tkL (i := 1) (d := 32) (v := ?_) rfl rfl (by kernel_rfl) (by kernel_rfl) (by kernel_rfl) (by kernel_rfl) (fun _ _ _ h => h) (Or.inl ⟨by rfl, by intro wq hSq; obtain ⟨hq1, hq2⟩ := hSq; go_simp; try with_reducible rfl⟩) (by assumption) ?_
      simp only [List.setIfInBounds_toArray, List.set_cons_zero, List.set_cons_succ]
      refine tkL (i := 2) (d := 33) (v := ?_) rfl rfl (by kernel_rfl) (by kernel_rfl) (by kernel_rfl) (by kernel_rfl) (fun _ _ _ h => h) (Or.inl ⟨by rfl, by intro wq hSq; obtain ⟨hq1, hq2⟩ := hSq; go_simp; try with_reducible rfl⟩) (by assumption) ?_
      simp only [List.setIfInBounds_toArray, List.set_cons_zero, List.set_cons_succ]
      refine tkL (i := 4) (d := 35) (v := ?_) rfl rfl (by kernel_rfl) (by kernel_rfl) (by kernel_rfl) (by kernel_rfl) (fun _ _ _ h => h) (Or.inl ⟨by rfl, by intro wq hSq; obtain ⟨hq1, hq2⟩ := hSq; go_simp; try with_reducible rfl⟩) (by assumption) ?_
      simp only [List.setIfInBounds_toArray, List.set_cons_zero, List.set_cons_succ]
      refine tkL (i := 5) (d := 36) (v := ?_) rfl rfl (by kernel_rfl) (by kernel_rfl) (by kernel_rfl) (by kernel_rfl) (fun _ _ _ h => h) (Or.inl ⟨by rfl, by intro wq hSq; obtain ⟨hq1, hq2⟩ := hSq; go_simp; try with_reducible rfl⟩) (by assumption) ?_
      simp only [List.setIfInBounds_toArray, List.set_cons_zero, List.set_cons_succ]
      refine oneL (i := 0) rfl (by kernel_rfl) (fun K hK => ?_)
      go_simp
      refine hK.out _ _ (SB.out _ (by first | exact below_alloc _ _ | exact Below.drew (below_alloc _ _) | exact Below.comp (Below.drew (Below.refl _ _)) (below_alloc _ _))) (fun hS1 => ?_)
      clear hK K
      refine oneL (i := 3) rfl (by kernel_rfl) (fun K hK => ?_)
      refine step_append_src (by rfl) _ _ 22 (by rfl) W2.heap.size 3 _ 1 8 Try.underlying22 info3 rfl (by decide) (.slice (some ⟨W2.heap.size, 0, none⟩) 0 0) 0 [] rfl (own_empty W2 3 1) (some ⟨gs, 0, none⟩) n c (cis d.sl) rfl (by rw [cis_len, HE0.out, Nat.mul_one]) (HS2.out _ hS1.2) (cis_one _) (by omega) (by decide) (below_alloc W2 _).size ?_
      intro v8 w8 own8 gr8
      have b8 : Below W2.heap.size W2 w8 := grown_on hS1.2 (below_alloc W2 _).size (own_empty W2 3 1) gr8
      rw [Nat.zero_add, List.nil_append] at own8
      obtain ⟨y8, cy8, rfl⟩ := owns_form own8
      refine hK.out _ _ (SB.out _ b8) (fun hS4 => ?_)
      clear hK K
      show wpAnyL _ _ _ _ _ _ _ _ { tmps := Array.setIfInBounds _ 34 _, defers := _ } _
      simp only [List.setIfInBounds_toArray, List.set_cons_zero, List.set_cons_succ]
      refine oneL (i := 6) rfl (by kernel_rfl) (fun K hK => ?_)
      refine step_append_src (by rfl) _ _ 22 (by rfl) W2.heap.size 3 _ 1 8 Try.underlying22 info3 rfl (by decide) (.slice y8 n cy8) n (cis d.sl) rfl own8 (some ⟨gs, 0, none⟩) n c (cis d.sl) rfl (by rw [cis_len, HE0.out, Nat.mul_one]) (HS2.out _ b8) (cis_one _) (by omega) (by decide) b8.size ?_
      intro v9 w9 own9 gr9
      have b9 : Below W2.heap.size W2 w9 := grown_on b8 b8.size own8 gr9
      obtain ⟨y9, cy9, rfl⟩ := owns_form own9
      refine hK.out _ _ (SB.out _ b9) (fun hS5 => ?_)
      clear hK K
      show wpAnyL _ _ _ _ _ _ _ _ { tmps := Array.setIfInBounds _ 37 _, defers := _ } _
      simp only [List.setIfInBounds_toArray, List.set_cons_zero, List.set_cons_succ]
      refine tkL (i := 7) (d := 38) (v := ?_) rfl rfl (by kernel_rfl) (by kernel_rfl) (by kernel_rfl) (by kernel_rfl) (fun _ _ _ h => h) (Or.inl ⟨by rfl, by intro wq hSq; obtain ⟨hq1, hq2⟩ := hSq; go_simp; try with_reducible rfl⟩) (by assumption) ?_
      simp only [List.setIfInBounds_toArray, List.set_cons_zero, List.set_cons_succ]
      have hE9 := box_on HE6.out b9
      obtain ⟨p0, p1, p2, p3, p4, p5⟩ := box3_cells hE9
      refine lastL (last := 8) rfl (by kernel_rfl) (by kernel_rfl) (fun K hK => ?_)
      go_simp
      refine hK.out _ _ ?_
      clear hK K
      have g0 : (dbl d).sl.length = n + n := by show (d.sl ++ d.sl).length = _; rw [List.length_append, HE0.out]
      have own9' : w9.ownsRow W2.heap.size 3 1 (.slice y9 (dbl d).sl.length cy9) (dbl d).sl.length (cis (dbl d).sl) := by
        rw [g0]
        show w9.ownsRow W2.heap.size 3 1 (.slice y9 (n + n) cy9) (n + n) (cis (d.sl ++ d.sl))
        rw [cis_app]
        exact own9
      have hnpos : 0 < n := by rw [← HE0.out, HGU.out.g.2.2.1]; exact Nat.two_pow_pos _
      obtain ⟨gA, csA, hyA, hgA, hcA, hA9, hinA⟩ := owns_ints own9' (by omega)
      rw [g0] at hcA hinA
      subst hyA
      obtain ⟨nA, hnA⟩ : ∃ nA, n + n = nA := ⟨_, rfl⟩
      have hn8' : nA ≤ 2000 := by omega
      obtain ⟨slA, hslA⟩ : ∃ l, (dbl d).sl = l := ⟨_, rfl⟩
      have HDs : Hid _ := hslA
      have HLA : Hid ((dbl d).sl.length = nA) := by show _ = _; rw [g0, hnA]
      rw [hnA] at hcA hinA ⊢
      rw [hslA] at hinA
      obtain ⟨WA, hWA⟩ : ∃ WA, w9.setCell ⟨w.heap.size, 1, none⟩ (.slice (some ⟨gA, 0, none⟩) nA cy9) = WA := ⟨_, rfl⟩
      have oA : Out w.heap.size (w.heap.size + 1) w9 WA := by subst hWA; exact out_setCell _ _ _ _
      have HE' : Hid (WA.heap[w.heap.size]? = some (.cells #[.int .i64 ((qn : Int) + 1), .slice (some ⟨gA, 0, none⟩) nA cy9, .slice (some ⟨gB, 0, none⟩) m cap] 32 (0, 0))) := by subst hWA; exact block_set hE9
      have gN := HN.out
      have g4 := o2.size
      have g5 := b9.size
      have g6 := oA.size
      have hwA : w.heap.size ≤ WA.heap.size := by omega
      have bwA : Below w.heap.size w WA := (oo.trans (b9.mono (by omega))).trans (oA.below (by omega))
      have HF' : Hid (WA.heap[F]? = some (.cells #[.int .i64 (qn : Int), .slice na nl nc] 63 (0, 0))) := box_out (box_on (box_out HF.out o2 (by omega)) b9) oA (by omega)
      have HZ' : Hid (WA.heap[w.heap.size + 1]? = some (.cells #[.int .i64 0, .slice none 0 0, .slice none 0 0] 32 (0, 0))) := box_out (box_on (box_out HZ.out o2 (by omega)) b9) oA (by omega)
      have HSl' : Hid (WA.heap[gA]? = some (.cells csA 3 (0, 0)) ∧ intsN nA slA csA) := ⟨box_out hA9 oA (by omega), hinA⟩
      have HGB' : Hid (GB WA B (.slice (some ⟨gB, 0, none⟩) m cap) d.bs kb) := ((HGB.out.keepT (KeepT.out HE.out ⟨by decide, by decide⟩ o2)).keepT (KeepT.below b9)).keepT (KeepT.out hE9 ⟨by decide, by decide⟩ oA)
      have HN' : Hid (w.heap.size + 1 < F ∧ F < WA.heap.size ∧ (gA < WA.heap.size ∧ gA ≠ w.heap.size ∧ gA ≠ w.heap.size + 1 ∧ gA ≠ F) ∧ gB < w.heap.size ∧ B ≤ w.heap.size ∧ B ≤ gA) := ⟨by omega, by omega, ⟨by have := box_lt hA9; omega, by omega, by omega, by omega⟩, by omega, by omega, by omega⟩
      have hgs' : B ≤ gA := by omega
      rw [hWA]
      clear hS4 hS5 hS1 hS0 own8 gr8 gr9 own9 own9' b8 b9 oA oo o2 hE9 hA9 hinA hW2 hWA p0 p1 p2 p3 p4 p5 i0 i1 i2 i3 i4 i5 j0 j1 x0 x1 x2 y0 y1 e0 e1 e2 e3 e4 e5 r0 r1 r2 r3 r4 r5 gN g0 g2 g4 g5 g6 hW0 hW1 hF SB HS2 HE2 HE6 hgA q01 HE HF HZ HSl HGB HN hgs hsc hslA hnA hn8 h8'
      rename Hid (WA.heap[w.heap.size]? = _) => HE
      rename Hid (WA.heap[F]? = _) => HF
      rename Hid (WA.heap[w.heap.size + 1]? = _) => HZ
      rename Hid (_ ∧ intsN nA slA csA) => HSl
      rename Hid (GB WA B _ d.bs kb) => HGB
      rename Hid (w.heap.size + 1 < F ∧ _) => HN
      rename B ≤ gA => hgs
      rename nA ≤ cy9 => hsc
      obtain ⟨j0, j1, -, -⟩ := box2_cells HF.out
      have hFA : F < WA.heap.size := HN.out.2.1
      have hEA : w.heap.size + 1 < F := HN.out.1
      have HNl : Hid ((gb d.bs k).ns.length = nl) := Hnl
      obtain ⟨Wa, hWa⟩ : ∃ Wa, WA.alloc (.cells #[.int .i64 ((qn : Int) + 1), .slice none 0 0] 63) = Wa := ⟨_, rfl⟩
      have ba : Below WA.heap.size WA Wa := by subst hWa; exact below_alloc _ _
      have HLa : Wa.heap[WA.heap.size]? = some (.cells #[.int .i64 ((qn : Int) + 1), .slice none 0 0] 63 (0, 0)) := by subst hWa; exact al1 _ _
      have hza : Wa.heap.size = WA.heap.size + 1 := by subst hWa; rw [sz1]
      obtain ⟨W7, hW7⟩ : ∃ W7, Wa.setCell ⟨WA.heap.size, 1, none⟩ (.slice none 0 0) = W7 := ⟨_, rfl⟩
      have o7 : Out WA.heap.size (WA.heap.size + 1) Wa W7 := by subst hW7; exact out_setCell _ _ _ _
      have b7 : Below WA.heap.size WA W7 := ba.trans (o7.below (by omega))
      have HL7 : W7.heap[WA.heap.size]? = some (.cells #[.int .i64 ((qn : Int) + 1), .slice none 0 0] 63 (0, 0)) := by subst hW7; exact block_set HLa
      have hz7 : W7.heap.size = WA.heap.size + 1 := by subst hW7; simpa using hza
      obtain ⟨Wb, hWb⟩ : ∃ Wb, W7.alloc (.cells #[.int .i64 ((qn : Int) + 1), .slice none 0 0] 63) = Wb := ⟨_, rfl⟩
      have bb7 : Below W7.heap.size W7 Wb := by subst hWb; exact below_alloc _ _
      have HHb : Wb.heap[W7.heap.size]? = some (.cells #[.int .i64 ((qn : Int) + 1), .slice none 0 0] 63 (0, 0)) := by subst hWb; exact al1 _ _
      have hzb : Wb.heap.size = W7.heap.size + 1 := by subst hWb; rw [sz1]
      obtain ⟨W8, hW8⟩ : ∃ W8, Wb.setCell ⟨W7.heap.size, 1, none⟩ (.slice none 0 0) = W8 := ⟨_, rfl⟩
      have o8 : Out W7.heap.size (W7.heap.size + 1) Wb W8 := by subst hW8; exact out_setCell _ _ _ _
      have b8 : Below W7.heap.size W7 W8 := bb7.trans (o8.below (by omega))
      have HH8 : Hid (W8.heap[W7.heap.size]? = some (.cells #[.int .i64 ((qn : Int) + 1), .slice none 0 0] 63 (0, 0))) := by subst hW8; exact block_set HHb
      have HL8 : Hid (W8.heap[WA.heap.size]? = some (.cells #[.int .i64 ((qn : Int) + 1), .slice none 0 0] 63 (0, 0))) := box_on HL7 b8
      have hz8 : W8.heap.size = W7.heap.size + 1 := by subst hW8; simpa using hzb
      have Hzz : Hid (W7.heap.size = WA.heap.size + 1 ∧ W8.heap.size = WA.heap.size + 2) := ⟨hz7, by omega⟩
      have bA8 : Below WA.heap.size WA W8 := b7.trans (b8.mono (by omega))
      have HF8 : Hid (W8.heap[F]? = some (.cells #[.int .i64 (qn : Int), .slice na nl nc] 63 (0, 0))) := box_on HF.out bA8
      obtain ⟨j7, j8, -, -⟩ := box2_cells (box_on HF.out b7)
      obtain ⟨k7, k8, -, -⟩ := box2_cells HF8.out
      obtain ⟨l0, l1, l2, l3⟩ := box2_cells HLa
      obtain ⟨m0, m1, m2, m3⟩ := box2_cells HHb
      clear HL7 HLa HHb hz7 hz8 hza hzb
      go_wp2_with fail
      clear hWa hWb hW7 hW8 j0 j1 j7 j8 k7 k8 l0 l1 l2 l3 m0 m1 m2 m3
      go_loopw [50] (fun i wr => ∃ (kk : Nat) (xl xh : Option Addr) (cl ch : Nat), kk ≤ nl ∧ i = .int .i64 kk ∧ Hid (wr.heap[WA.heap.size]? = some (.cells #[.int .i64 ((qn : Int) + 1), .slice xl (hb qn 0 ((gb d.bs k).ns.take kk)).length cl] 63 (0, 0))) ∧ Hid (wr.heap[W7.heap.size]? = some (.cells #[.int .i64 ((qn : Int) + 1), .slice xh (hb qn 1 ((gb d.bs k).ns.take kk)).length ch] 63 (0, 0))) ∧ Hid (Tw wr W8.heap.size (.slice xl (hb qn 0 ((gb d.bs k).ns.take kk)).length cl) (.slice xh (hb qn 1 ((gb d.bs k).ns.take kk)).length ch) (hb qn 0 ((gb d.bs k).ns.take kk)) (hb qn 1 ((gb d.bs k).ns.take kk))) ∧ Out WA.heap.size (WA.heap.size + 2) W8 wr) (fun i _ => nl - (intOf i).toNat)
      case atStart => exact ⟨0, none, none, 0, 0, Nat.zero_le _, rfl, HL8, HH8, ⟨OwnN.nil _ _, OwnN.nil _ _, fun b h => by cases h⟩, Out.refl _ _ _⟩
      case round =>
        obtain ⟨kk, xl, xh, cl, ch, hkk, rfl, HLr, HHr, HTr, ho⟩ := hrel
        by_cases hlt : kk < nl
        · obtain ⟨bb, boff, rfl, hcell⟩ := HNa.out.1 (by rw [HNl.out]; omega)
          obtain ⟨c0, c1⟩ := hcell kk (by rw [HNl.out]; exact hlt)
          have bw8 : Below w.heap.size w W8 := bwA.trans (bA8.mono hwA)
          have hwr : ∀ {ad : Addr} {u : Value}, w.cell? ad = some u → wr.cell? ad = some u := fun {ad u} h => by
            have hlt := World.block_lt_of_cell? w _ h
            have h8 : W8.cell? ad = some u := by rw [bw8.cell (p := ad) hlt]; exact h
            rw [World.cell?_of_block (ho.block ad.block (by have := bw8.size; omega) (.inl (by omega)))]
            exact h8
          have c0' := hwr c0
          have c1' := hwr c1
          obtain ⟨x, hx⟩ : ∃ x, gm (gb d.bs k).ns kk = x := ⟨_, rfl⟩
          have HX : Hid _ := hx
          rw [hx] at c0' c1'
          clear hcell c0 c1 hx
          have HFr : Hid (wr.heap[F]? = some (.cells #[.int .i64 (qn : Int), .slice (some ⟨bb, boff, none⟩) nl nc] 63 (0, 0))) := box_out HF8.out ho (.inl (by omega))
          obtain ⟨sx, fx⟩ := x
          simp only at c0' c1'
          obtain ⟨Wt, hWt⟩ : ∃ Wt, wr.alloc (.cells #[.string sx, .int .i64 fx] 36) = Wt := ⟨_, rfl⟩
          have bt : Below wr.heap.size wr Wt := by subst hWt; exact below_alloc _ _
          obtain ⟨T, hT⟩ : ∃ T, wr.heap.size = T := ⟨_, rfl⟩
          have HT : Hid (Wt.heap[T]? = some (.cells #[.string sx, .int .i64 fx] 36 (0, 0))) := by subst hWt hT; exact al1 _ _
          have HTT : Hid _ := hT
          have SB : Hid (∀ W, Below Wt.heap.size Wt W → W.cell? ⟨T, 0, none⟩ = some (.string sx) ∧ W.cell? ⟨F, 0, none⟩ = some (.int .i64 (qn : Int)) ∧ Below Wt.heap.size Wt W) := fun W hW => ⟨(box2_cells (box_on HT.out hW)).1, (box2_cells (box_on (box_on HFr.out bt) hW)).1, hW⟩
          have hsx : sx.size ≤ 9223372036854775807 := by
            have h1 := HokN.out (gm (gb d.bs k).ns kk) (by rw [gm_eq (by rw [HNl.out]; exact hlt)]; exact List.getElem_mem _)
            rw [HX.out] at h1
            unfold isN at h1
            simp only [Bool.and_eq_true, decide_eq_true_eq] at h1
            omega
          have cHs := fun W => specHash_any sx W hsx
          go_wp2_with fail
          clear hWt hT
          go_region_held3 (fun W => W.cell? ⟨T, 0, none⟩ = some (.string sx) ∧ W.cell? ⟨F, 0, none⟩ = some (.int .i64 (qn : Int)) ∧ Below Wt.heap.size Wt W)
            ((refine SB.out _ ?_; first | assumption | exact Below.drew (Below.refl _ _) | exact Below.refl _ _))
            ((go_at_call 58; refine (cHs _).mono ?_; rintro z w6 ⟨rfl, rfl⟩))
          have hbi := bit_is (h := nh sx) (q := qn) (by omega) (by have := nh_lt sx; omega)
          rw [hbi]
          obtain ⟨lo, hlo⟩ : ∃ lo, hb qn 0 ((gb d.bs k).ns.take kk) = lo := ⟨_, rfl⟩
          obtain ⟨li, hli⟩ : ∃ li, hb qn 1 ((gb d.bs k).ns.take kk) = li := ⟨_, rfl⟩
          have HLO : Hid (hb qn 0 ((gb d.bs k).ns.take kk) = lo ∧ hb qn 1 ((gb d.bs k).ns.take kk) = li) := ⟨hlo, hli⟩
          rw [hlo] at HLr HTr
          rw [hli] at HHr HTr
          have hlo1 : lo.length ≤ 1000 := by rw [← hlo]; unfold hb; have := List.length_filter_le (fun x => decide (bit (nh x.nm) qn = 0)) ((gb d.bs k).ns.take kk); simp only [List.length_take] at this; omega
          have hli1 : li.length ≤ 1000 := by rw [← hli]; unfold hb; have := List.length_filter_le (fun x => decide (bit (nh x.nm) qn = 1)) ((gb d.bs k).ns.take kk); simp only [List.length_take] at this; omega
          clear hlo hli hbi
          have Hho : Hid (Out WA.heap.size (WA.heap.size + 2) W8 wr) := ho
          have HTs : Hid _ := HTr.out.swap
          rcases bit_two (nh sx) qn with hbt | hbt
          · rw [hbt]
            have hgm : gm (gb d.bs k).ns kk = ⟨sx, fx⟩ := HX.out
            have HS0 : Hid (hb qn 0 ((gb d.bs k).ns.take (kk + 1)) = lo ++ [⟨sx, fx⟩]) := by show _ = _; rw [hb_snoc (by rw [HNl.out]; exact hlt), hgm, if_pos hbt, HLO.out.1]
            have HS1 : Hid (hb qn 1 ((gb d.bs k).ns.take (kk + 1)) = li) := by show _ = _; rw [hb_snoc (by rw [HNl.out]; exact hlt), hgm, if_neg (by rw [hbt]; omega), List.append_nil, HLO.out.2]
            have bd : Below wr.heap.size wr Wt.drew := Below.drew bt
            have hBx : Wt.drew.heap[WA.heap.size]? = some (.cells #[.int .i64 ((qn : Int) + 1), .slice xl lo.length cl] 63 (0, 0)) := box_on HLr.out bd
            obtain ⟨x0, x1, -, -⟩ := box2_cells hBx
            obtain ⟨t0, t1, -, -⟩ := box2_cells (box_on (w := Wt) HT.out (Below.drew (Below.refl _ _)))
            obtain ⟨W9, hW9⟩ : ∃ W9, Wt.drew.alloc (.cells #[.string sx, .int .i64 fx] 36) = W9 := ⟨_, rfl⟩
            have b9 : Below Wt.drew.heap.size Wt.drew W9 := by subst hW9; exact below_alloc _ _
            have hN9 : W9.heap[Wt.drew.heap.size]? = some (.cells #[.string sx, .int .i64 fx] 36 (0, 0)) := by subst hW9; exact al1 _ _
            have b09 : Below wr.heap.size wr W9 := bd.trans (b9.mono (by have := bt.size; exact this))
            have tw9 : Tw W9 W8.heap.size (.slice xl lo.length cl) (.slice xh li.length ch) lo li := (HTr.out).below b09
            have own9 := tw9.o
            have sr9 : ∀ j u, [Value.string sx, .int .i64 fx][j]? = some u → W9.cell? ((⟨Wt.drew.heap.size, 0, none⟩ : Addr).add j) = some u := fun j u hj => by
              rw [addN]
              match j with
              | 0 => simp at hj; subst hj; exact cell_of_block hN9 rfl
              | 1 => simp at hj; subst hj; exact cell_of_block hN9 rfl
              | j + 2 => simp at hj
            have hz9 : W8.heap.size ≤ W9.heap.size := Nat.le_trans ho.size b09.size
            have HTW9 : Hid _ := tw9
            have hvl : lo.length ≤ 1000 := hlo1
            obtain ⟨vl, hvl'⟩ : ∃ vl, lo.length = vl := ⟨_, rfl⟩
            have Hvl : Hid (lo.length = vl) := hvl'
            have HX9 : Hid (W9.heap[WA.heap.size]? = some (.cells #[.int .i64 ((qn : Int) + 1), .slice xl lo.length cl] 63 (0, 0))) := box_on HLr.out b09
            have HY9 : Hid (W9.heap[W7.heap.size]? = some (.cells #[.int .i64 ((qn : Int) + 1), .slice xh li.length ch] 63 (0, 0))) := box_on HHr.out b09
            have own9' : W9.ownsRow W8.heap.size 36 2 (.slice xl lo.length cl) lo.length (cns lo) := own9
            have HB9 : Hid (Below W8.heap.size wr W9) := b09.mono ho.size
            rw [hvl'] at x1 own9' hvl
            clear hvl' own9 tw9 hN9
            go_wp2_with (at_builtin; refine wpList_append_at rfl _ _ 48 rfl W8.heap.size 36 _ 2 24 Try.underlying48 info47 rfl (by decide) (.slice xl vl cl) vl (cns lo) rfl own9' ⟨Wt.drew.heap.size, 0, none⟩ 1 1 [.string sx, .int .i64 fx] rfl rfl sr9 (by simp [Value.oneCell']) (by omega) (by decide) hz9 ?_; intro v5 w5 own5 gr5 at5; obtain ⟨y5, c5, e5⟩ := owns_form own5; subst e5; have HO5 : Hid (w5.ownsRow W8.heap.size 36 2 (.slice y5 (vl + 1) c5) (vl + 1) (cns lo ++ [.string sx, .int .i64 fx])) := own5; have HG5 : Hid (W9.grownBy w5 (Value.slice xl vl cl).ownBlock) := gr5; have HA5 : Hid ((Value.slice y5 (vl + 1) c5).ownBlock = (Value.slice xl vl cl).ownBlock ∨ (Value.slice y5 (vl + 1) c5).ownBlock = some W9.heap.size) := at5; have HK5 : Hid (∀ k, k < W8.heap.size → w5.heap[k]? = W9.heap[k]?) := (fun k hk => gr5.block k (by omega) (fun e => by have h9 := (own_row own9' _ e.symm).1; omega)); have HX5 : Hid (w5.heap[WA.heap.size]? = some (.cells #[.int .i64 ((qn : Int) + 1), .slice xl lo.length cl] 63 (0, 0))) := (by show _ = _; rw [HK5.out _ (by have := Hzz.out; omega)]; exact HX9.out); obtain ⟨p0, p1, p2, p3⟩ := box2_cells HX5.out)
            go_round
            case rel =>
              have hzz := Hzz.out
              have o9 := out_setCell w5 WA.heap.size 1 (.slice y5 (vl + 1) c5)
              have hb5 : Below W8.heap.size wr w5 := HB9.out.trans (Grown.below HG5.out hz9 (owns_ge own9'))
              have htw := Tw.snoc (x := ⟨sx, fx⟩) HTW9.out (by rw [Hvl.out]; exact HO5.out) (by rw [Hvl.out]; exact HG5.out) (by rw [Hvl.out]; exact HA5.out)
              have htw' := htw.outZ o9 (by omega)
              have hVl : (lo ++ [(⟨sx, fx⟩ : Nm)]).length = vl + 1 := by simp [Hvl.out]
              have hx6 : (w5.setCell ⟨WA.heap.size, 1, none⟩ (.slice y5 (vl + 1) c5)).heap[WA.heap.size]? = some (.cells #[.int .i64 ((qn : Int) + 1), .slice y5 (vl + 1) c5] 63 (0, 0)) := block_set HX5.out
              have hy6 : (w5.setCell ⟨WA.heap.size, 1, none⟩ (.slice y5 (vl + 1) c5)).heap[W7.heap.size]? = some (.cells #[.int .i64 ((qn : Int) + 1), .slice xh li.length ch] 63 (0, 0)) := box_out (by rw [HK5.out _ (by omega)]; exact HY9.out) o9 (by omega)
              have hout : Out WA.heap.size (WA.heap.size + 2) W8 (w5.setCell ⟨WA.heap.size, 1, none⟩ (.slice y5 (vl + 1) c5)) := (Out.belowT Hho.out hb5 (Nat.le_trans HB9.out.size HG5.out.size)).trans (o9.mono (by omega) (by omega))
              have hvl2 := Hvl.out
              clear p0 p1 p2 p3
              refine ⟨kk + 1, y5, xh, c5, ch, by omega, by go_num, ?_, ?_, ?_, hout⟩
              · show _ = _; rw [HS0.out, hVl]; exact hx6
              · show _ = _; rw [HS1.out]; exact hy6
              · show Tw _ _ _ _ _ _
                rw [HS0.out, HS1.out, hVl]
                exact htw'
            case measure => simp [intOf]; omega
          · rw [hbt]
            have hgm : gm (gb d.bs k).ns kk = ⟨sx, fx⟩ := HX.out
            have HS0 : Hid (hb qn 1 ((gb d.bs k).ns.take (kk + 1)) = li ++ [⟨sx, fx⟩]) := by show _ = _; rw [hb_snoc (by rw [HNl.out]; exact hlt), hgm, if_pos hbt, HLO.out.2]
            have HS1 : Hid (hb qn 0 ((gb d.bs k).ns.take (kk + 1)) = lo) := by show _ = _; rw [hb_snoc (by rw [HNl.out]; exact hlt), hgm, if_neg (by rw [hbt]; omega), List.append_nil, HLO.out.1]
            have bd : Below wr.heap.size wr Wt.drew := Below.drew bt
            have hBx : Wt.drew.heap[W7.heap.size]? = some (.cells #[.int .i64 ((qn : Int) + 1), .slice xh li.length ch] 63 (0, 0)) := box_on HHr.out bd
            obtain ⟨x0, x1, -, -⟩ := box2_cells hBx
            obtain ⟨t0, t1, -, -⟩ := box2_cells (box_on (w := Wt) HT.out (Below.drew (Below.refl _ _)))
            obtain ⟨W9, hW9⟩ : ∃ W9, Wt.drew.alloc (.cells #[.string sx, .int .i64 fx] 36) = W9 := ⟨_, rfl⟩
            have b9 : Below Wt.drew.heap.size Wt.drew W9 := by subst hW9; exact below_alloc _ _
            have hN9 : W9.heap[Wt.drew.heap.size]? = some (.cells #[.string sx, .int .i64 fx] 36 (0, 0)) := by subst hW9; exact al1 _ _
            have b09 : Below wr.heap.size wr W9 := bd.trans (b9.mono (by have := bt.size; exact this))
            have tw9 : Tw W9 W8.heap.size (.slice xh li.length ch) (.slice xl lo.length cl) li lo := (HTs.out).below b09
            have own9 := tw9.o
            have sr9 : ∀ j u, [Value.string sx, .int .i64 fx][j]? = some u → W9.cell? ((⟨Wt.drew.heap.size, 0, none⟩ : Addr).add j) = some u := fun j u hj => by
              rw [addN]
              match j with
              | 0 => simp at hj; subst hj; exact cell_of_block hN9 rfl
              | 1 => simp at hj; subst hj; exact cell_of_block hN9 rfl
              | j + 2 => simp at hj
            have hz9 : W8.heap.size ≤ W9.heap.size := Nat.le_trans ho.size b09.size
            have HTW9 : Hid _ := tw9
            have hvl : li.length ≤ 1000 := hli1
            obtain ⟨vl, hvl'⟩ : ∃ vl, li.length = vl := ⟨_, rfl⟩
            have Hvl : Hid (li.length = vl) := hvl'
            have HX9 : Hid (W9.heap[W7.heap.size]? = some (.cells #[.int .i64 ((qn : Int) + 1), .slice xh li.length ch] 63 (0, 0))) := box_on HHr.out b09
            have HY9 : Hid (W9.heap[WA.heap.size]? = some (.cells #[.int .i64 ((qn : Int) + 1), .slice xl lo.length cl] 63 (0, 0))) := box_on HLr.out b09
            have own9' : W9.ownsRow W8.heap.size 36 2 (.slice xh li.length ch) li.length (cns li) := own9
            have HB9 : Hid (Below W8.heap.size wr W9) := b09.mono ho.size
            rw [hvl'] at x1 own9' hvl
            clear hvl' own9 tw9 hN9
            go_wp2_with (at_builtin; refine wpList_append_at rfl _ _ 48 rfl W8.heap.size 36 _ 2 24 Try.underlying48 info47 rfl (by decide) (.slice xh vl ch) vl (cns li) rfl own9' ⟨Wt.drew.heap.size, 0, none⟩ 1 1 [.string sx, .int .i64 fx] rfl rfl sr9 (by simp [Value.oneCell']) (by omega) (by decide) hz9 ?_; intro v5 w5 own5 gr5 at5; obtain ⟨y5, c5, e5⟩ := owns_form own5; subst e5; have HO5 : Hid (w5.ownsRow W8.heap.size 36 2 (.slice y5 (vl + 1) c5) (vl + 1) (cns li ++ [.string sx, .int .i64 fx])) := own5; have HG5 : Hid (W9.grownBy w5 (Value.slice xh vl ch).ownBlock) := gr5; have HA5 : Hid ((Value.slice y5 (vl + 1) c5).ownBlock = (Value.slice xh vl ch).ownBlock ∨ (Value.slice y5 (vl + 1) c5).ownBlock = some W9.heap.size) := at5; have HK5 : Hid (∀ k, k < W8.heap.size → w5.heap[k]? = W9.heap[k]?) := (fun k hk => gr5.block k (by omega) (fun e => by have h9 := (own_row own9' _ e.symm).1; omega)); have HX5 : Hid (w5.heap[W7.heap.size]? = some (.cells #[.int .i64 ((qn : Int) + 1), .slice xh li.length ch] 63 (0, 0))) := (by show _ = _; rw [HK5.out _ (by have := Hzz.out; omega)]; exact HX9.out); obtain ⟨p0, p1, p2, p3⟩ := box2_cells HX5.out)
            go_round
            case rel =>
              have hzz := Hzz.out
              have o9 := out_setCell w5 W7.heap.size 1 (.slice y5 (vl + 1) c5)
              have hb5 : Below W8.heap.size wr w5 := HB9.out.trans (Grown.below HG5.out hz9 (owns_ge own9'))
              have htw := Tw.snoc (x := ⟨sx, fx⟩) HTW9.out (by rw [Hvl.out]; exact HO5.out) (by rw [Hvl.out]; exact HG5.out) (by rw [Hvl.out]; exact HA5.out)
              have htw' := htw.outZ o9 (by omega)
              have hVl : (li ++ [(⟨sx, fx⟩ : Nm)]).length = vl + 1 := by simp [Hvl.out]
              have hx6 : (w5.setCell ⟨W7.heap.size, 1, none⟩ (.slice y5 (vl + 1) c5)).heap[W7.heap.size]? = some (.cells #[.int .i64 ((qn : Int) + 1), .slice y5 (vl + 1) c5] 63 (0, 0)) := block_set HX5.out
              have hy6 : (w5.setCell ⟨W7.heap.size, 1, none⟩ (.slice y5 (vl + 1) c5)).heap[WA.heap.size]? = some (.cells #[.int .i64 ((qn : Int) + 1), .slice xl lo.length cl] 63 (0, 0)) := box_out (by rw [HK5.out _ (by omega)]; exact HY9.out) o9 (by omega)
              have hout : Out WA.heap.size (WA.heap.size + 2) W8 (w5.setCell ⟨W7.heap.size, 1, none⟩ (.slice y5 (vl + 1) c5)) := (Out.belowT Hho.out hb5 (Nat.le_trans HB9.out.size HG5.out.size)).trans (o9.mono (by omega) (by omega))
              have hvl2 := Hvl.out
              clear p0 p1 p2 p3
              refine ⟨kk + 1, xl, y5, cl, c5, by omega, by go_num, ?_, ?_, ?_, hout⟩
              · show _ = _; rw [HS1.out]; exact hy6
              · show _ = _; rw [HS0.out, hVl]; exact hx6
              · show Tw _ _ _ _ _ _
                rw [HS1.out, HS0.out, hVl]
                exact htw'.swap
            case measure => simp [intOf]; omega
        · have hkn : kk = nl := by omega
          subst kk
          have htk : (gb d.bs k).ns.take nl = (gb d.bs k).ns := by rw [← HNl.out]; exact List.take_length
          rw [htk] at HLr HHr HTr
          clear htk hlt hkk
          have hzz := Hzz.out
          obtain ⟨lo, hlo⟩ : ∃ lo, hb qn 0 (gb d.bs k).ns = lo := ⟨_, rfl⟩
          obtain ⟨li, hli⟩ : ∃ li, hb qn 1 (gb d.bs k).ns = li := ⟨_, rfl⟩
          have HLO : Hid (hb qn 0 (gb d.bs k).ns = lo ∧ hb qn 1 (gb d.bs k).ns = li) := ⟨hlo, hli⟩
          rw [hlo] at HLr HTr
          rw [hli] at HHr HTr
          clear hlo hli
          obtain ⟨gl, hnl⟩ := HTr.out.o.nb
          obtain ⟨gh, hnh⟩ := HTr.out.i.nb
          have bw8 : Below w.heap.size w W8 := bwA.trans (bA8.mono hwA)
          have hout8 : ∀ g cy9 t, W8.heap[g]? = some (.cells cy9 t (0, 0)) → g < WA.heap.size → wr.heap[g]? = some (.cells cy9 t (0, 0)) := fun g cy9 t hg hlt => by rw [ho.block g (box_lt hg) (.inl hlt)]; exact hg
          have HEr : Hid (wr.heap[w.heap.size]? = some (.cells #[.int .i64 ((qn : Int) + 1), .slice (some ⟨gA, 0, none⟩) nA cy9, .slice (some ⟨gB, 0, none⟩) m cap] 32 (0, 0))) := hout8 _ _ _ (box_on HE.out bA8) (by omega)
          have HZr : Hid (wr.heap[w.heap.size + 1]? = some (.cells #[.int .i64 0, .slice none 0 0, .slice none 0 0] 32 (0, 0))) := hout8 _ _ _ (box_on HZ.out bA8) (by omega)
          have HFr : Hid (wr.heap[F]? = some (.cells #[.int .i64 (qn : Int), .slice na nl nc] 63 (0, 0))) := hout8 _ _ _ HF8.out (by omega)
          have HGBr : Hid (GB wr B (.slice (some ⟨gB, 0, none⟩) m cap) d.bs kb) := GB.low HGB.out bA8 ho (by omega)
          have HSr : Hid (wr.heap[gA]? = some (.cells csA 3 (0, 0))) := hout8 _ _ _ (box_on HSl.out.1 bA8) (by have := HN.out.2.2.1; omega)
          obtain ⟨cur, hcur, hcsz, hBg⟩ := HGBr.out.block HD.out.2.2.1
          have hsB : gA ≠ gB := fun e => by
            have h := HSr.out
            rw [e, hcur] at h
            simp at h
          have HsB : Hid (gA ≠ gB) := hsB
          have n0 : NB wr B wr.heap.size (.slice xl lo.length cl) lo gl := hnl.mono (by have := bA8.size; have := bw8.size; omega) (Nat.le_refl _)
          have n1 : NB wr B wr.heap.size (.slice xh li.length ch) li gh := hnh.mono (by have := bA8.size; have := bw8.size; omega) (Nat.le_refl _)
          have hgl : lo ≠ [] → W8.heap.size ≤ gl := fun h => (hnl.within h).1
          have hgh : li ≠ [] → W8.heap.size ≤ gh := fun h => (hnh.within h).1
          have hdj : lo ≠ [] → li ≠ [] → gl ≠ gh := fun h1 h2 e => by
            obtain ⟨a1, c1, e1, -, r1⟩ := hnl
            obtain ⟨a2, c2, e2, -, r2⟩ := hnh
            cases e1
            cases e2
            obtain ⟨s1, -⟩ := r1 h1
            obtain ⟨s2, -⟩ := r2 h2
            exact HTr.out.dj gl (by rw [s1]; rfl) (by rw [s2, e]; rfl)
          have hkbl : ∀ r, r < m → (gb d.bs r).ns ≠ [] → kb r < WA.heap.size := fun r hr hn => (HGB.out.row (by rw [HD.out.2.2.1]; exact hr) hn).2.1
          have HG1 : Hid (GB ((wr.setCell ⟨gB, k * 2, none⟩ (.int .i64 ((qn : Int) + 1))).setCell ⟨gB, k * 2 + 1, none⟩ (.slice xl lo.length cl)) B (.slice (some ⟨gB, 0, none⟩) m cap) (d.bs.set k ⟨(qn : Int) + 1, lo⟩) (kbPut kb k gl)) := HGBr.out.put HD.out.2.2.1 hkm n0 (fun h r hr _ hn => by have := hkbl r hr hn; have := hgl h; omega)
          have n2 : NB ((wr.setCell ⟨gB, k * 2, none⟩ (.int .i64 ((qn : Int) + 1))).setCell ⟨gB, k * 2 + 1, none⟩ (.slice xl lo.length cl)) B wr.heap.size (.slice xh li.length ch) li gh := by
            refine n1.out (((Out.refl gB (gB + 1) wr).setCell (Nat.le_refl _) (Nat.lt_succ_self _) _ _).setCell (Nat.le_refl _) (Nat.lt_succ_self _) _ _) (fun h => ?_)
            have := hgh h
            omega
          obtain ⟨x0, x1, x2, x3, x4, x5⟩ := box3_cells HEr.out
          obtain ⟨l0, l1, -, -⟩ := box2_cells HLr.out
          have c0 : wr.cell? ⟨gB, k * 2, none⟩ = some (cur[k * 2]'(by omega)) := cell_of_block hcur (by simp)
          have c1 : wr.cell? ⟨gB, k * 2 + 1, none⟩ = some (cur[k * 2 + 1]'(by omega)) := cell_of_block hcur (by simp)
          have f0 := free_of_block (i := k * 2) hcur
          have f1 := free_of_block (i := k * 2 + 1) hcur
          obtain ⟨V1, hV1⟩ : ∃ V1, (wr.setCell ⟨gB, k * 2, none⟩ (.int .i64 ((qn : Int) + 1))).setCell ⟨gB, k * 2 + 1, none⟩ (.slice xl lo.length cl) = V1 := ⟨_, rfl⟩
          have o1 : Out gB (gB + 1) wr V1 := by subst hV1; exact ((Out.refl _ _ _).setCell (Nat.le_refl _) (Nat.lt_succ_self _) _ _).setCell (Nat.le_refl _) (Nat.lt_succ_self _) _ _
          have z1 : V1.heap.size = wr.heap.size := by subst hV1; simp
          rw [hV1] at HG1 n2
          have hgBA : gB < WA.heap.size := by have := HN.out.2.2.2.1; omega
          have hE1 : V1.heap[w.heap.size]? = _ := box_out HEr.out o1 (by have := HN.out.2.2.2.1; omega)
          have hH1 : V1.heap[W7.heap.size]? = _ := box_out HHr.out o1 (by omega)
          have HS1 : Hid (V1.heap[gA]? = some (.cells csA 3 (0, 0))) := box_out HSr.out o1 (by omega)
          have HF1 : Hid (V1.heap[F]? = some (.cells #[.int .i64 (qn : Int), .slice na nl nc] 63 (0, 0))) := box_out HFr.out o1 (by have := HN.out.2.2.2.1; omega)
          have HZ1 : Hid (V1.heap[w.heap.size + 1]? = some (.cells #[.int .i64 0, .slice none 0 0, .slice none 0 0] 32 (0, 0))) := box_out HZr.out o1 (by have := HN.out.2.2.2.1; omega)
          obtain ⟨e0, e1, e2, -, -, -⟩ := box3_cells hE1
          obtain ⟨u0, u1, -, -⟩ := box2_cells hH1
          obtain ⟨V2, hV2⟩ : ∃ V2, V1.alloc (.cells #[.int .i64 ((qn : Int) + 1), .slice xh li.length ch] 63) = V2 := ⟨_, rfl⟩
          have b2 : Below V1.heap.size V1 V2 := by subst hV2; exact below_alloc _ _
          have hN2 : V2.heap[V1.heap.size]? = some (.cells #[.int .i64 ((qn : Int) + 1), .slice xh li.length ch] 63 (0, 0)) := by subst hV2; exact al1 _ _
          have HG2 : Hid (GB V2 B (.slice (some ⟨gB, 0, none⟩) m cap) (d.bs.set k ⟨(qn : Int) + 1, lo⟩) (kbPut kb k gl)) := HG1.out.keepT (KeepT.below b2)
          have hml : (d.bs.set k (⟨(qn : Int) + 1, lo⟩ : Bk)).length = m := by rw [List.length_set]; exact HD.out.2.2.1
          obtain ⟨⟨xs, hox, hxx⟩, hdd⟩ := HG2.out
          rw [hml] at hox
          have HOX : Hid (V2.ownsRow B 63 2 (.slice (some ⟨gB, 0, none⟩) m cap) m xs) := hox
          have HXX : Hid _ := hxx
          have HDD : Hid _ := hdd
          have sr2 : 1 = 0 ∨ ∃ ad, some (⟨V1.heap.size, 0, none⟩ : Addr) = some ad ∧ ∀ j u, [Value.int .i64 ((qn : Int) + 1), .slice xh li.length ch][j]? = some u → V2.cell? (ad.add j) = some u := .inr ⟨_, rfl, fun j u hj => by
            rw [addN]
            match j with
            | 0 => simp at hj; subst hj; exact cell_of_block hN2 rfl
            | 1 => simp at hj; subst hj; exact cell_of_block hN2 rfl
            | j + 2 => simp at hj⟩
          have zB2 : B ≤ V2.heap.size := by have := b2.size; have := bw8.size; have := ho.size; omega
          have HN2 : Hid (NB V2 B V2.heap.size (.slice xh li.length ch) li gh) := ((n2.mono (Nat.le_refl _) (by omega)).below b2).mono (Nat.le_refl _) b2.size
          have hE2 := box_on hE1 b2
          have HS2 : Hid (V2.heap[gA]? = some (.cells csA 3 (0, 0))) := box_on HS1.out b2
          have HF2 : Hid (V2.heap[F]? = some (.cells #[.int .i64 (qn : Int), .slice na nl nc] 63 (0, 0))) := box_on HF1.out b2
          have HZ2 : Hid (V2.heap[w.heap.size + 1]? = some (.cells #[.int .i64 0, .slice none 0 0, .slice none 0 0] 32 (0, 0))) := box_on HZ1.out b2
          have hFg : F ≠ gB := by have := HN.out.2.2.2.1; omega
          have hZg : w.heap.size + 1 ≠ gB := by have := HN.out.2.2.2.1; omega
          have HK5 : Hid (∀ (w5 : World), V2.grownBy w5 (Value.slice (some ⟨gB, 0, none⟩) m cap).ownBlock → ∀ g cy9 t, V2.heap[g]? = some (.cells cy9 t (0, 0)) → g ≠ gB → w5.heap[g]? = some (.cells cy9 t (0, 0))) := fun w5 gr g cy9 t hg hne => by rw [gr.block g (box_lt hg) (fun e => hne (by simpa [Value.ownBlock] using e))]; exact hg
          have hEg : w.heap.size ≠ gB := by have := HN.out.2.2.2.1; omega
          have HD1 : Hid (li ≠ [] → ∀ r, r < m → (gb (d.bs.set k (⟨(qn : Int) + 1, lo⟩ : Bk)) r).ns ≠ [] → kbPut kb k gl r ≠ gh) := by
            intro h r hr hn
            have hkd : k < d.bs.length := by rw [HD.out.2.2.1]; exact hkm
            by_cases e : r = k
            · rw [e] at hn ⊢
              rw [kbPut_0]
              rw [gb_set hkd, if_pos rfl] at hn
              exact hdj hn h
            · rw [kbPut_ne _ _ _ e]
              rw [gb_set hkd, if_neg e] at hn
              have h1 := hkbl r hr hn
              have h2 := hgh h
              omega
          clear hxx hdd n0 n1 n2 hcur hN2 hnl hnh hkbl
          have HE2 : Hid (V2.heap[w.heap.size]? = some (.cells #[.int .i64 ((qn : Int) + 1), .slice (some ⟨gA, 0, none⟩) nA cy9, .slice (some ⟨gB, 0, none⟩) m cap] 32 (0, 0))) := hE2
          have HV : Hid (Out gB (gB + 1) wr V1 ∧ Below V1.heap.size V1 V2 ∧ V1.heap.size = wr.heap.size) := ⟨o1, b2, z1⟩
          clear hE1 hH1 hE2 o1 b2 z1 hzz
          go_wp2_with (at_builtin; refine wpList_append_src rfl _ _ 30 rfl B 63 _ 2 32 Try.underlying30 info67 rfl (by decide) (.slice (some ⟨gB, 0, none⟩) m cap) m xs rfl hox (some ⟨V1.heap.size, 0, none⟩) 1 1 [.int .i64 ((qn : Int) + 1), .slice xh li.length ch] rfl rfl sr2 (by simp [Value.oneCell']) (by omega) (by decide) zB2 ?_; intro v5 w5 own5 gr5; obtain ⟨y5, c5, e5⟩ := owns_form own5; subst e5; have HO5 : Hid (w5.ownsRow B 63 2 (.slice y5 (m + 1) c5) (m + 1) (xs ++ [.int .i64 ((qn : Int) + 1), .slice xh li.length ch])) := own5; have HG5 : Hid (V2.grownBy w5 (Value.slice (some ⟨gB, 0, none⟩) m cap).ownBlock) := gr5; have HE5 : Hid (w5.heap[w.heap.size]? = some (.cells #[.int .i64 ((qn : Int) + 1), .slice (some ⟨gA, 0, none⟩) nA cy9, .slice (some ⟨gB, 0, none⟩) m cap] 32 (0, 0))) := (HK5.out w5 gr5 _ _ _ HE2.out hEg); obtain ⟨p0, p1, p2, p3, p4, p5⟩ := box3_cells HE5.out; obtain ⟨V3, hV3⟩ : ∃ V3, w5.setCell ⟨w.heap.size, 2, none⟩ (.slice y5 (m + 1) c5) = V3 := ⟨_, rfl⟩; have HE3 : Hid (V3.heap[w.heap.size]? = some (.cells #[.int .i64 ((qn : Int) + 1), .slice (some ⟨gA, 0, none⟩) nA cy9, .slice y5 (m + 1) c5] 32 (0, 0))) := (by subst hV3; exact block_set HE5.out); have HO3 : Hid (Out w.heap.size (w.heap.size + 1) w5 V3) := (by subst hV3; exact out_setCell _ _ _ _); have HS3 : Hid (V3.heap[gA]? = some (.cells csA 3 (0, 0))) := (box_out (HK5.out w5 gr5 _ _ _ HS2.out hsB) HO3.out (by have := HN.out.2.2.1; omega)); have HF3 : Hid (V3.heap[F]? = some (.cells #[.int .i64 (qn : Int), .slice na nl nc] 63 (0, 0))) := (box_out (HK5.out w5 gr5 _ _ _ HF2.out hFg) HO3.out (by omega)); have HZ3 : Hid (V3.heap[w.heap.size + 1]? = some (.cells #[.int .i64 0, .slice none 0 0, .slice none 0 0] 32 (0, 0))) := (box_out (HK5.out w5 gr5 _ _ _ HZ2.out hZg) HO3.out (by omega)); obtain ⟨d0, d1, d2, -, -, -⟩ := box3_cells HE3.out)
          obtain ⟨R, hR⟩ : ∃ R, R = wr := ⟨_, rfl⟩
          subst hR
          clear hV1 hV2 hV3 x0 x1 x2 x3 x4 x5 l0 l1 c0 c1 f0 f1 e0 e1 e2 u0 u1 p0 p1 p2 p3 p4 p5 d0 d1 d2 own5 gr5 hox sr2 hcsz cur
          go_loopw [90] (fun i wq => ∃ (jj : Nat) (cq : Array Value), jj ≤ nA ∧ i = .int .i64 jj ∧ Hid (wq.heap[gA]? = some (.cells cq 3 (0, 0))) ∧ Hid (∀ i, i < nA → cq[i]? = some (iv (if i < jj ∧ gi slA i = (k : Int) ∧ bit i qn = 1 then (m : Int) else gi slA i))) ∧ Hid (Out gA (gA + 1) V3 wq)) (fun i _ => nA - (intOf i).toNat)
          case atStart => exact ⟨0, csA, Nat.zero_le _, rfl, HS3, (by intro i hi; rw [if_neg (by omega)]; exact HSl.out.2 i hi), Out.refl _ _ _⟩
          case round =>
            obtain ⟨jj, cq, hjj, rfl, HSq, HCq, HOq⟩ := hrel
            have HEq : Hid (wr.heap[w.heap.size]? = some (.cells #[.int .i64 ((qn : Int) + 1), .slice (some ⟨gA, 0, none⟩) nA cy9, .slice y5 (m + 1) c5] 32 (0, 0))) := box_out HE3.out HOq.out (by have := HN.out.2.2.1; omega)
            have HFq : Hid (wr.heap[F]? = some (.cells #[.int .i64 (qn : Int), .slice na nl nc] 63 (0, 0))) := box_out HF3.out HOq.out (by have := HN.out.2.2.1; omega)
            obtain ⟨x0, x1, x2, -, -, -⟩ := box3_cells HEq.out
            obtain ⟨y0, y1, -, -⟩ := box2_cells HFq.out
            by_cases hlt : jj < nA
            · have hc := HCq.out jj hlt
              rw [if_neg (by omega)] at hc
              have c0 : wr.cell? ⟨gA, jj, none⟩ = some (iv (gi slA jj)) := cell_of_block HSq.out hc
              have f0 : wr.frozen? ⟨gA, jj, none⟩ = false := free_of_block HSq.out
              have hjn : (jj : Int) < (nA : Int) := by omega
              have hbi := bit_is (h := jj) (q := qn) (by omega) (by omega)
              rw [u64_small (by omega)] at hbi
              have HC0 : Hid (¬ (gi slA jj = (k : Int) ∧ bit jj qn = 1) → ∀ i, i < nA → cq[i]? = some (iv (if i < jj + 1 ∧ gi slA i = (k : Int) ∧ bit i qn = 1 then (m : Int) else gi slA i))) := by
                intro hno i hi
                rw [HCq.out i hi]
                by_cases e : i = jj
                · subst e
                  rw [if_neg (by omega), if_neg (fun h => hno h.2)]
                · by_cases h : i < jj ∧ gi slA i = (k : Int) ∧ bit i qn = 1
                  · rw [if_pos h, if_pos ⟨by omega, h.2⟩]
                  · rw [if_neg h, if_neg (fun h' => h ⟨by omega, h'.2⟩)]
              have HC1 : Hid (gi slA jj = (k : Int) ∧ bit jj qn = 1 → ∀ i, i < nA → (cq.setIfInBounds jj (iv (m : Int)))[i]? = some (iv (if i < jj + 1 ∧ gi slA i = (k : Int) ∧ bit i qn = 1 then (m : Int) else gi slA i))) := by
                intro hy i hi
                have hlt' : jj < cq.size := (Array.getElem?_eq_some_iff.1 (HCq.out jj hlt)).1
                by_cases e : i = jj
                · subst e
                  rw [set_at hlt', if_pos ⟨by omega, hy⟩]
                · rw [set_ne e, HCq.out i hi]
                  by_cases h : i < jj ∧ gi slA i = (k : Int) ∧ bit i qn = 1
                  · rw [if_pos h, if_pos ⟨by omega, h.2⟩]
                  · rw [if_neg h, if_neg (fun h' => h ⟨by omega, h'.2⟩)]
              obtain ⟨g, hg⟩ : ∃ g, gi slA jj = g := ⟨_, rfl⟩
              have Hg : Hid _ := hg
              rw [hg] at c0
              clear hc hg
              by_cases hgk : g = (k : Int)
              · subst hgk
                rcases bit_two jj qn with hbt | hbt
                · rw [hbt] at hbi
                  have hb1 : (bits .and .i64 ((jj : Int) / 2 ^ qn) 1 == 1) = false := by rw [hbi]; rfl
                  go_wp2_with fail
                  go_round
                  case rel => exact ⟨jj + 1, cq, by omega, by go_num, HSq, HC0.out (by omega), HOq⟩
                  case measure => simp [intOf]; omega
                · rw [hbt] at hbi
                  have hb1 : (bits .and .i64 ((jj : Int) / 2 ^ qn) 1 == 1) = true := by rw [hbi]; rfl
                  go_wp2_with fail
                  go_round
                  case rel => exact ⟨jj + 1, _, by omega, by go_num, block_set HSq.out, HC1.out ⟨Hg.out, hbt⟩, HOq.out.setCell (Nat.le_refl _) (Nat.lt_succ_self _) _ _⟩
                  case measure => simp [intOf]; omega
              · have hgk' : (g == (k : Int)) = false := by simp [hgk]
                go_wp2_with fail
                go_round
                case rel => exact ⟨jj + 1, cq, by omega, by go_num, HSq, HC0.out (by rw [Hg.out]; exact fun h => hgk h.1), HOq⟩
                case measure => simp [intOf]; omega
            · have hjn' : jj = nA := by omega
              subst jj
              clear hlt hjj
              have HZq : Hid (wr.heap[w.heap.size + 1]? = some (.cells #[.int .i64 0, .slice none 0 0, .slice none 0 0] 32 (0, 0))) := box_out HZ3.out HOq.out (by have := HN.out.2.2.1; omega)
              obtain ⟨z0, z1, z2, z3, z4, z5⟩ := box3_cells HZq.out
              go_wp2_with fail
              obtain ⟨W9, hW9⟩ : ∃ W9, ((wr.setCell ⟨w.heap.size + 1, 0, none⟩ (.int .i64 ((qn : Int) + 1))).setCell ⟨w.heap.size + 1, 1, none⟩ (.slice (some ⟨gA, 0, none⟩) nA cy9)).setCell ⟨w.heap.size + 1, 2, none⟩ (.slice y5 (m + 1) c5) = W9 := ⟨_, rfl⟩
              have o9 : Out (w.heap.size + 1) (w.heap.size + 1 + 1) wr W9 := by subst hW9; exact (((Out.refl _ _ _).setCell (Nat.le_refl _) (Nat.lt_succ_self _) _ _).setCell (Nat.le_refl _) (Nat.lt_succ_self _) _ _).setCell (Nat.le_refl _) (Nat.lt_succ_self _) _ _
              have R9 : W9.heap[w.heap.size + 1]? = some (.cells #[.int .i64 ((qn : Int) + 1), .slice (some ⟨gA, 0, none⟩) nA cy9, .slice y5 (m + 1) c5] 32 (0, 0)) := by subst hW9; exact box3_set HZq.out
              rw [hW9]
              clear hW9
              obtain ⟨t0, t1, t2, -, -, -⟩ := box3_cells R9
              have hsn : GB w5 B (.slice y5 (m + 1) c5) (d.bs.set k ⟨(qn : Int) + 1, lo⟩ ++ [⟨(qn : Int) + 1, li⟩]) (kbPut (kbPut kb k gl) (d.bs.set k (⟨(qn : Int) + 1, lo⟩ : Bk)).length gh) := GB.snoc (w := V2) (v := .slice (some ⟨gB, 0, none⟩) m cap) (by rw [hml]; exact HOX.out) HXX.out HDD.out (by rw [hml]; exact HO5.out) HG5.out HN2.out (by rw [hml]; exact HD1.out)
              have k9 : KeepT w5 W9 := ((KeepT.out HE5.out ⟨by decide, by decide⟩ HO3.out).trans (KeepT.out HS3.out ⟨by decide, by decide⟩ HOq.out)).trans (KeepT.out HZq.out ⟨by decide, by decide⟩ o9)
              have hst : stS d s = cuS2 (dbl d) k qn := by unfold stS; rw [HW.out, HD.out.2.2.2.1, HD.out.2.2.2.2]
              have hbs : (cuS2 (dbl d) k qn).bs = d.bs.set k ⟨(qn : Int) + 1, lo⟩ ++ [⟨(qn : Int) + 1, li⟩] := by have hdb : (dbl d).bs = d.bs := rfl; unfold cuS2; simp only [hdb, HLO.out.1, HLO.out.2]; push_cast; rfl
              have hsl9 : (cuS2 (dbl d) k qn).sl.length = nA := by unfold cuS2; simp [HLA.out]
              have hbl9 : (cuS2 (dbl d) k qn).bs.length = m + 1 := by rw [hbs]; simp [HD.out.2.2.1]
              have hgsw := HN.out.2.2.1
              have hSp : SpO W9 B (.agg #[.int .i64 ((qn : Int) + 1), .slice (some ⟨gA, 0, none⟩) nA cy9, .slice y5 (m + 1) c5]) (cuS2 (dbl d) k qn) (kbPut (kbPut kb k gl) (d.bs.set k (⟨(qn : Int) + 1, lo⟩ : Bk)).length gh) := by
                refine ⟨gA, cy9, cq, .slice y5 (m + 1) c5, by rw [hsl9]; show _ = Value.agg #[.int .i64 (d.dp + 1), _, _]; rw [HD.out.1], by rw [hsl9]; exact hsc, hgs, box_out HSq.out o9 (by omega), ?_, by rw [hbs]; exact hsn.keepT k9⟩
                rw [hsl9]
                intro i hi
                rw [HCq.out i hi, cuS2_sl HLA.out HD.out.2.2.1 hi, HDs.out]
                by_cases h : gi slA i = (k : Int) ∧ bit i qn = 1
                · rw [if_pos h, if_pos ⟨hi, h⟩]
                · rw [if_neg h, if_neg (fun h' => h h'.2)]
              have hbel : Below B w W9 := by
                obtain ⟨v1, v2, v3⟩ := HV.out
                have g1 := HN.out.2.2.2.1
                have g2 := bwA.size
                have g3 := bA8.size
                have g4 := ho.size
                have s1 : Below B w R := ((bwA.mono hB).trans (bA8.mono (by omega))).trans ((ho.below (by omega)).mono (by omega))
                have s2 : Below B R V2 := ((v1.below (by omega)).mono (by omega)).trans (v2.mono (by omega))
                have s3 : Below B V2 w5 := Grown.below HG5.out zB2 (owns_ge HOX.out)
                have g5 := s1.size
                have g6 := s2.size
                have g7 := s3.size
                have g8 := HO3.out.size
                have g9 := HOq.out.size
                exact ((((s1.trans s2).trans s3).trans ((HO3.out.below (by omega)).mono (by omega))).trans ((HOq.out.below (by omega)).mono (by omega))).trans ((o9.below (by omega)).mono (by omega))
              have hz9 : w.heap.size ≤ W9.heap.size := hbel.size
              refine bodyPost_ret (v := .tuple #[.agg #[.int .i64 ((qn : Int) + 1), .slice (some ⟨gA, 0, none⟩) nA cy9, .slice y5 (m + 1) c5], .bool true]) (by simp [results, Try.results36, go_sem, t0, t1, t2]) rfl ⟨hbel, hz9, fun h8 => ?_, fun _ => ⟨_, _, rfl, by rw [hst]; exact hSp⟩⟩
              rw [Hq1.out] at h8
              omega
  · have HW : Hid (wide d s = d) := by show _ = _; unfold wide; rw [if_neg (by rw [HNm.out, Hq1.out, HD.out.1]; exact hqd)]
    go_enter Try.func36, Try.ntmps36
    have hg2 := q01.size
    have HN : Hid (w.heap.size + 1 < F ∧ F < W1.heap.size ∧ (gs < W1.heap.size ∧ gs ≠ w.heap.size ∧ gs ≠ w.heap.size + 1 ∧ gs ≠ F) ∧ gB < w.heap.size ∧ B ≤ w.heap.size ∧ B ≤ gs) := by have := HN.out; exact ⟨by omega, by omega, ⟨by omega, by omega, by omega, by omega⟩, by omega, by omega, by omega⟩
    clear hg2
    have bwA : Below w.heap.size w W1 := q01
    have hwA : w.heap.size ≤ W1.heap.size := q01.size
    have hFA : F < W1.heap.size := HN.out.2.1
    have hEA : w.heap.size + 1 < F := HN.out.1
    have HNl : Hid ((gb d.bs k).ns.length = nl) := Hnl
    have hqd' : ((qn : Int) == DP) = false := by simp [hqd]
    obtain ⟨Wa, hWa⟩ : ∃ Wa, W1.alloc (.cells #[.int .i64 ((qn : Int) + 1), .slice none 0 0] 63) = Wa := ⟨_, rfl⟩
    have ba : Below W1.heap.size W1 Wa := by subst hWa; exact below_alloc _ _
    have HLa : Wa.heap[W1.heap.size]? = some (.cells #[.int .i64 ((qn : Int) + 1), .slice none 0 0] 63 (0, 0)) := by subst hWa; exact al1 _ _
    have hza : Wa.heap.size = W1.heap.size + 1 := by subst hWa; rw [sz1]
    obtain ⟨W7, hW7⟩ : ∃ W7, Wa.setCell ⟨W1.heap.size, 1, none⟩ (.slice none 0 0) = W7 := ⟨_, rfl⟩
    have o7 : Out W1.heap.size (W1.heap.size + 1) Wa W7 := by subst hW7; exact out_setCell _ _ _ _
    have b7 : Below W1.heap.size W1 W7 := ba.trans (o7.below (by omega))
    have HL7 : W7.heap[W1.heap.size]? = some (.cells #[.int .i64 ((qn : Int) + 1), .slice none 0 0] 63 (0, 0)) := by subst hW7; exact block_set HLa
    have hz7 : W7.heap.size = W1.heap.size + 1 := by subst hW7; simpa using hza
    obtain ⟨Wb, hWb⟩ : ∃ Wb, W7.alloc (.cells #[.int .i64 ((qn : Int) + 1), .slice none 0 0] 63) = Wb := ⟨_, rfl⟩
    have bb7 : Below W7.heap.size W7 Wb := by subst hWb; exact below_alloc _ _
    have HHb : Wb.heap[W7.heap.size]? = some (.cells #[.int .i64 ((qn : Int) + 1), .slice none 0 0] 63 (0, 0)) := by subst hWb; exact al1 _ _
    have hzb : Wb.heap.size = W7.heap.size + 1 := by subst hWb; rw [sz1]
    obtain ⟨W8, hW8⟩ : ∃ W8, Wb.setCell ⟨W7.heap.size, 1, none⟩ (.slice none 0 0) = W8 := ⟨_, rfl⟩
    have o8 : Out W7.heap.size (W7.heap.size + 1) Wb W8 := by subst hW8; exact out_setCell _ _ _ _
    have b8 : Below W7.heap.size W7 W8 := bb7.trans (o8.below (by omega))
    have HH8 : Hid (W8.heap[W7.heap.size]? = some (.cells #[.int .i64 ((qn : Int) + 1), .slice none 0 0] 63 (0, 0))) := by subst hW8; exact block_set HHb
    have HL8 : Hid (W8.heap[W1.heap.size]? = some (.cells #[.int .i64 ((qn : Int) + 1), .slice none 0 0] 63 (0, 0))) := box_on HL7 b8
    have hz8 : W8.heap.size = W7.heap.size + 1 := by subst hW8; simpa using hzb
    have Hzz : Hid (W7.heap.size = W1.heap.size + 1 ∧ W8.heap.size = W1.heap.size + 2) := ⟨hz7, by omega⟩
    have bA8 : Below W1.heap.size W1 W8 := b7.trans (b8.mono (by omega))
    have HF8 : Hid (W8.heap[F]? = some (.cells #[.int .i64 (qn : Int), .slice na nl nc] 63 (0, 0))) := box_on HF.out bA8
    obtain ⟨j7, j8, -, -⟩ := box2_cells (box_on HF.out b7)
    obtain ⟨k7, k8, -, -⟩ := box2_cells HF8.out
    obtain ⟨l0, l1, l2, l3⟩ := box2_cells HLa
    obtain ⟨m0, m1, m2, m3⟩ := box2_cells HHb
    clear HL7 HLa HHb hz7 hz8 hza hzb
    go_wp2_with fail
    clear hWa hWb hW7 hW8 x0 x1 x2 y0 y1 j0 j1 j7 j8 k7 k8 e0 e1 e2 e3 e4 e5 r0 r1 r2 r3 r4 r5 l0 l1 l2 l3 m0 m1 m2 m3
    try simp only [hqd']
    go_loopw [50] (fun i wr => ∃ (kk : Nat) (xl xh : Option Addr) (cl ch : Nat), kk ≤ nl ∧ i = .int .i64 kk ∧ Hid (wr.heap[W1.heap.size]? = some (.cells #[.int .i64 ((qn : Int) + 1), .slice xl (hb qn 0 ((gb d.bs k).ns.take kk)).length cl] 63 (0, 0))) ∧ Hid (wr.heap[W7.heap.size]? = some (.cells #[.int .i64 ((qn : Int) + 1), .slice xh (hb qn 1 ((gb d.bs k).ns.take kk)).length ch] 63 (0, 0))) ∧ Hid (Tw wr W8.heap.size (.slice xl (hb qn 0 ((gb d.bs k).ns.take kk)).length cl) (.slice xh (hb qn 1 ((gb d.bs k).ns.take kk)).length ch) (hb qn 0 ((gb d.bs k).ns.take kk)) (hb qn 1 ((gb d.bs k).ns.take kk))) ∧ Out W1.heap.size (W1.heap.size + 2) W8 wr) (fun i _ => nl - (intOf i).toNat)
    case atStart => exact ⟨0, none, none, 0, 0, Nat.zero_le _, rfl, HL8, HH8, ⟨OwnN.nil _ _, OwnN.nil _ _, fun b h => by cases h⟩, Out.refl _ _ _⟩
    case round =>
      obtain ⟨kk, xl, xh, cl, ch, hkk, rfl, HLr, HHr, HTr, ho⟩ := hrel
      by_cases hlt : kk < nl
      · obtain ⟨bb, boff, rfl, hcell⟩ := HNa.out.1 (by rw [HNl.out]; omega)
        obtain ⟨c0, c1⟩ := hcell kk (by rw [HNl.out]; exact hlt)
        have bw8 : Below w.heap.size w W8 := bwA.trans (bA8.mono hwA)
        have hwr : ∀ {ad : Addr} {u : Value}, w.cell? ad = some u → wr.cell? ad = some u := fun {ad u} h => by
          have hlt := World.block_lt_of_cell? w _ h
          have h8 : W8.cell? ad = some u := by rw [bw8.cell (p := ad) hlt]; exact h
          rw [World.cell?_of_block (ho.block ad.block (by have := bw8.size; omega) (.inl (by omega)))]
          exact h8
        have c0' := hwr c0
        have c1' := hwr c1
        obtain ⟨x, hx⟩ : ∃ x, gm (gb d.bs k).ns kk = x := ⟨_, rfl⟩
        have HX : Hid _ := hx
        rw [hx] at c0' c1'
        clear hcell c0 c1 hx
        have HFr : Hid (wr.heap[F]? = some (.cells #[.int .i64 (qn : Int), .slice (some ⟨bb, boff, none⟩) nl nc] 63 (0, 0))) := box_out HF8.out ho (.inl (by omega))
        obtain ⟨sx, fx⟩ := x
        simp only at c0' c1'
        obtain ⟨Wt, hWt⟩ : ∃ Wt, wr.alloc (.cells #[.string sx, .int .i64 fx] 36) = Wt := ⟨_, rfl⟩
        have bt : Below wr.heap.size wr Wt := by subst hWt; exact below_alloc _ _
        obtain ⟨T, hT⟩ : ∃ T, wr.heap.size = T := ⟨_, rfl⟩
        have HT : Hid (Wt.heap[T]? = some (.cells #[.string sx, .int .i64 fx] 36 (0, 0))) := by subst hWt hT; exact al1 _ _
        have HTT : Hid _ := hT
        have SB : Hid (∀ W, Below Wt.heap.size Wt W → W.cell? ⟨T, 0, none⟩ = some (.string sx) ∧ W.cell? ⟨F, 0, none⟩ = some (.int .i64 (qn : Int)) ∧ Below Wt.heap.size Wt W) := fun W hW => ⟨(box2_cells (box_on HT.out hW)).1, (box2_cells (box_on (box_on HFr.out bt) hW)).1, hW⟩
        have hsx : sx.size ≤ 9223372036854775807 := by
          have h1 := HokN.out (gm (gb d.bs k).ns kk) (by rw [gm_eq (by rw [HNl.out]; exact hlt)]; exact List.getElem_mem _)
          rw [HX.out] at h1
          unfold isN at h1
          simp only [Bool.and_eq_true, decide_eq_true_eq] at h1
          omega
        have cHs := fun W => specHash_any sx W hsx
        go_wp2_with fail
        clear hWt hT
        go_region_held3 (fun W => W.cell? ⟨T, 0, none⟩ = some (.string sx) ∧ W.cell? ⟨F, 0, none⟩ = some (.int .i64 (qn : Int)) ∧ Below Wt.heap.size Wt W)
          ((refine SB.out _ ?_; first | assumption | exact Below.drew (Below.refl _ _) | exact Below.refl _ _))
          ((go_at_call 58; refine (cHs _).mono ?_; rintro z w6 ⟨rfl, rfl⟩))
        have hbi := bit_is (h := nh sx) (q := qn) (by omega) (by have := nh_lt sx; omega)
        rw [hbi]
        obtain ⟨lo, hlo⟩ : ∃ lo, hb qn 0 ((gb d.bs k).ns.take kk) = lo := ⟨_, rfl⟩
        obtain ⟨li, hli⟩ : ∃ li, hb qn 1 ((gb d.bs k).ns.take kk) = li := ⟨_, rfl⟩
        have HLO : Hid (hb qn 0 ((gb d.bs k).ns.take kk) = lo ∧ hb qn 1 ((gb d.bs k).ns.take kk) = li) := ⟨hlo, hli⟩
        rw [hlo] at HLr HTr
        rw [hli] at HHr HTr
        have hlo1 : lo.length ≤ 1000 := by rw [← hlo]; unfold hb; have := List.length_filter_le (fun x => decide (bit (nh x.nm) qn = 0)) ((gb d.bs k).ns.take kk); simp only [List.length_take] at this; omega
        have hli1 : li.length ≤ 1000 := by rw [← hli]; unfold hb; have := List.length_filter_le (fun x => decide (bit (nh x.nm) qn = 1)) ((gb d.bs k).ns.take kk); simp only [List.length_take] at this; omega
        clear hlo hli hbi
        have Hho : Hid (Out W1.heap.size (W1.heap.size + 2) W8 wr) := ho
        have HTs : Hid _ := HTr.out.swap
        rcases bit_two (nh sx) qn with hbt | hbt
        · rw [hbt]
          have hgm : gm (gb d.bs k).ns kk = ⟨sx, fx⟩ := HX.out
          have HS0 : Hid (hb qn 0 ((gb d.bs k).ns.take (kk + 1)) = lo ++ [⟨sx, fx⟩]) := by show _ = _; rw [hb_snoc (by rw [HNl.out]; exact hlt), hgm, if_pos hbt, HLO.out.1]
          have HS1 : Hid (hb qn 1 ((gb d.bs k).ns.take (kk + 1)) = li) := by show _ = _; rw [hb_snoc (by rw [HNl.out]; exact hlt), hgm, if_neg (by rw [hbt]; omega), List.append_nil, HLO.out.2]
          have bd : Below wr.heap.size wr Wt.drew := Below.drew bt
          have hBx : Wt.drew.heap[W1.heap.size]? = some (.cells #[.int .i64 ((qn : Int) + 1), .slice xl lo.length cl] 63 (0, 0)) := box_on HLr.out bd
          obtain ⟨x0, x1, -, -⟩ := box2_cells hBx
          obtain ⟨t0, t1, -, -⟩ := box2_cells (box_on (w := Wt) HT.out (Below.drew (Below.refl _ _)))
          obtain ⟨W9, hW9⟩ : ∃ W9, Wt.drew.alloc (.cells #[.string sx, .int .i64 fx] 36) = W9 := ⟨_, rfl⟩
          have b9 : Below Wt.drew.heap.size Wt.drew W9 := by subst hW9; exact below_alloc _ _
          have hN9 : W9.heap[Wt.drew.heap.size]? = some (.cells #[.string sx, .int .i64 fx] 36 (0, 0)) := by subst hW9; exact al1 _ _
          have b09 : Below wr.heap.size wr W9 := bd.trans (b9.mono (by have := bt.size; exact this))
          have tw9 : Tw W9 W8.heap.size (.slice xl lo.length cl) (.slice xh li.length ch) lo li := (HTr.out).below b09
          have own9 := tw9.o
          have sr9 : ∀ j u, [Value.string sx, .int .i64 fx][j]? = some u → W9.cell? ((⟨Wt.drew.heap.size, 0, none⟩ : Addr).add j) = some u := fun j u hj => by
            rw [addN]
            match j with
            | 0 => simp at hj; subst hj; exact cell_of_block hN9 rfl
            | 1 => simp at hj; subst hj; exact cell_of_block hN9 rfl
            | j + 2 => simp at hj
          have hz9 : W8.heap.size ≤ W9.heap.size := Nat.le_trans ho.size b09.size
          have HTW9 : Hid _ := tw9
          have hvl : lo.length ≤ 1000 := hlo1
          obtain ⟨vl, hvl'⟩ : ∃ vl, lo.length = vl := ⟨_, rfl⟩
          have Hvl : Hid (lo.length = vl) := hvl'
          have HX9 : Hid (W9.heap[W1.heap.size]? = some (.cells #[.int .i64 ((qn : Int) + 1), .slice xl lo.length cl] 63 (0, 0))) := box_on HLr.out b09
          have HY9 : Hid (W9.heap[W7.heap.size]? = some (.cells #[.int .i64 ((qn : Int) + 1), .slice xh li.length ch] 63 (0, 0))) := box_on HHr.out b09
          have own9' : W9.ownsRow W8.heap.size 36 2 (.slice xl lo.length cl) lo.length (cns lo) := own9
          have HB9 : Hid (Below W8.heap.size wr W9) := b09.mono ho.size
          rw [hvl'] at x1 own9' hvl
          clear hvl' own9 tw9 hN9
          go_wp2_with (at_builtin; refine wpList_append_at rfl _ _ 48 rfl W8.heap.size 36 _ 2 24 Try.underlying48 info47 rfl (by decide) (.slice xl vl cl) vl (cns lo) rfl own9' ⟨Wt.drew.heap.size, 0, none⟩ 1 1 [.string sx, .int .i64 fx] rfl rfl sr9 (by simp [Value.oneCell']) (by omega) (by decide) hz9 ?_; intro v5 w5 own5 gr5 at5; obtain ⟨y5, c5, e5⟩ := owns_form own5; subst e5; have HO5 : Hid (w5.ownsRow W8.heap.size 36 2 (.slice y5 (vl + 1) c5) (vl + 1) (cns lo ++ [.string sx, .int .i64 fx])) := own5; have HG5 : Hid (W9.grownBy w5 (Value.slice xl vl cl).ownBlock) := gr5; have HA5 : Hid ((Value.slice y5 (vl + 1) c5).ownBlock = (Value.slice xl vl cl).ownBlock ∨ (Value.slice y5 (vl + 1) c5).ownBlock = some W9.heap.size) := at5; have HK5 : Hid (∀ k, k < W8.heap.size → w5.heap[k]? = W9.heap[k]?) := (fun k hk => gr5.block k (by omega) (fun e => by have h9 := (own_row own9' _ e.symm).1; omega)); have HX5 : Hid (w5.heap[W1.heap.size]? = some (.cells #[.int .i64 ((qn : Int) + 1), .slice xl lo.length cl] 63 (0, 0))) := (by show _ = _; rw [HK5.out _ (by have := Hzz.out; omega)]; exact HX9.out); obtain ⟨p0, p1, p2, p3⟩ := box2_cells HX5.out)
          go_round
          case rel =>
            have hzz := Hzz.out
            have o9 := out_setCell w5 W1.heap.size 1 (.slice y5 (vl + 1) c5)
            have hb5 : Below W8.heap.size wr w5 := HB9.out.trans (Grown.below HG5.out hz9 (owns_ge own9'))
            have htw := Tw.snoc (x := ⟨sx, fx⟩) HTW9.out (by rw [Hvl.out]; exact HO5.out) (by rw [Hvl.out]; exact HG5.out) (by rw [Hvl.out]; exact HA5.out)
            have htw' := htw.outZ o9 (by omega)
            have hVl : (lo ++ [(⟨sx, fx⟩ : Nm)]).length = vl + 1 := by simp [Hvl.out]
            have hx6 : (w5.setCell ⟨W1.heap.size, 1, none⟩ (.slice y5 (vl + 1) c5)).heap[W1.heap.size]? = some (.cells #[.int .i64 ((qn : Int) + 1), .slice y5 (vl + 1) c5] 63 (0, 0)) := block_set HX5.out
            have hy6 : (w5.setCell ⟨W1.heap.size, 1, none⟩ (.slice y5 (vl + 1) c5)).heap[W7.heap.size]? = some (.cells #[.int .i64 ((qn : Int) + 1), .slice xh li.length ch] 63 (0, 0)) := box_out (by rw [HK5.out _ (by omega)]; exact HY9.out) o9 (by omega)
            have hout : Out W1.heap.size (W1.heap.size + 2) W8 (w5.setCell ⟨W1.heap.size, 1, none⟩ (.slice y5 (vl + 1) c5)) := (Out.belowT Hho.out hb5 (Nat.le_trans HB9.out.size HG5.out.size)).trans (o9.mono (by omega) (by omega))
            have hvl2 := Hvl.out
            clear p0 p1 p2 p3
            refine ⟨kk + 1, y5, xh, c5, ch, by omega, by go_num, ?_, ?_, ?_, hout⟩
            · show _ = _; rw [HS0.out, hVl]; exact hx6
            · show _ = _; rw [HS1.out]; exact hy6
            · show Tw _ _ _ _ _ _
              rw [HS0.out, HS1.out, hVl]
              exact htw'
          case measure => simp [intOf]; omega
        · rw [hbt]
          have hgm : gm (gb d.bs k).ns kk = ⟨sx, fx⟩ := HX.out
          have HS0 : Hid (hb qn 1 ((gb d.bs k).ns.take (kk + 1)) = li ++ [⟨sx, fx⟩]) := by show _ = _; rw [hb_snoc (by rw [HNl.out]; exact hlt), hgm, if_pos hbt, HLO.out.2]
          have HS1 : Hid (hb qn 0 ((gb d.bs k).ns.take (kk + 1)) = lo) := by show _ = _; rw [hb_snoc (by rw [HNl.out]; exact hlt), hgm, if_neg (by rw [hbt]; omega), List.append_nil, HLO.out.1]
          have bd : Below wr.heap.size wr Wt.drew := Below.drew bt
          have hBx : Wt.drew.heap[W7.heap.size]? = some (.cells #[.int .i64 ((qn : Int) + 1), .slice xh li.length ch] 63 (0, 0)) := box_on HHr.out bd
          obtain ⟨x0, x1, -, -⟩ := box2_cells hBx
          obtain ⟨t0, t1, -, -⟩ := box2_cells (box_on (w := Wt) HT.out (Below.drew (Below.refl _ _)))
          obtain ⟨W9, hW9⟩ : ∃ W9, Wt.drew.alloc (.cells #[.string sx, .int .i64 fx] 36) = W9 := ⟨_, rfl⟩
          have b9 : Below Wt.drew.heap.size Wt.drew W9 := by subst hW9; exact below_alloc _ _
          have hN9 : W9.heap[Wt.drew.heap.size]? = some (.cells #[.string sx, .int .i64 fx] 36 (0, 0)) := by subst hW9; exact al1 _ _
          have b09 : Below wr.heap.size wr W9 := bd.trans (b9.mono (by have := bt.size; exact this))
          have tw9 : Tw W9 W8.heap.size (.slice xh li.length ch) (.slice xl lo.length cl) li lo := (HTs.out).below b09
          have own9 := tw9.o
          have sr9 : ∀ j u, [Value.string sx, .int .i64 fx][j]? = some u → W9.cell? ((⟨Wt.drew.heap.size, 0, none⟩ : Addr).add j) = some u := fun j u hj => by
            rw [addN]
            match j with
            | 0 => simp at hj; subst hj; exact cell_of_block hN9 rfl
            | 1 => simp at hj; subst hj; exact cell_of_block hN9 rfl
            | j + 2 => simp at hj
          have hz9 : W8.heap.size ≤ W9.heap.size := Nat.le_trans ho.size b09.size
          have HTW9 : Hid _ := tw9
          have hvl : li.length ≤ 1000 := hli1
          obtain ⟨vl, hvl'⟩ : ∃ vl, li.length = vl := ⟨_, rfl⟩
          have Hvl : Hid (li.length = vl) := hvl'
          have HX9 : Hid (W9.heap[W7.heap.size]? = some (.cells #[.int .i64 ((qn : Int) + 1), .slice xh li.length ch] 63 (0, 0))) := box_on HHr.out b09
          have HY9 : Hid (W9.heap[W1.heap.size]? = some (.cells #[.int .i64 ((qn : Int) + 1), .slice xl lo.length cl] 63 (0, 0))) := box_on HLr.out b09
          have own9' : W9.ownsRow W8.heap.size 36 2 (.slice xh li.length ch) li.length (cns li) := own9
          have HB9 : Hid (Below W8.heap.size wr W9) := b09.mono ho.size
          rw [hvl'] at x1 own9' hvl
          clear hvl' own9 tw9 hN9
          go_wp2_with (at_builtin; refine wpList_append_at rfl _ _ 48 rfl W8.heap.size 36 _ 2 24 Try.underlying48 info47 rfl (by decide) (.slice xh vl ch) vl (cns li) rfl own9' ⟨Wt.drew.heap.size, 0, none⟩ 1 1 [.string sx, .int .i64 fx] rfl rfl sr9 (by simp [Value.oneCell']) (by omega) (by decide) hz9 ?_; intro v5 w5 own5 gr5 at5; obtain ⟨y5, c5, e5⟩ := owns_form own5; subst e5; have HO5 : Hid (w5.ownsRow W8.heap.size 36 2 (.slice y5 (vl + 1) c5) (vl + 1) (cns li ++ [.string sx, .int .i64 fx])) := own5; have HG5 : Hid (W9.grownBy w5 (Value.slice xh vl ch).ownBlock) := gr5; have HA5 : Hid ((Value.slice y5 (vl + 1) c5).ownBlock = (Value.slice xh vl ch).ownBlock ∨ (Value.slice y5 (vl + 1) c5).ownBlock = some W9.heap.size) := at5; have HK5 : Hid (∀ k, k < W8.heap.size → w5.heap[k]? = W9.heap[k]?) := (fun k hk => gr5.block k (by omega) (fun e => by have h9 := (own_row own9' _ e.symm).1; omega)); have HX5 : Hid (w5.heap[W7.heap.size]? = some (.cells #[.int .i64 ((qn : Int) + 1), .slice xh li.length ch] 63 (0, 0))) := (by show _ = _; rw [HK5.out _ (by have := Hzz.out; omega)]; exact HX9.out); obtain ⟨p0, p1, p2, p3⟩ := box2_cells HX5.out)
          go_round
          case rel =>
            have hzz := Hzz.out
            have o9 := out_setCell w5 W7.heap.size 1 (.slice y5 (vl + 1) c5)
            have hb5 : Below W8.heap.size wr w5 := HB9.out.trans (Grown.below HG5.out hz9 (owns_ge own9'))
            have htw := Tw.snoc (x := ⟨sx, fx⟩) HTW9.out (by rw [Hvl.out]; exact HO5.out) (by rw [Hvl.out]; exact HG5.out) (by rw [Hvl.out]; exact HA5.out)
            have htw' := htw.outZ o9 (by omega)
            have hVl : (li ++ [(⟨sx, fx⟩ : Nm)]).length = vl + 1 := by simp [Hvl.out]
            have hx6 : (w5.setCell ⟨W7.heap.size, 1, none⟩ (.slice y5 (vl + 1) c5)).heap[W7.heap.size]? = some (.cells #[.int .i64 ((qn : Int) + 1), .slice y5 (vl + 1) c5] 63 (0, 0)) := block_set HX5.out
            have hy6 : (w5.setCell ⟨W7.heap.size, 1, none⟩ (.slice y5 (vl + 1) c5)).heap[W1.heap.size]? = some (.cells #[.int .i64 ((qn : Int) + 1), .slice xl lo.length cl] 63 (0, 0)) := box_out (by rw [HK5.out _ (by omega)]; exact HY9.out) o9 (by omega)
            have hout : Out W1.heap.size (W1.heap.size + 2) W8 (w5.setCell ⟨W7.heap.size, 1, none⟩ (.slice y5 (vl + 1) c5)) := (Out.belowT Hho.out hb5 (Nat.le_trans HB9.out.size HG5.out.size)).trans (o9.mono (by omega) (by omega))
            have hvl2 := Hvl.out
            clear p0 p1 p2 p3
            refine ⟨kk + 1, xl, y5, cl, c5, by omega, by go_num, ?_, ?_, ?_, hout⟩
            · show _ = _; rw [HS1.out]; exact hy6
            · show _ = _; rw [HS0.out, hVl]; exact hx6
            · show Tw _ _ _ _ _ _
              rw [HS1.out, HS0.out, hVl]
              exact htw'.swap
          case measure => simp [intOf]; omega
      · have hkn : kk = nl := by omega
        subst kk
        have htk : (gb d.bs k).ns.take nl = (gb d.bs k).ns := by rw [← HNl.out]; exact List.take_length
        rw [htk] at HLr HHr HTr
        clear htk hlt hkk
        have hzz := Hzz.out
        obtain ⟨lo, hlo⟩ : ∃ lo, hb qn 0 (gb d.bs k).ns = lo := ⟨_, rfl⟩
        obtain ⟨li, hli⟩ : ∃ li, hb qn 1 (gb d.bs k).ns = li := ⟨_, rfl⟩
        have HLO : Hid (hb qn 0 (gb d.bs k).ns = lo ∧ hb qn 1 (gb d.bs k).ns = li) := ⟨hlo, hli⟩
        rw [hlo] at HLr HTr
        rw [hli] at HHr HTr
        clear hlo hli
        obtain ⟨gl, hnl⟩ := HTr.out.o.nb
        obtain ⟨gh, hnh⟩ := HTr.out.i.nb
        have bw8 : Below w.heap.size w W8 := bwA.trans (bA8.mono hwA)
        have hout8 : ∀ g c t, W8.heap[g]? = some (.cells c t (0, 0)) → g < W1.heap.size → wr.heap[g]? = some (.cells c t (0, 0)) := fun g c t hg hlt => by rw [ho.block g (box_lt hg) (.inl hlt)]; exact hg
        have HEr : Hid (wr.heap[w.heap.size]? = some (.cells #[.int .i64 DP, .slice (some ⟨gs, 0, none⟩) n c, .slice (some ⟨gB, 0, none⟩) m cap] 32 (0, 0))) := hout8 _ _ _ (box_on HE.out bA8) (by omega)
        have HZr : Hid (wr.heap[w.heap.size + 1]? = some (.cells #[.int .i64 0, .slice none 0 0, .slice none 0 0] 32 (0, 0))) := hout8 _ _ _ (box_on HZ.out bA8) (by omega)
        have HFr : Hid (wr.heap[F]? = some (.cells #[.int .i64 (qn : Int), .slice na nl nc] 63 (0, 0))) := hout8 _ _ _ HF8.out (by omega)
        have HGBr : Hid (GB wr B (.slice (some ⟨gB, 0, none⟩) m cap) d.bs kb) := GB.low HGB.out bA8 ho (by omega)
        have HSr : Hid (wr.heap[gs]? = some (.cells cs 3 (0, 0))) := hout8 _ _ _ (box_on HSl.out.1 bA8) (by have := HN.out.2.2.1; omega)
        obtain ⟨cur, hcur, hcsz, hBg⟩ := HGBr.out.block HD.out.2.2.1
        have hsB : gs ≠ gB := fun e => by
          have h := HSr.out
          rw [e, hcur] at h
          simp at h
        have HsB : Hid (gs ≠ gB) := hsB
        have n0 : NB wr B wr.heap.size (.slice xl lo.length cl) lo gl := hnl.mono (by have := bA8.size; have := bw8.size; omega) (Nat.le_refl _)
        have n1 : NB wr B wr.heap.size (.slice xh li.length ch) li gh := hnh.mono (by have := bA8.size; have := bw8.size; omega) (Nat.le_refl _)
        have hgl : lo ≠ [] → W8.heap.size ≤ gl := fun h => (hnl.within h).1
        have hgh : li ≠ [] → W8.heap.size ≤ gh := fun h => (hnh.within h).1
        have hdj : lo ≠ [] → li ≠ [] → gl ≠ gh := fun h1 h2 e => by
          obtain ⟨a1, c1, e1, -, r1⟩ := hnl
          obtain ⟨a2, c2, e2, -, r2⟩ := hnh
          cases e1
          cases e2
          obtain ⟨s1, -⟩ := r1 h1
          obtain ⟨s2, -⟩ := r2 h2
          exact HTr.out.dj gl (by rw [s1]; rfl) (by rw [s2, e]; rfl)
        have hkbl : ∀ r, r < m → (gb d.bs r).ns ≠ [] → kb r < W1.heap.size := fun r hr hn => (HGB.out.row (by rw [HD.out.2.2.1]; exact hr) hn).2.1
        have HG1 : Hid (GB ((wr.setCell ⟨gB, k * 2, none⟩ (.int .i64 ((qn : Int) + 1))).setCell ⟨gB, k * 2 + 1, none⟩ (.slice xl lo.length cl)) B (.slice (some ⟨gB, 0, none⟩) m cap) (d.bs.set k ⟨(qn : Int) + 1, lo⟩) (kbPut kb k gl)) := HGBr.out.put HD.out.2.2.1 hkm n0 (fun h r hr _ hn => by have := hkbl r hr hn; have := hgl h; omega)
        have n2 : NB ((wr.setCell ⟨gB, k * 2, none⟩ (.int .i64 ((qn : Int) + 1))).setCell ⟨gB, k * 2 + 1, none⟩ (.slice xl lo.length cl)) B wr.heap.size (.slice xh li.length ch) li gh := by
          refine n1.out (((Out.refl gB (gB + 1) wr).setCell (Nat.le_refl _) (Nat.lt_succ_self _) _ _).setCell (Nat.le_refl _) (Nat.lt_succ_self _) _ _) (fun h => ?_)
          have := hgh h
          omega
        obtain ⟨x0, x1, x2, x3, x4, x5⟩ := box3_cells HEr.out
        obtain ⟨l0, l1, -, -⟩ := box2_cells HLr.out
        have c0 : wr.cell? ⟨gB, k * 2, none⟩ = some (cur[k * 2]'(by omega)) := cell_of_block hcur (by simp)
        have c1 : wr.cell? ⟨gB, k * 2 + 1, none⟩ = some (cur[k * 2 + 1]'(by omega)) := cell_of_block hcur (by simp)
        have f0 := free_of_block (i := k * 2) hcur
        have f1 := free_of_block (i := k * 2 + 1) hcur
        obtain ⟨V1, hV1⟩ : ∃ V1, (wr.setCell ⟨gB, k * 2, none⟩ (.int .i64 ((qn : Int) + 1))).setCell ⟨gB, k * 2 + 1, none⟩ (.slice xl lo.length cl) = V1 := ⟨_, rfl⟩
        have o1 : Out gB (gB + 1) wr V1 := by subst hV1; exact ((Out.refl _ _ _).setCell (Nat.le_refl _) (Nat.lt_succ_self _) _ _).setCell (Nat.le_refl _) (Nat.lt_succ_self _) _ _
        have z1 : V1.heap.size = wr.heap.size := by subst hV1; simp
        rw [hV1] at HG1 n2
        have hgBA : gB < W1.heap.size := by have := HN.out.2.2.2.1; omega
        have hE1 : V1.heap[w.heap.size]? = _ := box_out HEr.out o1 (by have := HN.out.2.2.2.1; omega)
        have hH1 : V1.heap[W7.heap.size]? = _ := box_out HHr.out o1 (by omega)
        have HS1 : Hid (V1.heap[gs]? = some (.cells cs 3 (0, 0))) := box_out HSr.out o1 (by omega)
        have HF1 : Hid (V1.heap[F]? = some (.cells #[.int .i64 (qn : Int), .slice na nl nc] 63 (0, 0))) := box_out HFr.out o1 (by have := HN.out.2.2.2.1; omega)
        have HZ1 : Hid (V1.heap[w.heap.size + 1]? = some (.cells #[.int .i64 0, .slice none 0 0, .slice none 0 0] 32 (0, 0))) := box_out HZr.out o1 (by have := HN.out.2.2.2.1; omega)
        obtain ⟨e0, e1, e2, -, -, -⟩ := box3_cells hE1
        obtain ⟨u0, u1, -, -⟩ := box2_cells hH1
        obtain ⟨V2, hV2⟩ : ∃ V2, V1.alloc (.cells #[.int .i64 ((qn : Int) + 1), .slice xh li.length ch] 63) = V2 := ⟨_, rfl⟩
        have b2 : Below V1.heap.size V1 V2 := by subst hV2; exact below_alloc _ _
        have hN2 : V2.heap[V1.heap.size]? = some (.cells #[.int .i64 ((qn : Int) + 1), .slice xh li.length ch] 63 (0, 0)) := by subst hV2; exact al1 _ _
        have HG2 : Hid (GB V2 B (.slice (some ⟨gB, 0, none⟩) m cap) (d.bs.set k ⟨(qn : Int) + 1, lo⟩) (kbPut kb k gl)) := HG1.out.keepT (KeepT.below b2)
        have hml : (d.bs.set k (⟨(qn : Int) + 1, lo⟩ : Bk)).length = m := by rw [List.length_set]; exact HD.out.2.2.1
        obtain ⟨⟨xs, hox, hxx⟩, hdd⟩ := HG2.out
        rw [hml] at hox
        have HOX : Hid (V2.ownsRow B 63 2 (.slice (some ⟨gB, 0, none⟩) m cap) m xs) := hox
        have HXX : Hid _ := hxx
        have HDD : Hid _ := hdd
        have sr2 : 1 = 0 ∨ ∃ ad, some (⟨V1.heap.size, 0, none⟩ : Addr) = some ad ∧ ∀ j u, [Value.int .i64 ((qn : Int) + 1), .slice xh li.length ch][j]? = some u → V2.cell? (ad.add j) = some u := .inr ⟨_, rfl, fun j u hj => by
          rw [addN]
          match j with
          | 0 => simp at hj; subst hj; exact cell_of_block hN2 rfl
          | 1 => simp at hj; subst hj; exact cell_of_block hN2 rfl
          | j + 2 => simp at hj⟩
        have zB2 : B ≤ V2.heap.size := by have := b2.size; have := bw8.size; have := ho.size; omega
        have HN2 : Hid (NB V2 B V2.heap.size (.slice xh li.length ch) li gh) := ((n2.mono (Nat.le_refl _) (by omega)).below b2).mono (Nat.le_refl _) b2.size
        have hE2 := box_on hE1 b2
        have HS2 : Hid (V2.heap[gs]? = some (.cells cs 3 (0, 0))) := box_on HS1.out b2
        have HF2 : Hid (V2.heap[F]? = some (.cells #[.int .i64 (qn : Int), .slice na nl nc] 63 (0, 0))) := box_on HF1.out b2
        have HZ2 : Hid (V2.heap[w.heap.size + 1]? = some (.cells #[.int .i64 0, .slice none 0 0, .slice none 0 0] 32 (0, 0))) := box_on HZ1.out b2
        have hFg : F ≠ gB := by have := HN.out.2.2.2.1; omega
        have hZg : w.heap.size + 1 ≠ gB := by have := HN.out.2.2.2.1; omega
        have HK5 : Hid (∀ (w5 : World), V2.grownBy w5 (Value.slice (some ⟨gB, 0, none⟩) m cap).ownBlock → ∀ g c t, V2.heap[g]? = some (.cells c t (0, 0)) → g ≠ gB → w5.heap[g]? = some (.cells c t (0, 0))) := fun w5 gr g c t hg hne => by rw [gr.block g (box_lt hg) (fun e => hne (by simpa [Value.ownBlock] using e))]; exact hg
        have hEg : w.heap.size ≠ gB := by have := HN.out.2.2.2.1; omega
        have HD1 : Hid (li ≠ [] → ∀ r, r < m → (gb (d.bs.set k (⟨(qn : Int) + 1, lo⟩ : Bk)) r).ns ≠ [] → kbPut kb k gl r ≠ gh) := by
          intro h r hr hn
          have hkd : k < d.bs.length := by rw [HD.out.2.2.1]; exact hkm
          by_cases e : r = k
          · rw [e] at hn ⊢
            rw [kbPut_0]
            rw [gb_set hkd, if_pos rfl] at hn
            exact hdj hn h
          · rw [kbPut_ne _ _ _ e]
            rw [gb_set hkd, if_neg e] at hn
            have h1 := hkbl r hr hn
            have h2 := hgh h
            omega
        clear hxx hdd n0 n1 n2 hcur hN2 hnl hnh hkbl
        have HE2 : Hid (V2.heap[w.heap.size]? = some (.cells #[.int .i64 DP, .slice (some ⟨gs, 0, none⟩) n c, .slice (some ⟨gB, 0, none⟩) m cap] 32 (0, 0))) := hE2
        have HV : Hid (Out gB (gB + 1) wr V1 ∧ Below V1.heap.size V1 V2 ∧ V1.heap.size = wr.heap.size) := ⟨o1, b2, z1⟩
        clear hE1 hH1 hE2 o1 b2 z1 hzz
        go_wp2_with (at_builtin; refine wpList_append_src rfl _ _ 30 rfl B 63 _ 2 32 Try.underlying30 info67 rfl (by decide) (.slice (some ⟨gB, 0, none⟩) m cap) m xs rfl hox (some ⟨V1.heap.size, 0, none⟩) 1 1 [.int .i64 ((qn : Int) + 1), .slice xh li.length ch] rfl rfl sr2 (by simp [Value.oneCell']) (by omega) (by decide) zB2 ?_; intro v5 w5 own5 gr5; obtain ⟨y5, c5, e5⟩ := owns_form own5; subst e5; have HO5 : Hid (w5.ownsRow B 63 2 (.slice y5 (m + 1) c5) (m + 1) (xs ++ [.int .i64 ((qn : Int) + 1), .slice xh li.length ch])) := own5; have HG5 : Hid (V2.grownBy w5 (Value.slice (some ⟨gB, 0, none⟩) m cap).ownBlock) := gr5; have HE5 : Hid (w5.heap[w.heap.size]? = some (.cells #[.int .i64 DP, .slice (some ⟨gs, 0, none⟩) n c, .slice (some ⟨gB, 0, none⟩) m cap] 32 (0, 0))) := (HK5.out w5 gr5 _ _ _ HE2.out hEg); obtain ⟨p0, p1, p2, p3, p4, p5⟩ := box3_cells HE5.out; obtain ⟨V3, hV3⟩ : ∃ V3, w5.setCell ⟨w.heap.size, 2, none⟩ (.slice y5 (m + 1) c5) = V3 := ⟨_, rfl⟩; have HE3 : Hid (V3.heap[w.heap.size]? = some (.cells #[.int .i64 DP, .slice (some ⟨gs, 0, none⟩) n c, .slice y5 (m + 1) c5] 32 (0, 0))) := (by subst hV3; exact block_set HE5.out); have HO3 : Hid (Out w.heap.size (w.heap.size + 1) w5 V3) := (by subst hV3; exact out_setCell _ _ _ _); have HS3 : Hid (V3.heap[gs]? = some (.cells cs 3 (0, 0))) := (box_out (HK5.out w5 gr5 _ _ _ HS2.out hsB) HO3.out (by have := HN.out.2.2.1; omega)); have HF3 : Hid (V3.heap[F]? = some (.cells #[.int .i64 (qn : Int), .slice na nl nc] 63 (0, 0))) := (box_out (HK5.out w5 gr5 _ _ _ HF2.out hFg) HO3.out (by omega)); have HZ3 : Hid (V3.heap[w.heap.size + 1]? = some (.cells #[.int .i64 0, .slice none 0 0, .slice none 0 0] 32 (0, 0))) := (box_out (HK5.out w5 gr5 _ _ _ HZ2.out hZg) HO3.out (by omega)); obtain ⟨d0, d1, d2, -, -, -⟩ := box3_cells HE3.out)
        obtain ⟨R, hR⟩ : ∃ R, R = wr := ⟨_, rfl⟩
        subst hR
        clear hV1 hV2 hV3 x0 x1 x2 x3 x4 x5 l0 l1 c0 c1 f0 f1 e0 e1 e2 u0 u1 p0 p1 p2 p3 p4 p5 d0 d1 d2 own5 gr5 hox sr2 hcsz cur hW0 hW1 hF
        try simp only [hqd']
        go_loopw [90] (fun i wq => ∃ (jj : Nat) (cq : Array Value), jj ≤ n ∧ i = .int .i64 jj ∧ Hid (wq.heap[gs]? = some (.cells cq 3 (0, 0))) ∧ Hid (∀ i, i < n → cq[i]? = some (iv (if i < jj ∧ gi d.sl i = (k : Int) ∧ bit i qn = 1 then (m : Int) else gi d.sl i))) ∧ Hid (Out gs (gs + 1) V3 wq)) (fun i _ => n - (intOf i).toNat)
        case atStart => exact ⟨0, cs, Nat.zero_le _, rfl, HS3, (by intro i hi; rw [if_neg (by omega)]; exact HSl.out.2 i hi), Out.refl _ _ _⟩
        case round =>
          obtain ⟨jj, cq, hjj, rfl, HSq, HCq, HOq⟩ := hrel
          have HEq : Hid (wr.heap[w.heap.size]? = some (.cells #[.int .i64 DP, .slice (some ⟨gs, 0, none⟩) n c, .slice y5 (m + 1) c5] 32 (0, 0))) := box_out HE3.out HOq.out (by have := HN.out.2.2.1; omega)
          have HFq : Hid (wr.heap[F]? = some (.cells #[.int .i64 (qn : Int), .slice na nl nc] 63 (0, 0))) := box_out HF3.out HOq.out (by have := HN.out.2.2.1; omega)
          obtain ⟨x0, x1, x2, -, -, -⟩ := box3_cells HEq.out
          obtain ⟨y0, y1, -, -⟩ := box2_cells HFq.out
          by_cases hlt : jj < n
          · have hc := HCq.out jj hlt
            rw [if_neg (by omega)] at hc
            have c0 : wr.cell? ⟨gs, jj, none⟩ = some (iv (gi d.sl jj)) := cell_of_block HSq.out hc
            have f0 : wr.frozen? ⟨gs, jj, none⟩ = false := free_of_block HSq.out
            have hjn : (jj : Int) < (n : Int) := by omega
            have hbi := bit_is (h := jj) (q := qn) (by omega) (by omega)
            rw [u64_small (by omega)] at hbi
            have HC0 : Hid (¬ (gi d.sl jj = (k : Int) ∧ bit jj qn = 1) → ∀ i, i < n → cq[i]? = some (iv (if i < jj + 1 ∧ gi d.sl i = (k : Int) ∧ bit i qn = 1 then (m : Int) else gi d.sl i))) := by
              intro hno i hi
              rw [HCq.out i hi]
              by_cases e : i = jj
              · subst e
                rw [if_neg (by omega), if_neg (fun h => hno h.2)]
              · by_cases h : i < jj ∧ gi d.sl i = (k : Int) ∧ bit i qn = 1
                · rw [if_pos h, if_pos ⟨by omega, h.2⟩]
                · rw [if_neg h, if_neg (fun h' => h ⟨by omega, h'.2⟩)]
            have HC1 : Hid (gi d.sl jj = (k : Int) ∧ bit jj qn = 1 → ∀ i, i < n → (cq.setIfInBounds jj (iv (m : Int)))[i]? = some (iv (if i < jj + 1 ∧ gi d.sl i = (k : Int) ∧ bit i qn = 1 then (m : Int) else gi d.sl i))) := by
              intro hy i hi
              have hlt' : jj < cq.size := (Array.getElem?_eq_some_iff.1 (HCq.out jj hlt)).1
              by_cases e : i = jj
              · subst e
                rw [set_at hlt', if_pos ⟨by omega, hy⟩]
              · rw [set_ne e, HCq.out i hi]
                by_cases h : i < jj ∧ gi d.sl i = (k : Int) ∧ bit i qn = 1
                · rw [if_pos h, if_pos ⟨by omega, h.2⟩]
                · rw [if_neg h, if_neg (fun h' => h ⟨by omega, h'.2⟩)]
            obtain ⟨g, hg⟩ : ∃ g, gi d.sl jj = g := ⟨_, rfl⟩
            have Hg : Hid _ := hg
            rw [hg] at c0
            clear hc hg
            by_cases hgk : g = (k : Int)
            · subst hgk
              rcases bit_two jj qn with hbt | hbt
              · rw [hbt] at hbi
                have hb1 : (bits .and .i64 ((jj : Int) / 2 ^ qn) 1 == 1) = false := by rw [hbi]; rfl
                go_wp2_with fail
                go_round
                case rel => exact ⟨jj + 1, cq, by omega, by go_num, HSq, HC0.out (by omega), HOq⟩
                case measure => simp [intOf]; omega
              · rw [hbt] at hbi
                have hb1 : (bits .and .i64 ((jj : Int) / 2 ^ qn) 1 == 1) = true := by rw [hbi]; rfl
                go_wp2_with fail
                go_round
                case rel => exact ⟨jj + 1, _, by omega, by go_num, block_set HSq.out, HC1.out ⟨Hg.out, hbt⟩, HOq.out.setCell (Nat.le_refl _) (Nat.lt_succ_self _) _ _⟩
                case measure => simp [intOf]; omega
            · have hgk' : (g == (k : Int)) = false := by simp [hgk]
              go_wp2_with fail
              go_round
              case rel => exact ⟨jj + 1, cq, by omega, by go_num, HSq, HC0.out (by rw [Hg.out]; exact fun h => hgk h.1), HOq⟩
              case measure => simp [intOf]; omega
          · have hjn' : jj = n := by omega
            subst jj
            clear hlt hjj
            have HZq : Hid (wr.heap[w.heap.size + 1]? = some (.cells #[.int .i64 0, .slice none 0 0, .slice none 0 0] 32 (0, 0))) := box_out HZ3.out HOq.out (by have := HN.out.2.2.1; omega)
            obtain ⟨z0, z1, z2, z3, z4, z5⟩ := box3_cells HZq.out
            go_wp2_with fail
            obtain ⟨W9, hW9⟩ : ∃ W9, ((wr.setCell ⟨w.heap.size + 1, 0, none⟩ (.int .i64 DP)).setCell ⟨w.heap.size + 1, 1, none⟩ (.slice (some ⟨gs, 0, none⟩) n c)).setCell ⟨w.heap.size + 1, 2, none⟩ (.slice y5 (m + 1) c5) = W9 := ⟨_, rfl⟩
            have o9 : Out (w.heap.size + 1) (w.heap.size + 1 + 1) wr W9 := by subst hW9; exact (((Out.refl _ _ _).setCell (Nat.le_refl _) (Nat.lt_succ_self _) _ _).setCell (Nat.le_refl _) (Nat.lt_succ_self _) _ _).setCell (Nat.le_refl _) (Nat.lt_succ_self _) _ _
            have R9 : W9.heap[w.heap.size + 1]? = some (.cells #[.int .i64 DP, .slice (some ⟨gs, 0, none⟩) n c, .slice y5 (m + 1) c5] 32 (0, 0)) := by subst hW9; exact box3_set HZq.out
            rw [hW9]
            clear hW9
            obtain ⟨t0, t1, t2, -, -, -⟩ := box3_cells R9
            have hsn : GB w5 B (.slice y5 (m + 1) c5) (d.bs.set k ⟨(qn : Int) + 1, lo⟩ ++ [⟨(qn : Int) + 1, li⟩]) (kbPut (kbPut kb k gl) (d.bs.set k (⟨(qn : Int) + 1, lo⟩ : Bk)).length gh) := GB.snoc (w := V2) (v := .slice (some ⟨gB, 0, none⟩) m cap) (by rw [hml]; exact HOX.out) HXX.out HDD.out (by rw [hml]; exact HO5.out) HG5.out HN2.out (by rw [hml]; exact HD1.out)
            have k9 : KeepT w5 W9 := ((KeepT.out HE5.out ⟨by decide, by decide⟩ HO3.out).trans (KeepT.out HS3.out ⟨by decide, by decide⟩ HOq.out)).trans (KeepT.out HZq.out ⟨by decide, by decide⟩ o9)
            have hst : stS d s = cuS2 d k qn := by unfold stS; rw [HW.out, HD.out.2.2.2.1, HD.out.2.2.2.2]
            have hbs : (cuS2 d k qn).bs = d.bs.set k ⟨(qn : Int) + 1, lo⟩ ++ [⟨(qn : Int) + 1, li⟩] := by unfold cuS2; simp only [HLO.out.1, HLO.out.2]; push_cast; rfl
            have hsl9 : (cuS2 d k qn).sl.length = n := by unfold cuS2; simp [HD.out.2.1]
            have hbl9 : (cuS2 d k qn).bs.length = m + 1 := by rw [hbs]; simp [HD.out.2.2.1]
            have hgsw := HN.out.2.2.1
            have hSp : SpO W9 B (.agg #[.int .i64 DP, .slice (some ⟨gs, 0, none⟩) n c, .slice y5 (m + 1) c5]) (cuS2 d k qn) (kbPut (kbPut kb k gl) (d.bs.set k (⟨(qn : Int) + 1, lo⟩ : Bk)).length gh) := by
              refine ⟨gs, c, cq, .slice y5 (m + 1) c5, by rw [hsl9]; show _ = Value.agg #[.int .i64 d.dp, _, _]; rw [HD.out.1], by rw [hsl9]; exact hsc, hgs, box_out HSq.out o9 (by omega), ?_, by rw [hbs]; exact hsn.keepT k9⟩
              rw [hsl9]
              intro i hi
              rw [HCq.out i hi, cuS2_sl HD.out.2.1 HD.out.2.2.1 hi]
              by_cases h : gi d.sl i = (k : Int) ∧ bit i qn = 1
              · rw [if_pos h, if_pos ⟨hi, h⟩]
              · rw [if_neg h, if_neg (fun h' => h h'.2)]
            have hbel : Below B w W9 := by
              obtain ⟨v1, v2, v3⟩ := HV.out
              have g1 := HN.out.2.2.2.1
              have g2 := bwA.size
              have g3 := bA8.size
              have g4 := ho.size
              have s1 : Below B w R := ((bwA.mono hB).trans (bA8.mono (by omega))).trans ((ho.below (by omega)).mono (by omega))
              have s2 : Below B R V2 := ((v1.below (by omega)).mono (by omega)).trans (v2.mono (by omega))
              have s3 : Below B V2 w5 := Grown.below HG5.out zB2 (owns_ge HOX.out)
              have g5 := s1.size
              have g6 := s2.size
              have g7 := s3.size
              have g8 := HO3.out.size
              have g9 := HOq.out.size
              exact ((((s1.trans s2).trans s3).trans ((HO3.out.below (by omega)).mono (by omega))).trans ((HOq.out.below (by omega)).mono (by omega))).trans ((o9.below (by omega)).mono (by omega))
            have hz9 : w.heap.size ≤ W9.heap.size := hbel.size
            refine bodyPost_ret (v := .tuple #[.agg #[.int .i64 DP, .slice (some ⟨gs, 0, none⟩) n c, .slice y5 (m + 1) c5], .bool true]) (by simp [results, Try.results36, go_sem, t0, t1, t2]) rfl ⟨hbel, hz9, fun h8 => ?_, fun _ => ⟨_, _, rfl, by rw [hst]; exact hSp⟩⟩
            rw [Hq1.out] at h8
            omega
end Go.Proofs.Ytfmgaenedkjmkaa
