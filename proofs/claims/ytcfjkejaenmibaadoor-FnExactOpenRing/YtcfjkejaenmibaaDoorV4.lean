import Derived.Test.YtcfjkejaenmibaaDoorV3
/- impl.NewRing. -/
namespace Go.Proofs.YtcfjkejaenmibaaDoor
open Go.ChangeShapes Go.WideShapes Go.ChangeAt Go.RowKit
set_option linter.unusedVariables false
open Lg

attribute [local go_sem] Oper.semAt_some

set_option maxHeartbeats 4000000 in
theorem implNew_any (x : Int) (w : World) (hT : Tb w) : Calls Tryd.prog 12 #[.int .i64 x] w fun e w' => Below w.heap.size w w' ∧ ∃ v, e = .returned (.tuple #[v, .bool (nwB x)]) ∧ ROwn w' w.heap.size w'.heap.size v (nwL x) 0 (nwC x) 0 := by
  have c1 := fun W => isRingSize_any x W
  have cZ := fun W h => blankSlot_any W h
  have HN : Hid (nwB x = false → nwL x = [] ∧ nwC x = 0) := fun h => by unfold nwL nwC; rw [h]; exact ⟨rfl, rfl⟩
  have HY : Hid (nwB x = true → nwL x = List.replicate x.toNat blank ∧ nwC x = 1 ∧ 2 ≤ x ∧ x ≤ 24) := fun h => by
    have h2 := h
    unfold nwB at h2
    simp at h2
    unfold nwL nwC; rw [h]; exact ⟨rfl, rfl, h2⟩
  rw [show (decide (2 ≤ x) && decide (x ≤ 24)) = nwB x from rfl] at c1
  obtain ⟨L, hL⟩ : ∃ L, nwL x = L := ⟨_, rfl⟩
  obtain ⟨CY, hCY⟩ : ∃ CY, nwC x = CY := ⟨_, rfl⟩
  obtain ⟨u, hu⟩ : ∃ u, nwB x = u := ⟨_, rfl⟩
  rw [hL, hCY, hu] at HN HY
  rw [hL, hCY, hu]
  rw [hu] at c1
  clear hL hCY hu
  obtain ⟨D, hD⟩ : ∃ D, w.heap.size = D := ⟨_, rfl⟩
  obtain ⟨W0, hW0⟩ : ∃ W0, w.alloc (.cells #[.slice none 0 0, .int .i64 0, .int .i64 0, .int .i64 0] 24) = W0 := ⟨_, rfl⟩
  have q0 : Below w.heap.size w W0 := by subst hW0; exact below_alloc _ _
  have HA : Hid (W0.heap[D]? = some (.cells #[.slice none 0 0, .int .i64 0, .int .i64 0, .int .i64 0] 24 (0, 0))) := by subst hW0 hD; exact al1 _ _
  have hz0 : D + 1 ≤ W0.heap.size := by subst hW0 hD; simp
  have HZ0 : Hid _ := hz0
  have HT : Hid (Tb W0) := hT.on q0
  clear hz0 hT
  go_enter Tryd.func12, Tryd.ntmps12
  go_wp2_with fail
  refine (c1 _).mono ?_
  rintro e w1 ⟨rfl, hww⟩
  have hww := hww.symm
  subst hww
  cases u with
  | false =>
    obtain ⟨x0, x1, x2, x3⟩ := box4_cells HA.out
    obtain ⟨f0, f1, f2, f3⟩ := box4_free HA.out
    obtain ⟨rfl, rfl⟩ := HN.out rfl
    go_wp2_with fail
    obtain ⟨t0, t1, t2, t3⟩ := box4_cells (box4_set HA.out (x0 := .slice none 0 0) (x1 := .int .i64 0) (x2 := .int .i64 0) (x3 := .int .i64 0))
    refine bodyPost_ret (v := .tuple #[rv none 0 0 0 0 0, .bool false]) (by simp [results, Tryd.results12, go_sem, t0, t1, t2, t3]) rfl ⟨?_, _, rfl, none, 0, rfl, Nat.le_refl _, .inl rfl⟩
    exact set4_below q0 (by omega) _ _ _ _
  | true =>
    obtain ⟨rfl, rfl, h2, h24⟩ := HY.out rfl
    obtain ⟨n, rfl⟩ : ∃ n : Nat, x = n := ⟨x.toNat, by omega⟩
    obtain ⟨bl, hbl⟩ : ∃ bl, blank = bl := ⟨_, rfl⟩
    have HL : Hid (List.replicate ((n : Int)).toNat blank = List.replicate n bl) := by show _ = _; rw [hbl]; rfl
    rw [hbl] at cZ
    clear hbl HN HY
    have cR := fun a W h => Repeat_any a bl n W (by omega) (by omega) h
    have cO := fun a W => ringOf_any a n n 0 0 W (by omega) (by omega)
    rw [show ((0 / n + 1 : Nat) : Int) = 1 by simp] at cO
    rw [show ((0 : Nat) : Int) = 0 from rfl] at cO
    have Hrow : Hid (∀ W : World, Sls (W.alloc (.cells (scs bl) 41)) (some ⟨W.heap.size, 0, none⟩) [bl]) := fun W _ => ⟨_, 0, rfl, fun i hi => by
      obtain rfl : i = 0 := by simpa using hi
      obtain ⟨a0, a1, a2, a3⟩ := box4_cells (al1 W (.cells (scs bl) 41))
      exact ⟨a0, a1, a2, a3⟩⟩
    have hmf : Hid (∀ (W : World) B C a, MineS W B C a n (fun _ => bl) → MineS W B C a (List.replicate n bl).length (gs (List.replicate n bl))) := fun W B C a h => by
      rcases h with h | ⟨b, c, h1, h2', h3, h4, h5⟩
      · exact .inl (by simp [h])
      · refine .inr ⟨b, c, h1, h2', h3, h4, fun i hi => ?_⟩
        rw [List.length_replicate] at hi
        rw [gs_rep hi]
        exact h5 i hi
    obtain ⟨bc, bt, bd, bs⟩ := bl
    go_wp2_with fail
    refine (cZ _ HT.out).mono ?_
    rintro e w1 ⟨rfl, b1⟩
    have r1 := Hrow.out w1
    have qa := below_alloc w1 (.cells (scs ⟨bc, bt, bd, bs⟩) 41)
    have HQ : Hid _ := qa
    clear hW0 qa
    go_wp2_with fail
    refine (cR _ _ r1).mono ?_
    rintro e w2 ⟨b2, a, rfl, m2⟩
    have M2 : Hid _ := m2
    have b02 : Below W0.heap.size W0 w2 := Below.comp (Below.comp b1 HQ.out) b2
    have HB02 : Hid _ := b02
    clear m2 r1 b02
    go_wp2_with fail
    refine (cO _ _).mono ?_
    rintro e w3 ⟨rfl, b3⟩
    have b03 : Below W0.heap.size W0 w3 := Below.comp HB02.out b3
    have hA := box_on HA.out b03
    obtain ⟨y0, y1, y2, y3⟩ := box4_cells hA
    obtain ⟨f0, f1, f2, f3⟩ := box4_free hA
    have HA3 : Hid _ := hA
    clear hA
    go_wp2_with fail
    obtain ⟨t0, t1, t2, t3⟩ := box4_cells (box4_set HA3.out (x0 := .slice a n n) (x1 := .int .i64 0) (x2 := .int .i64 1) (x3 := .int .i64 0))
    have gW : Below w.heap.size w w3 := Below.comp q0 b03
    refine bodyPost_ret (v := .tuple #[rv a n n 0 1 0, .bool true]) (by simp [results, Tryd.results12, go_sem, t0, t1, t2, t3]) rfl ⟨set4_below gW (by omega) _ _ _ _, _, rfl, a, n, ?_, ?_, ?_⟩
    · rw [HL.out, List.length_replicate]
    · rw [HL.out, List.length_replicate]; exact Nat.le_refl _
    · rw [HL.out]
      have hz := HZ0.out
      have hz1 : W0.heap.size ≤ w1.heap.size := b1.size
      have hq := HQ.out.size
      refine hmf.out _ _ _ _ ((Mine.out (Mine.below M2.out b3) (set4_out _ _ _ _ _ _) (.inr ?_)).mono ?_ ?_)
      · simp; omega
      · have := q0.size; omega
      · exact Nat.le_trans b3.size (set4_out _ _ _ _ _ _).size
end Go.Proofs.YtcfjkejaenmibaaDoor
