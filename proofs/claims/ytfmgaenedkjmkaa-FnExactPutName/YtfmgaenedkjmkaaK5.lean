import Derived.Test.YtfmgaenedkjmkaaC8
import Derived.Test.YtfmgaenedkjmkaaK4
/- The law of DropName. -/
namespace Go.Proofs.Ytfmgaenedkjmkaa
open Go.ChangeShapes Go.WideShapes Go.ChangeAt Go.RowKit
set_option linter.unusedVariables false
open Hd

attribute [local go_sem] Oper.semAt_some

theorem exR_sub {l : List Nm} {s : ByteArray} {k : Nat} {x : Nm} (h : x ∈ exR l s k []) : x ∈ l := by
  unfold exR at h
  simp only [List.append_nil, List.mem_append] at h
  rcases h with h | h
  · exact List.mem_of_mem_take h
  · exact List.mem_of_mem_drop h
theorem exR_len (l : List Nm) (s : ByteArray) (k : Nat) : (exR l s k []).length ≤ l.length := by
  unfold exR
  cases hasN l s k <;> simp <;> omega
theorem gm_mem {l : List Nm} {i : Nat} (h : i < l.length) : gm l i ∈ l := by
  have : gm l i = l[i] := by simp [gm, h]
  rw [this]
  exact List.getElem_mem h
theorem gm_of_mem {l : List Nm} {x : Nm} (h : x ∈ l) : ∃ i, i < l.length ∧ gm l i = x := by
  obtain ⟨i, hi, rfl⟩ := List.getElem_of_mem h
  exact ⟨i, hi, by simp [gm, hi]⟩
theorem nk_set {L : List Bk} {j : Nat} {x : Bk} (hj : j < L.length) (hx : x.ns.length ≤ (gb L j).ns.length) : ∀ n, nk (L.set j x) n ≤ nk L n
  | 0 => Nat.le_refl _
  | n + 1 => by
    have ih := nk_set hj hx n
    unfold nk
    rw [gb_set hj]
    by_cases h : n = j
    · subst h
      simp only [if_true]
      omega
    · rw [if_neg h]
      omega
theorem dp_few {d : Dr} {s : ByteArray} {D : Dr} {B : Bool} (h : DpOk d s D B) (hs : Sml d) (hf : FewD d) : Sml D ∧ FewD D := by
  cases B with
  | false =>
    rw [h.2.1 rfl]
    exact ⟨⟨by simp, by simp, by simp [nk]⟩, by simp, by simp, fun i hi => absurd hi (by simp)⟩
  | true =>
    have q : GS d ∧ isN s = true := Classical.byContradiction fun q => by have := h.1 q; cases this
    obtain ⟨k, -, -, hD⟩ := h.2.2 q.1 q.2
    rw [hD rfl]
    have hj := (good_bk q.1 s).2
    have hle : (exR (bkL d s) s k []).length ≤ (gb d.bs (bkN d s)).ns.length := exR_len _ _ _
    refine ⟨⟨hs.1, by simp [exD]; exact hs.2.1, ?_⟩, hf.1, by simp [exD]; exact hf.2.1, fun i hi => ?_⟩
    · simp only [exD, List.length_set]
      exact Nat.le_trans (nk_set hj hle _) hs.2.2
    · simp only [exD, List.length_set] at hi ⊢
      rw [gb_set hj]
      by_cases e : i = bkN d s
      · subst e
        simp only [if_true]
        obtain ⟨f1, f2⟩ := hf.2.2 _ hj
        refine ⟨Nat.le_trans hle f1, fun i hi => ?_⟩
        obtain ⟨i', hi', e'⟩ := gm_of_mem (exR_sub (gm_mem hi))
        rw [← e']
        exact f2 i' hi'
      · rw [if_neg e]
        exact hf.2.2 i hi
theorem kD_few {D : Dr} (h : Sml D) : kD 1 D ≤ 100000000 := by
  unfold kD
  have := h.1
  have := h.2.1
  have := h.2.2
  omega
set_option maxRecDepth 20000 in
set_option maxHeartbeats 8000000 in
theorem lawDrop (v : Value) (d : Dr) (s : ByteArray) (w : World) (hf : FewD d) (hD : DirAt w v d) (hs : s.size ≤ 9223372036854775807) :
    Calls Try.prog 4 #[v, .string s] w fun e w' => e = .returned (.bool true) ∧ Below w.heap.size w w' := by
  obtain ⟨D, O, hDO⟩ := dp_ex d s
  obtain ⟨a, c, a', c', rfl, hca, hca', ha, ha'⟩ := hD
  have HD : Hid (∀ W, Below w.heap.size w W → DirAt W (dv d.dp a d.sl.length c a' d.bs.length c') d) := fun W h => ⟨a, c, a', c', rfl, hca, hca', ha.below h, ha'.below h⟩
  clear ha ha' hca hca'
  have cS := fun W h => szDir_left (dv d.dp a d.sl.length c a' d.bs.length c') d W hf h
  have HFd : Hid (∀ W B C x, DOwn W B C x d → ∃ p q p' q', x = dv d.dp p d.sl.length q p' d.bs.length q') := fun W B C x h => by
    obtain ⟨p, q, p', q', e, -⟩ := h.at_
    exact ⟨p, q, p', q', e⟩
  have HFD : Hid (∀ W B C x, DOwn W B C x D → ∃ p q p' q', x = dv D.dp p D.sl.length q p' D.bs.length q') := fun W B C x h => by
    obtain ⟨p, q, p', q', e, -⟩ := h.at_
    exact ⟨p, q, p', q', e⟩
  have HS : Hid (Sml d → (∀ W, DirAt W (dv d.dp a d.sl.length c a' d.bs.length c') d → Calls Try.prog 9 #[dv d.dp a d.sl.length c a' d.bs.length c'] W fun e w' => Below W.heap.size W w' ∧ ∃ v', e = .returned v' ∧ DOwn w' W.heap.size w'.heap.size v' d) ∧ (∀ W x, DirAt W x d → Calls Try.prog 15 #[x, .string s] W fun e w' => Below W.heap.size W w' ∧ ∃ v', e = .returned (.tuple #[v', .bool O]) ∧ DOwn w' W.heap.size w'.heap.size v' D) ∧ (∀ W x, DirAt W x d → Calls Try.prog 16 #[x, .string s] W fun e w' => Below W.heap.size W w' ∧ ∃ v', e = .returned (.tuple #[v', .bool O]) ∧ DOwn w' W.heap.size w'.heap.size v' D) ∧ FewD D ∧ kD 1 D ≤ 100000000 ∧ kD 1 d ≤ 100000000) := fun h =>
    ⟨fun W q => toDir_any _ d W h q, fun W x q => specDrop_any x d s W h hf hs q hDO, fun W x q => implDrop_any x d s W h hf hs q hDO, (dp_few hDO h hf).2, kD_few (dp_few hDO h hf).1, kD_few h⟩
  have cE := fun W x x' h h' => eqDir_same x x' d W hf h h'
  clear hf hDO
  unfold dv at *
  generalize d.dp = DP at *
  generalize d.sl.length = n at *
  generalize d.bs.length = m at *
  generalize D.dp = DQ at *
  generalize D.sl.length = nq at *
  generalize D.bs.length = mq at *
  have hOO : (O != O) = false := by cases O <;> rfl
  obtain ⟨H, hH⟩ : ∃ H, w.heap.size = H := ⟨_, rfl⟩
  obtain ⟨W0, hW0⟩ : ∃ W0, w.alloc (.cells #[.int .i64 DP, .slice a n c, .slice a' m c'] 25) = W0 := ⟨_, rfl⟩
  have q0 : Below w.heap.size w W0 := by subst hW0; exact below_alloc _ _
  have HA : Hid (W0.heap[H]? = some (.cells #[.int .i64 DP, .slice a n c, .slice a' m c'] 25 (0, 0))) := by subst hW0 hH; exact al1 _ _
  have HHw : Hid (w.heap.size = H) := hH
  by_cases hsz : (1048576 : Int) < (s.size : Int)
  · go_enter Try.func4, Try.ntmps4
    go_wp2_with fail
    go_ret
    exact ⟨rfl, by first | exact q0 | exact (hH ▸ q0)⟩
  obtain ⟨x0, x1, x2, -, -, -⟩ := box3_cells HA.out
  go_enter Try.func4, Try.ntmps4
  go_wp2_with fail
  refine (cS _ (HD.out _ q0)).mono ?_
  rintro e w1 ⟨b1, r, rfl, -, hr⟩
  have g1 := Below.comp q0 b1
  clear cS x0 x1 x2 hW0
  by_cases hr0 : r < 0
  · go_wp2_with fail
    go_ret
    exact ⟨rfl, by first | exact g1 | exact (hH ▸ g1)⟩
  have hsml : Sml d := by rcases hr with h | h; exact absurd h hr0; exact h
  obtain ⟨cT, cP, cI, hFD, hkD, hkd⟩ := HS.out hsml
  have cEE := fun W x x' h h' => eqDir_same x x' D W hFD h h'
  have cMd := fun B C W x h => markDir_any B C x d 1 W (by omega) hkd h
  have cMD := fun B C W x h => markDir_any B C x D 1 W (by omega) hkD h
  have cHD := fun W x h => heldDir_any x D 1 W (by omega) hkD h
  have hJ0 : decide (((kD 1 D : Nat) : Int) < 0) = false := by simp
  have hJJ : (((kD 1 D : Nat) : Int) != ((kD 1 D : Nat) : Int)) = false := by simp
  have hK0 : decide (((kD 1 d : Nat) : Int) < 0) = false := by simp
  generalize ((kD 1 D : Nat) : Int) = J at *
  generalize ((kD 1 d : Nat) : Int) = JK at *
  rw [show (((1 : Nat)) : Int) = 1 from rfl] at *
  clear hr HS hsml hFD hkD hkd
  have A1 : Hid (w1.heap[H]? = some (.cells #[.int .i64 DP, .slice a n c, .slice a' m c'] 25 (0, 0))) := box_on HA.out b1
  obtain ⟨x0, x1, x2, -, -, -⟩ := box3_cells A1.out
  go_wp2_with fail
  refine (cT _ (HD.out _ g1)).mono ?_
  rintro e w2 ⟨b2, y, rfl, m2⟩
  obtain ⟨ta, tc, ta', tc', ey⟩ := HFd.out _ _ _ _ m2
  subst ey
  go_wp2_with fail
  refine (cP _ _ m2.at_).mono ?_
  rintro e w3 ⟨b3, y, rfl, m3⟩
  obtain ⟨ya, yc, ya', yc', ey⟩ := HFD.out _ _ _ _ m3
  subst ey
  have b13 := Below.comp b2 b3
  clear x0 x1 x2 m2
  obtain ⟨E3, hE3⟩ : ∃ E, w3.heap.size = E := ⟨_, rfl⟩
  obtain ⟨W3, hW3⟩ : ∃ W3, w3.alloc (.cells #[.int .i64 DQ, .slice ya nq yc, .slice ya' mq yc'] 32) = W3 := ⟨_, rfl⟩
  have q3 : Below w3.heap.size w3 W3 := by subst hW3; exact below_alloc _ _
  have Y3 : Hid (W3.heap[E3]? = some (.cells #[.int .i64 DQ, .slice ya nq yc, .slice ya' mq yc'] 32 (0, 0))) := by subst hW3 hE3; exact al1 _ _
  have TY : Hid (DOwn W3 w2.heap.size w3.heap.size (.agg #[.int .i64 DQ, .slice ya nq yc, .slice ya' mq yc']) D) := m3.below q3
  have b03 := Below.comp b13 q3
  have A3 : Hid (W3.heap[H]? = some (.cells #[.int .i64 DP, .slice a n c, .slice a' m c'] 25 (0, 0))) := box_on A1.out b03
  have g3 := Below.comp g1 b03
  have HZ3 : Hid (w3.heap.size = E3 ∧ E3 + 1 ≤ W3.heap.size ∧ H + 1 ≤ w1.heap.size ∧ w1.heap.size ≤ w2.heap.size ∧ w2.heap.size ≤ w3.heap.size) := ⟨hE3, box_lt Y3.out, box_lt A1.out, b2.size, b3.size⟩
  obtain ⟨x0, x1, x2, -, -, -⟩ := box3_cells A3.out
  clear m3 b03 b13
  go_wp2_with fail
  refine (cT _ (HD.out _ g3)).mono ?_
  rintro e w4 ⟨b4, y, rfl, m4⟩
  obtain ⟨za, zc, za', zc', ey⟩ := HFd.out _ _ _ _ m4
  subst ey
  clear x0 x1 x2 hW3
  obtain ⟨E4, hE4⟩ : ∃ E, w4.heap.size = E := ⟨_, rfl⟩
  obtain ⟨W4, hW4⟩ : ∃ W4, w4.alloc (.cells #[.int .i64 DP, .slice za n zc, .slice za' m zc'] 32) = W4 := ⟨_, rfl⟩
  have q4 : Below w4.heap.size w4 W4 := by subst hW4; exact below_alloc _ _
  have Z4 : Hid (W4.heap[E4]? = some (.cells #[.int .i64 DP, .slice za n zc, .slice za' m zc'] 32 (0, 0))) := by subst hW4 hE4; exact al1 _ _
  have TZ : Hid (DOwn W4 W3.heap.size w4.heap.size (.agg #[.int .i64 DP, .slice za n zc, .slice za' m zc']) d) := m4.below q4
  have b34 := Below.comp b4 q4
  have g4 := Below.comp g3 b34
  have A4 : Hid (W4.heap[H]? = some (.cells #[.int .i64 DP, .slice a n c, .slice a' m c'] 25 (0, 0))) := box_on A3.out b34
  have Y4 : Hid (W4.heap[E3]? = some (.cells #[.int .i64 DQ, .slice ya nq yc, .slice ya' mq yc'] 32 (0, 0))) := box_on Y3.out b34
  have TY4 : Hid (DOwn W4 w2.heap.size w3.heap.size (.agg #[.int .i64 DQ, .slice ya nq yc, .slice ya' mq yc']) D) := TY.out.below b34
  have HZ4 : Hid (w4.heap.size = E4 ∧ E4 + 1 ≤ W4.heap.size ∧ W3.heap.size ≤ w4.heap.size) := ⟨hE4, box_lt Z4.out, b4.size⟩
  obtain ⟨z0, z1, z2, -, -, -⟩ := box3_cells Z4.out
  clear m4 b34
  go_wp2_with fail
  refine (cI _ _ TZ.out.at_).mono ?_
  rintro e w5 ⟨b5, y, rfl, m5⟩
  obtain ⟨ga, gc, ga', gc', ey⟩ := HFD.out _ _ _ _ m5
  subst ey
  clear z0 z1 z2 hW4
  obtain ⟨E5, hE5⟩ : ∃ E, w5.heap.size = E := ⟨_, rfl⟩
  obtain ⟨W5, hW5⟩ : ∃ W5, w5.alloc (.cells #[.int .i64 DQ, .slice ga nq gc, .slice ga' mq gc'] 32) = W5 := ⟨_, rfl⟩
  have q5 : Below w5.heap.size w5 W5 := by subst hW5; exact below_alloc _ _
  have G5 : Hid (W5.heap[E5]? = some (.cells #[.int .i64 DQ, .slice ga nq gc, .slice ga' mq gc'] 32 (0, 0))) := by subst hW5 hE5; exact al1 _ _
  have TG : Hid (DOwn W5 W4.heap.size w5.heap.size (.agg #[.int .i64 DQ, .slice ga nq gc, .slice ga' mq gc']) D) := m5.below q5
  have b45 := Below.comp b5 q5
  have g5 := Below.comp g4 b45
  have HZ5 : Hid (w5.heap.size = E5 ∧ E5 + 1 ≤ W5.heap.size ∧ W4.heap.size ≤ w5.heap.size) := ⟨hE5, box_lt G5.out, b5.size⟩
  have Q5 : Hid ((W5.heap[H]? = some (.cells #[.int .i64 DP, .slice a n c, .slice a' m c'] 25 (0, 0)) ∧ W5.heap[E3]? = some (.cells #[.int .i64 DQ, .slice ya nq yc, .slice ya' mq yc'] 32 (0, 0)) ∧ W5.heap[E4]? = some (.cells #[.int .i64 DP, .slice za n zc, .slice za' m zc'] 32 (0, 0)) ∧ W5.heap[E5]? = some (.cells #[.int .i64 DQ, .slice ga nq gc, .slice ga' mq gc'] 32 (0, 0))) ∧ DOwn W5 w2.heap.size w3.heap.size (.agg #[.int .i64 DQ, .slice ya nq yc, .slice ya' mq yc']) D ∧ DOwn W5 W3.heap.size w4.heap.size (.agg #[.int .i64 DP, .slice za n zc, .slice za' m zc']) d ∧ DOwn W5 W4.heap.size w5.heap.size (.agg #[.int .i64 DQ, .slice ga nq gc, .slice ga' mq gc']) D) := ⟨⟨box_on A4.out b45, box_on Y4.out b45, box_on Z4.out b45, G5.out⟩, TY4.out.below b45, TZ.out.below b45, TG.out⟩
  clear m5 b45 A1 A3 A4 Y3 Y4 Z4 G5 TY TY4 TZ TG HA
  obtain ⟨y0, y1, y2, -, -, -⟩ := box3_cells Q5.out.1.2.1
  obtain ⟨z0, z1, z2, -, -, -⟩ := box3_cells Q5.out.1.2.2.2
  go_wp2_with fail
  refine (cEE _ _ _ Q5.out.2.2.2.at_ Q5.out.2.1.at_).mono ?_
  rintro e w6 ⟨rfl, b6⟩
  clear y0 y1 y2 z0 z1 z2 hW5
  have g6 := Below.comp g5 b6
  have Q6 : Hid ((w6.heap[H]? = some (.cells #[.int .i64 DP, .slice a n c, .slice a' m c'] 25 (0, 0)) ∧ w6.heap[E3]? = some (.cells #[.int .i64 DQ, .slice ya nq yc, .slice ya' mq yc'] 32 (0, 0)) ∧ w6.heap[E4]? = some (.cells #[.int .i64 DP, .slice za n zc, .slice za' m zc'] 32 (0, 0)) ∧ w6.heap[E5]? = some (.cells #[.int .i64 DQ, .slice ga nq gc, .slice ga' mq gc'] 32 (0, 0))) ∧ DOwn w6 w2.heap.size w3.heap.size (.agg #[.int .i64 DQ, .slice ya nq yc, .slice ya' mq yc']) D ∧ DOwn w6 W3.heap.size w4.heap.size (.agg #[.int .i64 DP, .slice za n zc, .slice za' m zc']) d ∧ DOwn w6 W4.heap.size w5.heap.size (.agg #[.int .i64 DQ, .slice ga nq gc, .slice ga' mq gc']) D) := ⟨⟨box_on Q5.out.1.1 b6, box_on Q5.out.1.2.1 b6, box_on Q5.out.1.2.2.1 b6, box_on Q5.out.1.2.2.2 b6⟩, Q5.out.2.1.below b6, Q5.out.2.2.1.below b6, Q5.out.2.2.2.below b6⟩
  have SB : Hid (∀ W, Below w6.heap.size w6 W → W.cell? ⟨H, 0, none⟩ = some (.int .i64 DP) ∧ W.cell? ⟨H, 1, none⟩ = some (.slice a n c) ∧ W.cell? ⟨H, 2, none⟩ = some (.slice a' m c') ∧ W.cell? ⟨E4, 0, none⟩ = some (.int .i64 DP) ∧ W.cell? ⟨E4, 1, none⟩ = some (.slice za n zc) ∧ W.cell? ⟨E4, 2, none⟩ = some (.slice za' m zc') ∧ Below w6.heap.size w6 W) := fun W g => by
    obtain ⟨x0, x1, x2, -, -, -⟩ := box3_cells (box_on Q6.out.1.1 g)
    obtain ⟨u0, u1, u2, -, -, -⟩ := box3_cells (box_on Q6.out.1.2.2.1 g)
    exact ⟨x0, x1, x2, u0, u1, u2, g⟩
  clear Q5
  go_wp2_with fail
  go_region_held3 (fun W => W.cell? ⟨H, 0, none⟩ = some (.int .i64 DP) ∧ W.cell? ⟨H, 1, none⟩ = some (.slice a n c) ∧ W.cell? ⟨H, 2, none⟩ = some (.slice a' m c') ∧ W.cell? ⟨E4, 0, none⟩ = some (.int .i64 DP) ∧ W.cell? ⟨E4, 1, none⟩ = some (.slice za n zc) ∧ W.cell? ⟨E4, 2, none⟩ = some (.slice za' m zc') ∧ Below w6.heap.size w6 W)
    ((refine SB.out _ ?_; first | assumption | exact Below.drew (Below.refl _ _)))
    (first
    | (go_at_call 9; obtain ⟨-, -, -, -, -, -, hw0⟩ := ‹_ ∧ _ ∧ _ ∧ _ ∧ _ ∧ _ ∧ Below w6.heap.size w6 _›; refine (cT _ (HD.out _ (Below.comp g6 hw0))).mono ?_; rintro e w7 ⟨b7, t, rfl, m7⟩; obtain ⟨ta, tc, ta', tc', et⟩ := HFd.out _ _ _ _ m7; subst et; have hb7 := Below.comp hw0 b7; have M7 : Hid (DirAt w7 (.agg #[.int .i64 DP, .slice ta n tc, .slice ta' m tc']) d) := m7.at_; clear m7)
    | (go_at_call 12; refine (cE _ _ _ (Q6.out.2.2.1.at_.below hb7) M7.out).mono ?_; rintro e w8 ⟨rfl, b8⟩; have hb8 := Below.comp hb7 b8))
  clear SB
  have b68 : Below w6.heap.size w6 w8 := by assumption
  obtain ⟨z0, z1, z2, -, -, -⟩ := box3_cells (box_on Q6.out.1.2.2.1 b68)
  go_wp2_with fail
  refine (cMd W3.heap.size w4.heap.size _ _ (Q6.out.2.2.1.below b68)).mono ?_
  rintro e w9 ⟨rfl, ⟨V, hV, hVo⟩, -⟩
  clear z0 z1 z2
  have b6V := Below.comp b68 hV
  have HV : Hid (W5.heap.size ≤ V.heap.size ∧ V.heap.size ≤ w9.heap.size) := ⟨Nat.le_trans b6.size b6V.size, hVo.size⟩
  have Q9 : Hid ((w9.heap[H]? = some (.cells #[.int .i64 DP, .slice a n c, .slice a' m c'] 25 (0, 0)) ∧ w9.heap[E3]? = some (.cells #[.int .i64 DQ, .slice ya nq yc, .slice ya' mq yc'] 32 (0, 0)) ∧ w9.heap[E5]? = some (.cells #[.int .i64 DQ, .slice ga nq gc, .slice ga' mq gc'] 32 (0, 0))) ∧ DOwn w9 w2.heap.size w3.heap.size (.agg #[.int .i64 DQ, .slice ya nq yc, .slice ya' mq yc']) D ∧ DOwn w9 W4.heap.size w5.heap.size (.agg #[.int .i64 DQ, .slice ga nq gc, .slice ga' mq gc']) D) := by
    have h3 := HZ3.out; have h4 := HZ4.out; have h5 := HZ5.out; have q := Q6.out
    exact ⟨⟨box_out (box_on q.1.1 b6V) hVo (by omega), box_out (box_on q.1.2.1 b6V) hVo (by omega), box_out (box_on q.1.2.2.2 b6V) hVo (by omega)⟩, (q.2.1.below b6V).out hVo (by omega), (q.2.2.2.below b6V).out hVo (by omega)⟩
  have g9 : Below w.heap.size w w9 := by
    have h3 := HZ3.out; have h4 := HZ4.out; have h5 := HZ5.out; have h6 := HV.out; have h7 := HHw.out
    exact (Below.comp g6 b6V).trans ((hVo.below (by omega)).mono (by omega))
  clear Q6 hVo hV
  obtain ⟨y0, y1, y2, -, -, -⟩ := box3_cells Q9.out.1.2.1
  obtain ⟨z0, z1, z2, -, -, -⟩ := box3_cells Q9.out.1.2.2
  go_wp2_with fail
  refine (cEE _ _ _ Q9.out.2.2.at_ Q9.out.2.1.at_).mono ?_
  rintro e w10 ⟨rfl, b10⟩
  clear y0 y1 y2 z0 z1 z2
  obtain ⟨z0, z1, z2, -, -, -⟩ := box3_cells (box_on Q9.out.1.2.2 b10)
  go_wp2_with fail
  refine (cMD W4.heap.size w5.heap.size _ _ (Q9.out.2.2.below b10)).mono ?_
  rintro e w11 ⟨rfl, ⟨U, hU, hUo⟩, tg⟩
  clear z0 z1 z2
  have b9U := Below.comp b10 hU
  have Q11 : Hid ((w11.heap[H]? = some (.cells #[.int .i64 DP, .slice a n c, .slice a' m c'] 25 (0, 0)) ∧ w11.heap[E3]? = some (.cells #[.int .i64 DQ, .slice ya nq yc, .slice ya' mq yc'] 32 (0, 0)) ∧ w11.heap[E5]? = some (.cells #[.int .i64 DQ, .slice ga nq gc, .slice ga' mq gc'] 32 (0, 0))) ∧ DOwn w11 w2.heap.size w3.heap.size (.agg #[.int .i64 DQ, .slice ya nq yc, .slice ya' mq yc']) D ∧ DOwn w11 W4.heap.size w5.heap.size (.agg #[.int .i64 DQ, .slice ga nq gc, .slice ga' mq gc']) (mkD 1 D)) := by
    have h3 := HZ3.out; have h4 := HZ4.out; have h5 := HZ5.out; have q := Q9.out
    exact ⟨⟨box_out (box_on q.1.1 b9U) hUo (by omega), box_out (box_on q.1.2.1 b9U) hUo (by omega), box_out (box_on q.1.2.2 b9U) hUo (by omega)⟩, (q.2.1.below b9U).out hUo (by omega), tg⟩
  have g11 : Below w.heap.size w w11 := by
    have h3 := HZ3.out; have h4 := HZ4.out; have h5 := HZ5.out; have h6 := HV.out; have h7 := HHw.out; have h8 := b9U.size
    exact (Below.comp g9 b9U).trans ((hUo.below (by omega)).mono (by omega))
  clear Q9 hUo hU tg
  obtain ⟨z0, z1, z2, -, -, -⟩ := box3_cells Q11.out.1.2.2
  go_wp2_with fail
  refine (cHD _ _ Q11.out.2.2.at_).mono ?_
  rintro e w12 ⟨rfl, b12⟩
  clear z0 z1 z2
  have g12 := Below.comp g11 b12
  obtain ⟨x0, x1, x2, -, -, -⟩ := box3_cells (box_on Q11.out.1.1 b12)
  go_wp2_with fail
  refine (cT _ (HD.out _ g12)).mono ?_
  rintro e w13 ⟨b13, y, rfl, m13⟩
  obtain ⟨ta, tc, ta', tc', ey⟩ := HFd.out _ _ _ _ m13
  subst ey
  clear x0 x1 x2
  go_wp2_with fail
  refine (cI _ _ m13.at_).mono ?_
  rintro e w14 ⟨b14, y, rfl, m14⟩
  obtain ⟨ha, hc, ha', hc', ey⟩ := HFD.out _ _ _ _ m14
  subst ey
  obtain ⟨E14, hE14⟩ : ∃ E, w14.heap.size = E := ⟨_, rfl⟩
  obtain ⟨W14, hW14⟩ : ∃ W14, w14.alloc (.cells #[.int .i64 DQ, .slice ha nq hc, .slice ha' mq hc'] 32) = W14 := ⟨_, rfl⟩
  have q14 : Below w14.heap.size w14 W14 := by subst hW14; exact below_alloc _ _
  have X14 : Hid (W14.heap[E14]? = some (.cells #[.int .i64 DQ, .slice ha nq hc, .slice ha' mq hc'] 32 (0, 0))) := by subst hW14 hE14; exact al1 _ _
  have TX : Hid (DirAt W14 (.agg #[.int .i64 DQ, .slice ha nq hc, .slice ha' mq hc']) D) := m14.at_.below q14
  have b1114 := Below.comp b12 (Below.comp (Below.comp b13 b14) q14)
  obtain ⟨x0, x1, x2, -, -, -⟩ := box3_cells X14.out
  obtain ⟨y0, y1, y2, -, -, -⟩ := box3_cells (box_on Q11.out.1.2.1 b1114)
  clear m13 m14
  go_wp2_with fail
  refine (cEE _ _ _ TX.out (Q11.out.2.1.at_.below b1114)).mono ?_
  rintro e w15 ⟨rfl, b15⟩
  clear x0 x1 x2 y0 y1 y2 hW14
  have b1115 := Below.comp b1114 b15
  obtain ⟨z0, z1, z2, -, -, -⟩ := box3_cells (box_on Q11.out.1.2.2 b1115)
  go_wp2_with fail
  refine (cHD _ _ (Q11.out.2.2.at_.below b1115)).mono ?_
  rintro e w16 ⟨rfl, b16⟩
  clear z0 z1 z2
  have gE := Below.comp g11 (Below.comp b1115 b16)
  go_wp2_with fail
  go_ret
  exact ⟨rfl, by first | exact gE | exact (hH ▸ gE)⟩
end Go.Proofs.Ytfmgaenedkjmkaa
