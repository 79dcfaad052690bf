import Derived.Test.YthioomihpfmlmaaS1
import Derived.Test.YthioomihpfmlmaaQ3
import Derived.Test.YthioomihpfmlmaaA3
import Derived.Laws.Cover1
/- The specification: good names. -/
namespace Go.Proofs.Ythioomihpfmlmaa
open Go.ChangeShapes Go.WideShapes Go.ChangeAt Go.RowKit
set_option linter.unusedVariables false
open Hd

attribute [local go_sem] Oper.semAt_some

theorem tel_ex (Q : Prop) : ∃ b : Bool, (b = true ↔ Q) := by
  by_cases h : Q
  · exact ⟨true, by simpa using h⟩
  · exact ⟨false, by simpa using h⟩
theorem Tel.is {e : Ending} {Q : Prop} {b : Bool} (h : Tel e Q) (hb : b = true ↔ Q) : e = .returned (.bool b) := by
  obtain ⟨r, rfl, hr⟩ := h
  have : r = b := by rw [Bool.eq_iff_iff, hr, hb]
  rw [this]
theorem les_is (a b : ByteArray) : Op.bytesLess a.toList b.toList = les a b := by
  rw [Proofs.bytesLess_eq, Lib.toList_data, Lib.toList_data]
  rfl
/-- A call that leaves the world as it was, in a world that is drawn on. -/
theorem same_regrown {P : Program} {f : Nat} {args : Array Value} {W : World} {v : Value} (h : ∀ u, Calls P f args u fun e w' => e = .returned v ∧ w' = u) (d : _) (os : _) :
    Calls P f args (Go.Sort.grow (redrawn W d) os) fun e w'' => e = .returned v ∧ ∃ p : Regrown, w'' = Go.Sort.grow (redrawn W p.d) p.os :=
  Calls.regrown_of ((h _).mono fun e w' q => ⟨q.1, by rw [q.2]; exact Below.refl _ _⟩)
theorem box3_one {w : World} {b : Nat} {v0 v1 v2 : Value} {e : TypeId} (h : w.heap[b]? = some (.cells #[v0, v1, v2] e (0, 0))) :
    w.cell? ⟨b, 0, none⟩ = some v0 ∧ w.cell? ⟨b, 1, none⟩ = some v1 ∧ w.cell? ⟨b, 2, none⟩ = some v2 := ⟨(box3_cells h).1, (box3_cells h).2.1, (box3_cells h).2.2.1⟩
set_option maxHeartbeats 4000000 in
set_option maxRecDepth 20000 in
theorem specGood_any (v : Value) (T : List Ino) (w : World) (hf : FewI T) (hc : NamAt w v T) :
    Calls Try.prog 12 #[v] w fun e w' => Tel e (TS T) ∧ Below w.heap.size w w' := by
  obtain ⟨a, ca, rfl, hca, hI⟩ := hc
  have cIn := fun W => l1In_any (T.length : Int) 1 60 W
  have hLn := hf.1
  obtain ⟨W0, hW0⟩ : ∃ W0, w.alloc (.cells #[.slice a T.length ca] 24) = W0 := ⟨_, rfl⟩
  have q0 : Below w.heap.size w W0 := by subst hW0; exact below_alloc _ _
  have HX : Hid (W0.heap[w.heap.size]? = some (.cells #[.slice a T.length ca] 24 (0, 0))) := by subst hW0; exact al1 _ _
  obtain ⟨x0, -⟩ := box1_cells HX.out
  unfold tv
  by_cases hsz : 1 ≤ T.length ∧ T.length ≤ 60
  · obtain ⟨h1, h60⟩ := hsz
    have cS := fun hS h20 => seen_all (T := T) hS W0 a ca (hI.below q0) h60 h20 8 0 rfl 0 (fun _ => 0)
    have HCS : Hid _ := cS
    obtain ⟨b, off, rfl, hcell⟩ := hI (by omega)
    obtain ⟨ra, rc, r0, r1, r2, r3, -⟩ := (hcell 0 (by omega)).below q0
    rw [Nat.zero_mul, Nat.add_zero] at r0 r1
    have ei : (decide (1 ≤ (T.length : Int)) && decide ((T.length : Int) ≤ 60)) = true := by simp; omega
    rw [ei] at cIn
    have HC : Hid (∀ W, Below W0.heap.size W0 W → ∀ i, i < T.length → InAt W b (off + i * 3) (gn T i)) := fun W h i hi => ((hcell i hi).below q0).below h
    have HF : Hid (∀ i, i < T.length → FewN (gn T i).ns) := hf.2
    have HG : Hid (TS T ↔ TS T) := Iff.rfl
    have hpn : (0 : Int) < (T.length : Int) := by omega
    have H1 : Hid _ := h1
    clear ei hcell r2 r3 hI hca hf cS h1
    generalize hTn : T.length = n at *
    have HT : Hid _ := hTn
    clear hTn
    cases hd0 : (gn T 0).dr with
    | false =>
      have HNo : Hid (¬ TS T) := fun h => by have := h.2.2.1; rw [hd0] at this; cases this
      rw [hd0] at r0
      clear hd0
      go_enter Try.func12, Try.ntmps12
      go_wp2_with (go_at_call 24; refine (cIn _).mono ?_; rintro e w' ⟨rfl, hww⟩; rw [hww])
      go_ret
      exact ⟨Tel.no rfl HNo.out, q0⟩
    | true =>
      rw [hd0] at r0
      have HD0 : Hid _ := hd0
      clear hd0
      by_cases hl0 : (gn T 0).lk = 1
      · rw [hl0] at r1
        have HL0 : Hid _ := hl0
        clear hl0
        go_enter Try.func12, Try.ntmps12
        go_wp2_with (go_at_call 24; refine (cIn _).mono ?_; rintro e w' ⟨rfl, hww⟩; rw [hww])
        clear r0 r1 x0 hW0
        go_loopw [36] (fun i wr => ∃ (kk : Nat), kk ≤ n ∧ i = .int .i64 kk ∧ Hid (∀ j, j < kk → okN n (gn T j)) ∧ Below W0.heap.size W0 wr) (fun i _ => n - (intOf i).toNat)
        case atStart => exact ⟨0, Nat.zero_le _, rfl, fun i hi => absurd hi (by omega), Below.refl _ _⟩
        case round =>
          obtain ⟨kk, hkk, rfl, HK, hb3⟩ := hrel
          by_cases hkl : kk < n
          · obtain ⟨na, nc, y0, y1, y2, y3, -⟩ := HC.out wr hb3 kk hkl
            have hFN := HF.out kk hkl
            have HNk : Hid (¬ okN n (gn T kk) → ¬ TS T) := fun h q => h (by have := q.2.2.2.2.1 kk (by rw [HT.out]; exact hkl); rw [HT.out] at this; exact this)
            have HOk : Hid (okN n (gn T kk) → ∀ j, j < kk + 1 → okN n (gn T j)) := fun h j hj => by
              by_cases e : j = kk
              · subst e; exact h
              · exact HK.out j (by omega)
            generalize gn T kk = X at y0 y1 y2 y3 hFN HNk HOk
            obtain ⟨dr, lk, l⟩ := X
            simp only at y0 y1 y2 y3 hFN
            obtain ⟨nl, hnl⟩ : ∃ nl, l.length = nl := ⟨_, rfl⟩
            have Hnl : Hid _ := hnl
            obtain ⟨hFN1, hFN2⟩ := hFN
            unfold Nms at y3
            rw [hnl] at y2 y3 hFN1 hFN2
            clear hnl
            have HFN : Hid (∀ i, i < nl → (gm l i).nm.size ≤ 9223372036854775807) := hFN2
            obtain ⟨E, hE⟩ : ∃ E, wr.heap.size = E := ⟨_, rfl⟩
            obtain ⟨W1, hW1⟩ : ∃ W1, wr.alloc (.cells #[.bool dr, .int .i64 lk, .slice na nl nc] 43) = W1 := ⟨_, rfl⟩
            have b1 : Below wr.heap.size wr W1 := by subst hW1; exact below_alloc _ _
            have HE : Hid (W1.heap[E]? = some (.cells #[.bool dr, .int .i64 lk, .slice na nl nc] 43 (0, 0))) := by subst hW1 hE; exact al1 _ _
            obtain ⟨u0, u1, u2⟩ := box3_one HE.out
            have hb4 := Below.comp hb3 b1
            have HY3 : Hid (nl ≠ 0 → ∃ b off, na = some ⟨b, off, none⟩ ∧ ∀ i, i < nl → NmAt W1 b (off + i * 2) (gm l i)) := fun h => by
              obtain ⟨b, off, e, h'⟩ := y3 h
              exact ⟨b, off, e, fun i hi => (h' i hi).below b1⟩
            clear y3 hFN2
            go_wp2
            clear y0 y1 y2 u0 u1 u2 hW1
            go_loopw [43] (fun i wr' => ∃ (ii : Nat), ii ≤ nl ∧ i = .int .i64 ii ∧ Hid (∀ i, i < ii → okM n l i) ∧ Below W1.heap.size W1 wr') (fun i _ => nl - (intOf i).toNat)
            case atStart => exact ⟨0, Nat.zero_le _, rfl, fun i hi => absurd hi (by omega), Below.refl _ _⟩
            case round =>
              obtain ⟨ii, hii, rfl, HN, hb5⟩ := hrel
              by_cases hil : ii < nl
              · obtain ⟨nb, noff, rfl, hnc⟩ := HY3.out (by omega)
                obtain ⟨z0, z1⟩ := (hnc ii hil).below hb5
                have hpv : Hid (∀ i', i' < nl → NmAt wr nb (noff + i' * 2) (gm l i')) := fun i' hi' => (hnc i' hi').below hb5
                have hsz := HFN.out ii hil
                clear hnc
                have HNm : Hid (okM n l ii ↔ isN (gm l ii).nm = true ∧ (1 ≤ (gm l ii).fl ∧ (gm l ii).fl < n) ∧ (0 < ii → les (gm l (ii - 1)).nm (gm l ii).nm = true)) := by
                  show _ ↔ _
                  unfold okM
                  constructor
                  · rintro ⟨p, q, r, s⟩; exact ⟨p, ⟨q, r⟩, s⟩
                  · rintro ⟨p, ⟨q, r⟩, s⟩; exact ⟨p, q, r, s⟩
                have HBad : Hid (¬ okM n l ii → ¬ TS T) := fun h => HNk.out (fun q => h (q.1 ii (by show ii < l.length; rw [Hnl.out]; exact hil)))
                obtain ⟨x, hx⟩ : ∃ x, gm l ii = x := ⟨_, rfl⟩
                rw [hx] at z0 z1 hsz HNm
                clear hx
                obtain ⟨sx, fx⟩ := x
                simp only at z0 z1 hsz HNm
                have c55 := fun dd os => same_regrown (W := wr.alloc (.cells #[.string sx, .int .i64 fx] 49)) (fun u => l8Name_any sx u hsz) dd os
                have c53 := fun dd os => same_regrown (W := wr.alloc (.cells #[.string sx, .int .i64 fx] 49)) (fun u => l1In_any fx 1 (((n : Int) - 1)) u) dd os
                obtain ⟨o2, ho2⟩ : ∃ o2, (decide (1 ≤ fx) && decide (fx ≤ ((n : Int) - 1))) = o2 := ⟨_, rfl⟩
                have HO2 : Hid (o2 = true ↔ 1 ≤ fx ∧ fx < n) := by
                  show _ ↔ _
                  rw [← ho2, Bool.and_eq_true, decide_eq_true_eq, decide_eq_true_eq]
                  omega
                rw [ho2] at c53
                generalize isN sx = o1 at *
                clear ho2
                obtain ⟨E2, hE2⟩ : ∃ E2, wr.heap.size = E2 := ⟨_, rfl⟩
                obtain ⟨W2, hW2⟩ : ∃ W2, wr.alloc (.cells #[.string sx, .int .i64 fx] 49) = W2 := ⟨_, rfl⟩
                have b2 : Below wr.heap.size wr W2 := by subst hW2; exact below_alloc _ _
                have HE2 : Hid (W2.heap[E2]? = some (.cells #[.string sx, .int .i64 fx] 49 (0, 0))) := by subst hW2 hE2; exact al1 _ _
                rw [hW2] at c55 c53
                have hb6 := Below.comp hb5 b2
                have hb7 := Below.comp hb4 hb6
                have v0 : ∀ d os, (Go.Sort.grow (redrawn W2 d) os).cell? ⟨E2, 0, none⟩ = some (.string sx) := fun d os => cell_regrown (box2_cells HE2.out).1 d os
                have v1 : ∀ d os, (Go.Sort.grow (redrawn W2 d) os).cell? ⟨E2, 1, none⟩ = some (.int .i64 fx) := fun d os => cell_regrown (box2_cells HE2.out).2.1 d os
                have v2 : ∀ d os, (Go.Sort.grow (redrawn W2 d) os).cell? ⟨E, 2, none⟩ = some (.slice (some ⟨nb, noff, none⟩) nl nc) := fun d os => cell_regrown (box3_one (box_on HE.out hb6)).2.2 d os
                by_cases hi0 : ii = 0
                · have hz1 : decide ((0 : Int) < (ii : Int)) = false := by simp; omega
                  have hz2 : decide (0 < ii) = false := by simp; omega
                  have Hi0 : Hid _ := hi0
                  clear hi0
                  have hcs : o1 = false ∨ (o1 = true ∧ o2 = false) ∨ (o1 = true ∧ o2 = true) := by cases o1 <;> cases o2 <;> simp
                  rcases hcs with rfl | ⟨rfl, rfl⟩ | ⟨rfl, rfl⟩
                  all_goals
                    go_wp2
                    clear z0 z1 hW2
                    refine wp_region_quiet_below (by kernel_rfl) (by kernel_rfl) ?_
                    repeat (go_big_quiet_step (first | with_reducible exact c55 _ _ | with_reducible exact c53 _ _))
                    refine wpQuiet_nil ?_
                    intro _ hw'
                    obtain ⟨⟨dq2, osq2⟩, hw''⟩ := hw'
                    subst hw''
                    have b9 := below_regrown W2 dq2 osq2
                    clear v0 v1 v2 c55 c53
                    generalize Go.Sort.grow (redrawn W2 dq2) osq2 = w9 at *
                    go_wp2
                  all_goals first
                    | (go_ret
                       exact ⟨Tel.no rfl (HBad.out (fun h => by
                         obtain ⟨w1, w2, -⟩ := HNm.out.1 h
                         have w2' := HO2.out.2 w2
                         first | exact absurd w1 (by decide) | exact absurd w2' (by decide) | (simp at w1) | (simp at w2'))), Below.comp q0 (Below.comp hb7 b9)⟩)
                    | (go_roundw
                       case rel => exact ⟨ii + 1, by omega, by go_num, fun i hi => by have e : i = ii := (by have := Hi0.out; omega); subst e; exact HNm.out.2 ⟨by first | rfl | trivial, HO2.out.1 (by first | rfl | trivial), fun h => absurd h (by have := Hi0.out; omega)⟩, Below.comp hb6 b9⟩
                       case measure => simp [intOf]; omega)
                · obtain ⟨i', hi'⟩ : ∃ i', ii = i' + 1 := ⟨ii - 1, by omega⟩
                  obtain ⟨z2, -⟩ := hpv.out i' (by omega)
                  have ei : IntKind.i64.wrap ((ii : Int) - 1) = (i' : Int) := by rw [wrapI (by omega) (by omega)]; omega
                  have hin : (i' : Int) < (nl : Int) := by omega
                  have hz1 : decide ((0 : Int) < (ii : Int)) = true := by simp; omega
                  have hz2 : decide (0 < ii) = true := by simp; omega
                  have HL3 : Hid (les (gm l (ii - 1)).nm sx = les (gm l i').nm sx) := by show _ = _; rw [hi']; rfl
                  obtain ⟨sp, hsp⟩ : ∃ sp, (gm l i').nm = sp := ⟨_, rfl⟩
                  rw [hsp] at z2 HL3
                  have v6 : ∀ d os, (Go.Sort.grow (redrawn W2 d) os).cell? ⟨nb, noff + i' * 2, none⟩ = some (.string sp) := fun d os => cell_regrown (cell_on z2 b2) d os
                  have eL := les_is sp sx
                  obtain ⟨o3, ho3⟩ : ∃ o3, les sp sx = o3 := ⟨_, rfl⟩
                  rw [ho3] at eL HL3
                  clear hi' hsp ho3 z2 hi0
                  have hcs : o1 = false ∨ (o1 = true ∧ o2 = false) ∨ (o1 = true ∧ o2 = true ∧ o3 = false) ∨ (o1 = true ∧ o2 = true ∧ o3 = true) := by cases o1 <;> cases o2 <;> cases o3 <;> simp
                  have hpos : 0 < ii := by simpa using hz2
                  have HPos : Hid _ := hpos
                  clear hpos
                  rcases hcs with rfl | ⟨rfl, rfl⟩ | ⟨rfl, rfl, rfl⟩ | ⟨rfl, rfl, rfl⟩
                  all_goals
                    go_wp2
                    clear z0 z1 hW2
                    refine wp_region_quiet_below (by kernel_rfl) (by kernel_rfl) ?_
                    repeat (go_big_quiet_step (first | with_reducible exact c55 _ _ | with_reducible exact c53 _ _))
                    refine wpQuiet_nil ?_
                    intro _ hw'
                    obtain ⟨⟨dq2, osq2⟩, hw''⟩ := hw'
                    subst hw''
                    have b9 := below_regrown W2 dq2 osq2
                    clear v0 v1 v2 v6 c55 c53
                    generalize Go.Sort.grow (redrawn W2 dq2) osq2 = w9 at *
                    go_wp2
                  all_goals first
                    | (go_ret
                       exact ⟨Tel.no rfl (HBad.out (fun h => by
                         obtain ⟨w1, w2, w3⟩ := HNm.out.1 h
                         have w2' := HO2.out.2 w2
                         have w3' := w3 HPos.out
                         rw [HL3.out] at w3'
                         first | exact absurd w1 (by decide) | exact absurd w2' (by decide) | exact absurd w3' (by decide) | (simp at w1) | (simp at w2') | (simp at w3'))), Below.comp q0 (Below.comp hb7 b9)⟩)
                    | (go_roundw
                       case rel => exact ⟨ii + 1, by omega, by go_num, fun i hi => by by_cases e : i = ii; (· subst e; exact HNm.out.2 ⟨by first | rfl | trivial, HO2.out.1 (by first | rfl | trivial), fun _ => HL3.out⟩); (· exact HN.out i (by omega)), Below.comp hb6 b9⟩
                       case measure => simp [intOf]; omega)
              · have hin : ii = nl := by omega
                have HAll : Hid (∀ i, i < nl → okM n l i) := fun i hi => HN.out i (by omega)
                clear hin
                obtain ⟨u0, u1, u2⟩ := box3_one (box_on HE.out hb5)
                have hcs : (dr = false ∧ 0 < nl) ∨ (dr = true ∧ 20 < nl) ∨ (dr = true ∧ ¬ 20 < nl) ∨ (dr = false ∧ nl = 0) := by cases dr <;> simp <;> omega
                rcases hcs with ⟨rfl, h0⟩ | ⟨rfl, h0⟩ | ⟨rfl, h0⟩ | ⟨rfl, h0⟩
                · have h0' : decide ((0 : Int) < (nl : Int)) = true := by simp; omega
                  have hn0 : ¬ nl = 0 := by omega
                  have HNo : Hid _ := HNk.out (fun q => by have := q.2.1; simp only at this; rcases this with e | e; (· cases e); (· have := Hnl.out; rw [e] at this; simp at this; omega))
                  clear h0
                  go_wp2
                  go_ret
                  exact ⟨Tel.no rfl HNo.out, Below.comp q0 (Below.comp hb4 hb5)⟩
                · have h0' : decide ((20 : Int) < (nl : Int)) = true := by simp; omega
                  have HNo : Hid _ := HNk.out (fun q => by have := q.2.2; simp only at this; rw [Hnl.out] at this; omega)
                  clear h0
                  go_wp2
                  go_ret
                  exact ⟨Tel.no rfl HNo.out, Below.comp q0 (Below.comp hb4 hb5)⟩
                · have h0' : decide ((20 : Int) < (nl : Int)) = false := by simp; omega
                  have HYes : Hid _ := HOk.out ⟨fun i hi => HAll.out i (by have := Hnl.out; simp only at hi; omega), .inl rfl, by show l.length ≤ 20; rw [Hnl.out]; omega⟩
                  clear h0
                  go_wp2
                  go_roundw
                  case rel => exact ⟨kk + 1, by omega, by go_num, HYes, Below.comp hb4 hb5⟩
                  case measure => simp [intOf]; omega
                · have HYes : Hid _ := HOk.out ⟨fun i hi => HAll.out i (by have := Hnl.out; simp only at hi; omega), .inr (List.eq_nil_of_length_eq_zero (by rw [Hnl.out]; exact h0)), by show l.length ≤ 20; rw [Hnl.out]; omega⟩
                  subst h0
                  go_wp2
                  go_roundw
                  case rel => exact ⟨kk + 1, by omega, by go_num, HYes, Below.comp hb4 hb5⟩
                  case measure => simp [intOf]; omega
          · have hkn : kk = n := by omega
            subst hkn
            have h20 : ∀ k, (gn T k).ns.length ≤ 20 := few_of (T := T) (fun k hk => by rw [HT.out] at hk ⊢; exact HK.out k hk)
            have hSk : Sk T := Sk_of (fun k hk => by rw [HT.out] at hk ⊢; exact HK.out k hk)
            have hmk := make_any (P := Try.prog) 51 3 _ 1 8 Try.underlying51 info3 .i64 .i64 kk (by omega) (by omega)
            simp only [Nat.mul_one] at hmk
            obtain ⟨x0, -⟩ := box1_cells (box_on HX.out hb3)
            obtain ⟨W3, hW3⟩ : ∃ W3, wr.alloc (.cells (made (.int .i64 0) kk) 3) = W3 := ⟨_, rfl⟩
            have b3 : Below wr.heap.size wr W3 := by subst hW3; exact below_alloc _ _
            have hse : SeenAt W3 wr.heap.size kk (fun _ => 0) := by subst hW3; have h6 := seen_made wr kk; rwa [Nat.mul_one] at h6
            have cS := HCS.out hSk h20 wr.heap.size W3 (by omega) hb3.size (Below.comp hb3 b3) hse (fun y => by have := mx_le 8 (by omega); omega)
            unfold tv at cS
            change Calls _ _ #[_, .int .i64 0, .int .i64 0, _] W3 _ at cS
            obtain ⟨x1, -⟩ := box1_cells (box_on HX.out (Below.comp hb3 b3))
            have HS : Hid _ := hSk
            clear hSk h20 HCS hse
            go_wp2_with fail
            refine cS.mono ?_
            rintro e w4 ⟨o4, r, rfl, hr1, hr2⟩
            have HR1 : Hid _ := hr1
            have HR2 : Hid _ := hr2
            have hb4 : Below W0.heap.size W0 w4 := (Below.comp hb3 b3).trans ((o4.below (Nat.le_of_lt (by have := b3.size; subst hW3; simp))).mono hb3.size)
            clear hr1 hr2 cS x0 x1 hW3 hmk
            cases r with
            | false =>
              go_wp2_with fail
              go_ret
              exact ⟨Tel.no rfl (fun h => by have := HR1.out.2 h.count; cases this), Below.comp q0 hb4⟩
            | true =>
              have HOK : Hid (ok T 8 0 (fun _ => 0)) := HR1.out.1 rfl
              have HSE : Hid (SeenAt w4 wr.heap.size kk (nb T 8 0)) := by
                have h5 := HR2.out rfl
                rw [HT.out] at h5
                exact h5.congr (fun i _ => Nat.zero_add _)
              clear HR1 HR2
              obtain ⟨x0, -⟩ := box1_cells (box_on HX.out hb4)
              go_wp2_with fail
              clear x0
              go_loopw [102] (fun i wr' => ∃ (jj : Nat), jj ≤ kk ∧ i = .int .i64 jj ∧ Hid (∀ j, j < jj → lkS T j) ∧ Below w4.heap.size w4 wr') (fun i _ => kk - (intOf i).toNat)
              case atStart => exact ⟨0, Nat.zero_le _, rfl, fun i hi => absurd hi (by omega), Below.refl _ _⟩
              case round =>
                obtain ⟨jj, hjj, rfl, HJ, hb5⟩ := hrel
                by_cases hjl : jj < kk
                · obtain ⟨na, nc, y0, y1, y2, -, -⟩ := HC.out _ (Below.comp hb4 hb5) jj hjl
                  obtain ⟨s0, -⟩ := (HSE.out.below hb5).cell hjl
                  have HLk : Hid (lkS T jj ↔ (0 < jj → (gn T jj).lk = (nb T 8 0 jj : Int) ∧ ((gn T jj).dr = true → (gn T jj).lk = 1))) := Iff.rfl
                  have HNk : Hid (¬ lkS T jj → ¬ TS T) := fun h q => h (q.lks (by rw [HT.out]; exact hjl))
                  have HOk : Hid (lkS T jj → ∀ j, j < jj + 1 → lkS T j) := fun h j hj => by
                    by_cases e : j = jj
                    · subst e; exact h
                    · exact HJ.out j (by omega)
                  generalize (gn T jj).dr = dr at *
                  generalize (gn T jj).lk = lk at *
                  generalize (gn T jj).ns.length = nl at *
                  generalize ((nb T 8 0 jj : Nat) : Int) = SV at *
                  obtain ⟨E, hE⟩ : ∃ E, wr.heap.size = E := ⟨_, rfl⟩
                  obtain ⟨W2, hW2⟩ : ∃ W2, wr.alloc (.cells #[.bool dr, .int .i64 lk, .slice na nl nc] 43) = W2 := ⟨_, rfl⟩
                  have b2 : Below wr.heap.size wr W2 := by subst hW2; exact below_alloc _ _
                  have HE : Hid (W2.heap[E]? = some (.cells #[.bool dr, .int .i64 lk, .slice na nl nc] 43 (0, 0))) := by subst hW2 hE; exact al1 _ _
                  have hb6 := Below.comp hb5 b2
                  have v0 : ∀ d os, (Go.Sort.grow (redrawn W2 d) os).cell? ⟨E, 0, none⟩ = some (.bool dr) := fun d os => cell_regrown (box3_one HE.out).1 d os
                  have v1 : ∀ d os, (Go.Sort.grow (redrawn W2 d) os).cell? ⟨E, 1, none⟩ = some (.int .i64 lk) := fun d os => cell_regrown (box3_one HE.out).2.1 d os
                  have v3 := fun d os => cell_regrown (cell_on s0 b2) d os
                  obtain ⟨o1, ho1⟩ : ∃ o1, (lk != SV) = o1 := ⟨_, rfl⟩
                  obtain ⟨o2, ho2⟩ : ∃ o2, (lk != 1) = o2 := ⟨_, rfl⟩
                  have ho1' : (!(lk == SV)) = o1 := ho1
                  have ho2' : (!(lk == 1)) = o2 := ho2
                  have HO1 : Hid (lk = SV ↔ o1 = false) := by show _ ↔ _; rw [← ho1]; simp
                  have HO2 : Hid (lk = 1 ↔ o2 = false) := by show _ ↔ _; rw [← ho2]; simp
                  have hjn : (jj : Int) < (kk : Int) := by omega
                  by_cases hi0 : jj = 0
                  · have HYes : Hid _ := HOk.out (HLk.out.2 (fun h => absurd h (by omega)))
                    have hz1 : decide ((0 : Int) < (jj : Int)) = false := by simp; omega
                    have hz2 : decide (0 < jj) = false := by simp; omega
                    clear ho1 ho2 ho1' ho2' hi0
                    go_wp2
                    clear y0 y1 y2 s0 hW2
                    refine wp_region_quiet_below (by kernel_rfl) (by kernel_rfl) ?_
                    repeat (go_big_quiet_step (fail))
                    refine wpQuiet_nil ?_
                    intro _ hw'
                    obtain ⟨⟨dq2, osq2⟩, hw''⟩ := hw'
                    subst hw''
                    have b9 := below_regrown W2 dq2 osq2
                    clear v0 v1 v3
                    generalize Go.Sort.grow (redrawn W2 dq2) osq2 = w9 at *
                    go_wp2
                    go_roundw
                    case rel => exact ⟨jj + 1, by omega, by go_num, HYes, Below.comp hb6 b9⟩
                    case measure => simp [intOf]; omega
                  · have hz1 : decide ((0 : Int) < (jj : Int)) = true := by simp; omega
                    have hz2 : decide (0 < jj) = true := by simp; omega
                    have hpos : 0 < jj := by omega
                    have HPos : Hid _ := hpos
                    clear hpos
                    have hcs : o1 = true ∨ (o1 = false ∧ dr = false) ∨ (o1 = false ∧ dr = true ∧ o2 = true) ∨ (o1 = false ∧ dr = true ∧ o2 = false) := by cases o1 <;> cases o2 <;> cases dr <;> simp
                    rcases hcs with rfl | ⟨rfl, rfl⟩ | ⟨rfl, rfl, rfl⟩ | ⟨rfl, rfl, rfl⟩
                    all_goals
                      go_wp2
                      clear y0 y1 y2 s0 hW2
                      refine wp_region_quiet_below (by kernel_rfl) (by kernel_rfl) ?_
                      repeat (go_big_quiet_step (fail))
                      refine wpQuiet_nil ?_
                      intro _ hw'
                      obtain ⟨⟨dq2, osq2⟩, hw''⟩ := hw'
                      subst hw''
                      have b9 := below_regrown W2 dq2 osq2
                      clear v0 v1 v3
                      generalize Go.Sort.grow (redrawn W2 dq2) osq2 = w9 at *
                      go_wp2
                    all_goals first
                      | (go_ret
                         exact ⟨Tel.no rfl (HNk.out (fun h => by
                           obtain ⟨w1, w2⟩ := HLk.out.1 h HPos.out
                           have w1' := HO1.out.1 w1
                           first | exact absurd w1' (by decide) | (simp at w1') | (have w2' := HO2.out.1 (w2 (by first | rfl | trivial)); first | exact absurd w2' (by decide) | (simp at w2')))), Below.comp q0 (Below.comp hb4 (Below.comp hb6 b9))⟩)
                      | (go_roundw
                         case rel => exact ⟨jj + 1, by omega, by go_num, HOk.out (HLk.out.2 (fun _ => ⟨HO1.out.2 (by first | rfl | trivial), fun h => by first | (cases h; done) | (simp at h; done) | exact HO2.out.2 (by first | rfl | trivial)⟩)), Below.comp hb6 b9⟩
                         case measure => simp [intOf]; omega)
                · have hjk : jj = kk := by omega
                  subst hjk
                  have HYes : Hid (TS T) := TS_of (by rw [HT.out]; exact H1.out) (by rw [HT.out]; exact h60) HD0.out HL0.out (fun k hk => by rw [HT.out] at hk ⊢; exact HK.out k hk) HOK.out (fun k hk => HJ.out k (by rw [HT.out] at hk; exact hk))
                  go_wp2
                  go_ret
                  exact ⟨Tel.yes rfl HYes.out, Below.comp q0 (Below.comp hb4 hb5)⟩
      · have hl0' : ((gn T 0).lk != 1) = true := by simpa using hl0
        have HNo : Hid (¬ TS T) := fun h => hl0 h.2.2.2.1
        generalize (gn T 0).lk = L0 at *
        go_enter Try.func12, Try.ntmps12
        go_wp2_with (go_at_call 24; refine (cIn _).mono ?_; rintro e w' ⟨rfl, hww⟩; rw [hww])
        go_ret
        exact ⟨Tel.no rfl HNo.out, q0⟩
  · have ei : (decide (1 ≤ (T.length : Int)) && decide ((T.length : Int) ≤ 60)) = false := by
      rw [Bool.and_eq_false_iff, decide_eq_false_iff_not, decide_eq_false_iff_not]; omega
    rw [ei] at cIn
    have HNo : Hid (¬ TS T) := fun h => hsz ⟨h.1, h.2.1⟩
    clear ei hsz
    generalize T.length = n at *
    go_enter Try.func12, Try.ntmps12
    go_wp2_with (go_at_call 24; refine (cIn _).mono ?_; rintro e w' ⟨rfl, hww⟩; rw [hww])
    go_ret
    exact ⟨Tel.no rfl HNo.out, q0⟩
end Go.Proofs.Ythioomihpfmlmaa
