import Derived.Test.YtgapplfnlndckaaG4
/- spec.GoodBuddy. -/
namespace Go.Proofs.Ytgapplfnlndckaa
open Go.ChangeShapes Go.WideShapes Go.ChangeAt Go.RowKit
set_option linter.unusedVariables false
open Room

attribute [local go_sem] Oper.semAt_some

/-- A free block and a used one that do not overlap. -/
def apt (x o : Ex) : Bool := !(decide (x.1 < fin o) && decide (o.1 < fin x))
theorem nonB_at {b : Int} {F U : List Ex} {k : Nat} (hk : k < F.length) : nonB b F U (F.drop k) = ((!(decide ((gx F k).2 < b) && decide (bud (gx F k) ∈ F)) && U.all (apt (gx F k))) && nonB b F U (F.drop (k + 1))) := by
  rw [List.drop_eq_getElem_cons hk, nonB, ← gx_eq hk]
  rfl
theorem all_at {U : List Ex} {g : Ex → Bool} {j : Nat} (hj : j < U.length) : (U.drop j).all g = (g (gx U j) && (U.drop (j + 1)).all g) := by
  rw [List.drop_eq_getElem_cons hj, List.all_cons, ← gx_eq hj]
theorem sm_ge : ∀ l : List Ex, 0 ≤ sm l
  | [] => by simp [sm]
  | x :: l => by simp only [sm]; have := ln_pos x; have := sm_ge l; omega
theorem sm_le {e : Int} {l : List Ex} (h : lst e 0 l = true) (he : 0 ≤ e) : sm l ≤ e := by have := sm_one h he; omega

set_option maxHeartbeats 4000000 in
theorem specGood_any (b : Int) (a : Option Addr) (ca : Nat) (a' : Option Addr) (ca' : Nat) (F U : List Ex) (w : World) (hn : F.length ≤ 1048576) (hn' : U.length ≤ 1048576) (ha : Exs w a F) (ha' : Exs w a' U) :
    Calls Try.prog 16 #[fv b a F.length ca a' U.length ca'] w fun e w' => e = .returned (.bool (good b F U)) ∧ Below w.heap.size w w' := by
  obtain ⟨D, hD⟩ : ∃ D, w.heap.size = D := ⟨_, rfl⟩
  obtain ⟨W0, hW0⟩ : ∃ W0, w.alloc (.cells #[.int .i64 b, .slice a F.length ca, .slice a' U.length ca'] 24) = W0 := ⟨_, rfl⟩
  have g0 : Below w.heap.size w W0 := by subst hW0; exact below_alloc _ _
  have HB : Hid (W0.heap[D]? = some (.cells #[.int .i64 b, .slice a F.length ca, .slice a' U.length ca'] 24 (0, 0))) := by subst hW0 hD; exact al1 _ _
  obtain ⟨i0, i1, i2, -, -, -⟩ := box3_cells HB.out
  have E1 := fun W => l1In_any b 0 8 W
  by_cases h1 : 0 ≤ b ∧ b ≤ 8
  · have e1 : (decide (0 ≤ b) && decide (b ≤ 8)) = true := by simp; omega
    rw [e1] at E1
    rw [good_spec h1.1 h1.2]
    obtain ⟨c, rfl⟩ : ∃ c : Nat, b = c := ⟨b.toNat, by omega⟩
    have hc8 : c ≤ 8 := by omega
    have hsh := shl_one hc8
    have hP1 := pw_le hc8
    have hP0 := pw_pos (c : Int)
    have hlF : lst (pw (c : Int)) 0 F = true → sm F ≤ pw (c : Int) := fun h => sm_le h (by omega)
    have hlU : lst (pw (c : Int)) 0 U = true → sm U ≤ pw (c : Int) := fun h => sm_le h (by omega)
    have hgF := sm_ge F
    have hgU := sm_ge U
    have HmF : Hid (lst (pw (c : Int)) 0 F = true → ∀ i, i < F.length → isB (gx F i) = true) := fun h i hi => (lst_mem h (by rw [gx_eq hi]; exact List.getElem_mem hi)).1
    have HmU : Hid (lst (pw (c : Int)) 0 U = true → ∀ i, i < U.length → isB (gx U i) = true) := fun h i hi => (lst_mem h (by rw [gx_eq hi]; exact List.getElem_mem hi)).1
    have c36 := fun W h => l6List_any a ca F (pw (c : Int)) W (by omega) (by omega) hn h
    have c36' := fun W h => l6List_any a' ca' U (pw (c : Int)) W (by omega) (by omega) hn' h
    unfold lstV at c36 c36'
    obtain ⟨P, hP⟩ : ∃ P, pw (c : Int) = P := ⟨_, rfl⟩
    rw [hP] at hsh hP1 hP0 hlF hlU HmF HmU c36 c36' ⊢
    obtain ⟨tF, htF⟩ : ∃ t, lst P 0 F = t := ⟨_, rfl⟩
    obtain ⟨tU, htU⟩ : ∃ t, lst P 0 U = t := ⟨_, rfl⟩
    rw [htF] at c36 hlF HmF
    rw [htU] at c36' hlU HmU
    rw [htF, htU]
    obtain ⟨VF, hVF⟩ : ∃ V, (if tF = true then sm F else 0) = V := ⟨_, rfl⟩
    obtain ⟨VU, hVU⟩ : ∃ V, (if tU = true then sm U else 0) = V := ⟨_, rfl⟩
    rw [hVF] at c36
    rw [hVU] at c36'
    obtain ⟨r, hr⟩ : ∃ r, (decide (sm F + sm U = P) && nonB (c : Int) F U F) = r := ⟨_, rfl⟩
    rw [hr]
    have HV : Hid ((if tF = true then sm F else 0) = VF ∧ (if tU = true then sm U else 0) = VU) := ⟨hVF, hVU⟩
    clear htF htU e1 hP hVF hVU
    go_enter Try.func16, Try.ntmps16
    go_wp2_with fail
    refine (E1 _).mono ?_
    rintro e w1 ⟨rfl, rfl⟩
    go_wp2_with fail
    refine (c36 _ (ha.below g0)).mono ?_
    rintro e w2 ⟨rfl, b2⟩
    clear hW0 i0 i1 i2
    have g2 := Below.comp g0 b2
    obtain ⟨i0, i1, i2, -, -, -⟩ := box3_cells (box_on HB.out b2)
    go_wp2_with fail
    refine (c36' _ (ha'.below g2)).mono ?_
    rintro e w3 ⟨rfl, b3⟩
    clear i0 i1 i2
    have g3 := Below.comp g2 b3
    have HB3 : Hid (w3.heap[D]? = _) := box_on HB.out (Below.comp b2 b3)
    obtain ⟨i0, i1, i2, -, -, -⟩ := box3_cells HB3.out
    cases tF with
    | false =>
      go_wp2
      go_ret
      exact ⟨rfl, by first | exact g3 | exact hD ▸ g3⟩
    | true =>
    cases tU with
    | false =>
      go_wp2
      go_ret
      exact ⟨rfl, by first | exact g3 | exact hD ▸ g3⟩
    | true =>
    have hF1 := hlF rfl
    have hU1 := hlU rfl
    have HMF : Hid (∀ i, i < F.length → isB (gx F i) = true) := HmF.out rfl
    have HMU : Hid (∀ i, i < U.length → isB (gx U i) = true) := HmU.out rfl
    obtain ⟨hVF, hVU⟩ := HV.out
    rw [if_pos rfl] at hVF hVU
    subst hVF hVU
    clear hlF hlU c36 c36' E1
    by_cases hs : sm F + sm U = P
    · rw [decide_eq_true hs, Bool.true_and] at hr
      have hs' : ((sm F + sm U) != P) = false := by simp [hs]
      generalize sm F = SF at *
      generalize sm U = SU at *
      clear hs
      go_wp2
      clear i0 i1 i2
      go_loopw [50] (fun i wr => ∃ (k : Nat), k ≤ F.length ∧ i = .int .i64 k ∧ nonB (c : Int) F U (F.drop k) = r ∧ Below w3.heap.size w3 wr) (fun i _ => F.length - (intOf i).toNat)
      case atStart => exact ⟨0, Nat.zero_le _, rfl, by simpa using hr, Below.refl _ _⟩
      case round =>
        obtain ⟨k, hk, rfl, hnb, hb⟩ := hrel
        clear hr
        have hb' := Below.comp g3 hb
        by_cases hlt : k < F.length
        · rw [nonB_at hlt] at hnb
          obtain ⟨bb, off, rfl, hcell⟩ := (ha.below hb') (by omega)
          obtain ⟨k0, k1⟩ := hcell k hlt
          have hlt' : (k : Int) < (F.length : Int) := by omega
          have hxB := HMF.out k hlt
          generalize gx F k = x at *
          obtain ⟨p, q, rfl, hp30, hq8⟩ := xv_nat hxB
          simp only at k0 k1
          obtain ⟨E, hE⟩ : ∃ E, wr.heap.size = E := ⟨_, rfl⟩
          obtain ⟨W1, hW1⟩ : ∃ W1, wr.alloc (.cells #[.int .i64 p, .int .i64 q] 43) = W1 := ⟨_, rfl⟩
          have b1 : Below wr.heap.size wr W1 := by subst hW1; exact below_alloc _ _
          have HE : Hid (W1.heap[E]? = some (.cells #[.int .i64 p, .int .i64 q] 43 (0, 0))) := by subst hW1 hE; exact al1 _ _
          have HD1 : Hid (W1.heap[D]? = _) := box_on HB3.out (Below.comp hb b1)
          have x0 : ∀ d os, (Go.Sort.grow (redrawn W1 d) os).cell? ⟨E, 0, none⟩ = some (.int .i64 p) := fun d os => cell_regrown (box2_cells HE.out).1 d os
          have x1 : ∀ d os, (Go.Sort.grow (redrawn W1 d) os).cell? ⟨E, 1, none⟩ = some (.int .i64 q) := fun d os => cell_regrown (box2_cells HE.out).2.1 d os
          have x2 : ∀ d os, (Go.Sort.grow (redrawn W1 d) os).cell? ⟨D, 0, none⟩ = some (.int .i64 c) := fun d os => cell_regrown (box3_cells HD1.out).1 d os
          have x3 : ∀ d os, (Go.Sort.grow (redrawn W1 d) os).cell? ⟨D, 1, none⟩ = some (.slice (some ⟨bb, off, none⟩) F.length ca) := fun d os => cell_regrown (box3_cells HD1.out).2.1 d os
          obtain ⟨y, hy⟩ : ∃ y, bud ((p : Int), (q : Int)) = y := ⟨_, rfl⟩
          rw [hy] at hnb
          have c38 : ∀ d os, Calls Try.prog 38 #[.agg #[.int .i64 (p : Int), .int .i64 (q : Int)]] (Go.Sort.grow (redrawn W1 d) os) fun e w'' => e = .returned (xv y) ∧ ∃ p : Regrown, w'' = Go.Sort.grow (redrawn W1 p.d) p.os := fun d os => Calls.regrown_of (hy ▸ l6Buddy_any p q hp30 hq8 _)
          have c37 : ∀ d os, Calls Try.prog 37 #[.slice (some ⟨bb, off, none⟩) F.length ca, xv y] (Go.Sort.grow (redrawn W1 d) os) fun e w'' => e = .returned (.int .i64 (atI F y)) ∧ ∃ p : Regrown, w'' = Go.Sort.grow (redrawn W1 p.d) p.os := fun d os => Calls.regrown_of (l6At_any (some ⟨bb, off, none⟩) ca F y _ hn (ha.below (Below.comp (Below.comp hb' b1) (below_regrown W1 d os))))
          have hmem := atI_mem (l := F) (x := y)
          clear hy hcell
          obtain ⟨A, hA⟩ : ∃ A, atI F y = A := ⟨_, rfl⟩
          rw [hA] at c37 hmem
          clear hA
          obtain ⟨y1, y2⟩ := y
          have hbo : ∀ (W : World), True := fun _ => trivial
          by_cases hq : (q : Int) < (c : Int)
          · by_cases hm : (y1, y2) ∈ F
            · rw [decide_eq_true hq, decide_eq_true hm] at hnb
              simp only [Bool.and_self, Bool.not_true, Bool.false_and] at hnb
              subst hnb
              have hA0 : decide (0 ≤ A) = true := decide_eq_true (hmem.2 hm)
              have hq' : decide ((q : Int) < (c : Int)) = true := decide_eq_true hq
              have hq2 : decide (q < c) = true := decide_eq_true (by omega)
              clear hmem hm
              go_wp2
              clear hW1
              refine wp_region_quiet_below (by kernel_rfl) (by kernel_rfl) ?_
              repeat (go_big_quiet_step (first | exact c38 _ _ | exact c37 _ _))
              refine wpQuiet_nil ?_
              intro _ hw'
              obtain ⟨⟨dq, osq⟩, hw''⟩ := hw'
              subst hw''
              have b8 := below_regrown W1 dq osq
              generalize Go.Sort.grow (redrawn W1 dq) osq = w8 at *
              go_wp2
              go_ret
              have hR := Below.comp (Below.comp hb' b1) b8
              exact ⟨rfl, by first | exact hR | exact hD ▸ hR⟩
            · rw [decide_eq_true hq, decide_eq_false hm] at hnb
              simp only [Bool.and_false, Bool.not_false, Bool.true_and] at hnb
              have hA0 : decide (0 ≤ A) = false := decide_eq_false (fun h => hm (hmem.1 h))
              have hq' : decide ((q : Int) < (c : Int)) = true := decide_eq_true hq
              have hq2 : decide (q < c) = true := decide_eq_true (by omega)
              clear hmem hm
              go_wp2
              clear hW1
              refine wp_region_quiet_below (by kernel_rfl) (by kernel_rfl) ?_
              repeat (go_big_quiet_step (first | exact c38 _ _ | exact c37 _ _))
              refine wpQuiet_nil ?_
              intro _ hw'
              obtain ⟨⟨dq, osq⟩, hw''⟩ := hw'
              subst hw''
              have b8 := below_regrown W1 dq osq
              generalize Go.Sort.grow (redrawn W1 dq) osq = w8 at *
              have HE8 : Hid (w8.heap[E]? = some (.cells #[.int .i64 p, .int .i64 q] 43 (0, 0))) := box_on HE.out b8
              have HD8 : Hid (w8.heap[D]? = _) := box_on HD1.out b8
              have hb8 := Below.comp (Below.comp hb b1) b8
              have hb8' := Below.comp g3 hb8
              clear c38 c37 x0 x1 x2 x3 k0 k1
              obtain ⟨i0, i1, i2, -, -, -⟩ := box3_cells HD8.out
              obtain ⟨t, ht⟩ : ∃ t, U.all (apt ((p : Int), (q : Int))) = t := ⟨_, rfl⟩
              rw [ht] at hnb
              have hsq := shl_one hq8
              have hQ1 := pw_le hq8
              have hQ0 := pw_pos (q : Int)
              have hap : ∀ o, apt ((p : Int), (q : Int)) o = !(decide ((p : Int) < fin o) && decide (o.1 < (p : Int) + pw (q : Int))) := fun o => rfl
              generalize apt ((p : Int), (q : Int)) = ap at *
              generalize pw (q : Int) = Q at *
              have HAP : Hid (∀ o, ap o = !(decide ((p : Int) < fin o) && decide (o.1 < (p : Int) + Q))) := hap
              have HNB : Hid _ := hnb
              have HT : Hid _ := ht
              clear hap hnb ht
              go_wp2
              clear i0 i1 i2
              go_loopw [70] (fun j wi => ∃ (m : Nat), m ≤ U.length ∧ j = .int .i64 m ∧ (U.drop m).all ap = t ∧ Below w8.heap.size w8 wi) (fun j _ => U.length - (intOf j).toNat)
              case atStart => exact ⟨0, Nat.zero_le _, rfl, by simpa using HT.out, Below.refl _ _⟩
              case round =>
                obtain ⟨m, hm, rfl, hal, hbi⟩ := hrel
                clear HT
                have hbi' := Below.comp hb8' hbi
                by_cases hltm : m < U.length
                · rw [all_at hltm] at hal
                  obtain ⟨ub, uo, rfl, hcl⟩ := (ha'.below hbi') (by omega)
                  obtain ⟨m0, m1⟩ := hcl m hltm
                  have hltm' : (m : Int) < (U.length : Int) := by omega
                  have hoB := HMU.out m hltm
                  generalize gx U m = o at *
                  obtain ⟨u, v, rfl, hu30, hv8⟩ := xv_nat hoB
                  simp only at m0 m1
                  rw [HAP.out] at hal
                  have hsv := shl_one hv8
                  have hV1 := pw_le hv8
                  have hV0 := pw_pos (v : Int)
                  have ef : fin ((u : Int), (v : Int)) = (u : Int) + pw (v : Int) := rfl
                  rw [ef] at hal
                  simp only at hal
                  generalize pw (v : Int) = V at *
                  clear ef hcl
                  obtain ⟨x0, x1, -, -⟩ := box2_cells (box_on (box_on HE8.out hbi) (below_alloc wr (.cells #[.int .i64 u, .int .i64 v] 43)))
                  by_cases o1 : (p : Int) < (u : Int) + V
                  · by_cases o2 : (u : Int) < (p : Int) + Q
                    · rw [decide_eq_true o1, decide_eq_true o2] at hal
                      simp only [Bool.and_self, Bool.not_true, Bool.false_and] at hal
                      subst hal
                      have hr0 := HNB.out
                      simp only [Bool.false_and] at hr0
                      subst hr0
                      go_wp2
                      go_ret
                      have hR := Below.comp hbi' (below_alloc wr (.cells #[.int .i64 u, .int .i64 v] 43))
                      exact ⟨rfl, by first | exact hR | exact hD ▸ hR⟩
                    · rw [decide_eq_true o1, decide_eq_false o2] at hal
                      simp only [Bool.and_false, Bool.not_false, Bool.true_and] at hal
                      have HAL : Hid _ := hal
                      clear hal
                      go_wp2
                      go_roundw
                      case rel => exact ⟨m + 1, by omega, by go_num, HAL.out, Below.comp hbi (below_alloc _ _)⟩
                      case measure => simp [intOf]; omega
                  · rw [decide_eq_false o1] at hal
                    simp only [Bool.false_and, Bool.not_false, Bool.true_and] at hal
                    have HAL : Hid _ := hal
                    clear hal
                    go_wp2
                    go_roundw
                    case rel => exact ⟨m + 1, by omega, by go_num, HAL.out, Below.comp hbi (below_alloc _ _)⟩
                    case measure => simp [intOf]; omega
                · have hmn : m = U.length := by omega
                  subst hmn
                  rw [List.drop_length, List.all_nil] at hal
                  subst hal
                  have hnb2 := HNB.out
                  simp only [Bool.true_and] at hnb2
                  have HN2 : Hid _ := hnb2
                  clear hnb2
                  go_wp2
                  go_roundw
                  case rel => exact ⟨k + 1, by omega, by go_num, HN2.out, Below.comp hb8 hbi⟩
                  case measure => simp [intOf]; omega
          · rw [decide_eq_false hq] at hnb
            simp only [Bool.false_and, Bool.not_false, Bool.true_and] at hnb
            have hq' : decide ((q : Int) < (c : Int)) = false := decide_eq_false hq
            have hq2 : decide (q < c) = false := decide_eq_false (by omega)
            clear hmem
            go_wp2
            clear hW1
            refine wp_region_quiet_below (by kernel_rfl) (by kernel_rfl) ?_
            repeat (go_big_quiet_step (first | exact c38 _ _ | exact c37 _ _))
            refine wpQuiet_nil ?_
            intro _ hw'
            obtain ⟨⟨dq, osq⟩, hw''⟩ := hw'
            subst hw''
            have b8 := below_regrown W1 dq osq
            generalize Go.Sort.grow (redrawn W1 dq) osq = w8 at *
            have HE8 : Hid (w8.heap[E]? = some (.cells #[.int .i64 p, .int .i64 q] 43 (0, 0))) := box_on HE.out b8
            have HD8 : Hid (w8.heap[D]? = _) := box_on HD1.out b8
            have hb8 := Below.comp (Below.comp hb b1) b8
            have hb8' := Below.comp g3 hb8
            clear c38 c37 x0 x1 x2 x3 k0 k1
            obtain ⟨i0, i1, i2, -, -, -⟩ := box3_cells HD8.out
            obtain ⟨t, ht⟩ : ∃ t, U.all (apt ((p : Int), (q : Int))) = t := ⟨_, rfl⟩
            rw [ht] at hnb
            have hsq := shl_one hq8
            have hQ1 := pw_le hq8
            have hQ0 := pw_pos (q : Int)
            have hap : ∀ o, apt ((p : Int), (q : Int)) o = !(decide ((p : Int) < fin o) && decide (o.1 < (p : Int) + pw (q : Int))) := fun o => rfl
            generalize apt ((p : Int), (q : Int)) = ap at *
            generalize pw (q : Int) = Q at *
            have HAP : Hid (∀ o, ap o = !(decide ((p : Int) < fin o) && decide (o.1 < (p : Int) + Q))) := hap
            have HNB : Hid _ := hnb
            have HT : Hid _ := ht
            clear hap hnb ht
            go_wp2
            clear i0 i1 i2
            go_loopw [70] (fun j wi => ∃ (m : Nat), m ≤ U.length ∧ j = .int .i64 m ∧ (U.drop m).all ap = t ∧ Below w8.heap.size w8 wi) (fun j _ => U.length - (intOf j).toNat)
            case atStart => exact ⟨0, Nat.zero_le _, rfl, by simpa using HT.out, Below.refl _ _⟩
            case round =>
              obtain ⟨m, hm, rfl, hal, hbi⟩ := hrel
              clear HT
              have hbi' := Below.comp hb8' hbi
              by_cases hltm : m < U.length
              · rw [all_at hltm] at hal
                obtain ⟨ub, uo, rfl, hcl⟩ := (ha'.below hbi') (by omega)
                obtain ⟨m0, m1⟩ := hcl m hltm
                have hltm' : (m : Int) < (U.length : Int) := by omega
                have hoB := HMU.out m hltm
                generalize gx U m = o at *
                obtain ⟨u, v, rfl, hu30, hv8⟩ := xv_nat hoB
                simp only at m0 m1
                rw [HAP.out] at hal
                have hsv := shl_one hv8
                have hV1 := pw_le hv8
                have hV0 := pw_pos (v : Int)
                have ef : fin ((u : Int), (v : Int)) = (u : Int) + pw (v : Int) := rfl
                rw [ef] at hal
                simp only at hal
                generalize pw (v : Int) = V at *
                clear ef hcl
                obtain ⟨x0, x1, -, -⟩ := box2_cells (box_on (box_on HE8.out hbi) (below_alloc wr (.cells #[.int .i64 u, .int .i64 v] 43)))
                by_cases o1 : (p : Int) < (u : Int) + V
                · by_cases o2 : (u : Int) < (p : Int) + Q
                  · rw [decide_eq_true o1, decide_eq_true o2] at hal
                    simp only [Bool.and_self, Bool.not_true, Bool.false_and] at hal
                    subst hal
                    have hr0 := HNB.out
                    simp only [Bool.false_and] at hr0
                    subst hr0
                    go_wp2
                    go_ret
                    have hR := Below.comp hbi' (below_alloc wr (.cells #[.int .i64 u, .int .i64 v] 43))
                    exact ⟨rfl, by first | exact hR | exact hD ▸ hR⟩
                  · rw [decide_eq_true o1, decide_eq_false o2] at hal
                    simp only [Bool.and_false, Bool.not_false, Bool.true_and] at hal
                    have HAL : Hid _ := hal
                    clear hal
                    go_wp2
                    go_roundw
                    case rel => exact ⟨m + 1, by omega, by go_num, HAL.out, Below.comp hbi (below_alloc _ _)⟩
                    case measure => simp [intOf]; omega
                · rw [decide_eq_false o1] at hal
                  simp only [Bool.false_and, Bool.not_false, Bool.true_and] at hal
                  have HAL : Hid _ := hal
                  clear hal
                  go_wp2
                  go_roundw
                  case rel => exact ⟨m + 1, by omega, by go_num, HAL.out, Below.comp hbi (below_alloc _ _)⟩
                  case measure => simp [intOf]; omega
              · have hmn : m = U.length := by omega
                subst hmn
                rw [List.drop_length, List.all_nil] at hal
                subst hal
                have hnb2 := HNB.out
                simp only [Bool.true_and] at hnb2
                have HN2 : Hid _ := hnb2
                clear hnb2
                go_wp2
                go_roundw
                case rel => exact ⟨k + 1, by omega, by go_num, HN2.out, Below.comp hb8 hbi⟩
                case measure => simp [intOf]; omega
        · have hkn : k = F.length := by omega
          subst hkn
          rw [List.drop_length] at hnb
          simp only [nonB] at hnb
          subst hnb
          go_wp2
          go_ret
          exact ⟨rfl, by first | exact hb' | exact hD ▸ hb'⟩
    · rw [decide_eq_false hs, Bool.false_and] at hr
      subst hr
      have hs' : ((sm F + sm U) != P) = true := by simp [hs]
      generalize sm F = SF at *
      generalize sm U = SU at *
      clear hs
      go_wp2
      go_ret
      exact ⟨rfl, by first | exact g3 | exact hD ▸ g3⟩
  · have e1 : (decide (0 ≤ b) && decide (b ≤ 8)) = false := by
      cases h : (decide (0 ≤ b) && decide (b ≤ 8))
      · rfl
      · simp at h; omega
    rw [e1] at E1
    have hg : good b F U = false := by
      unfold good
      rw [← Bool.and_assoc, e1, Bool.false_and]
    rw [hg]
    clear e1 h1 hg
    go_enter Try.func16, Try.ntmps16
    go_wp2_with fail
    refine (E1 _).mono ?_
    rintro e w1 ⟨rfl, rfl⟩
    go_wp2
    go_ret
    exact ⟨rfl, by first | exact g0 | exact hD ▸ g0⟩
end Go.Proofs.Ytgapplfnlndckaa
