import Derived.Test.YtodidnbghiinkaaJ3
import Derived.Test.YtodidnbghiinkaaA4
/- The law FnLongest. -/
namespace Go.Proofs.Ytodidnbghiinkaa
open Go.ChangeShapes Go.WideShapes Go.ChangeAt Go.RowKit
set_option linter.unusedVariables false
open Tz

attribute [local go_sem] Oper.semAt_some

/-- Of the longest stretch: none nearer is as long, and none is longer. -/
theorem lgA_best {s : ByteArray} {a o : Nat} (ha : a ≤ s.size) (h1 : 1 ≤ o) (h2 : o ≤ a) (h3 : o ≤ 255) :
    (alk s (a - o) a ≤ (lgA s a).2 ∨ alk s (a - o) a < 3) ∧ ((lgA s a).2 = 0 ∨ (lgA s a).1 ≤ o ∨ alk s (a - o) a ≠ (lgA s a).2) := by
  obtain ⟨q1, q2, q3⟩ := lg_spec s a (min a 255)
  unfold lgA
  split
  · rename_i e
    refine ⟨.inr ?_, .inl rfl⟩
    have := q2 o h1 (by omega)
    rcases q1 with ⟨_, q⟩ | ⟨q, _⟩
    · omega
    · omega
  · rename_i e
    refine ⟨.inl (q2 o h1 (by omega)), ?_⟩
    by_cases hlt : o < (lg s a 2 (min a 255)).1
    · have := q3 o h1 hlt
      exact .inr (.inr (by omega))
    · exact .inr (.inl (by omega))
theorem at_idx {s : ByteArray} {z : Int} {k : Nat} (hz : z = (k : Int)) (h : k < s.size) (w : World) : (Instr.index 9 (.string s) (.int .i64 z)).run Try.prog w = .ok (.int .u8 ((ch s k).toNat : Nat)) w := run_idx' s z k hz h w
theorem ch_nne (x y : UInt8) (h : x = y) : (((x.toNat : Nat) : Int) != ((y.toNat : Nat) : Int)) = false := by subst h; simp
set_option maxRecDepth 20000 in
set_option maxHeartbeats 8000000 in
theorem lawLongest (a : Option Addr) (n cap : Nat) (S : Nat → Nat) (w : World) (hn : n ≤ 9223372036854775807) (hS : ∀ i, S i < 256) (h : At w a n (byJ S)) :
    Calls Try.prog 11 #[.slice a n cap] w fun e w' => e = .returned (.bool true) ∧ Below w.heap.size w w' := by
  by_cases hle : 1048576 < n
  · have hle' : (1048576 : Int) < (n : Int) := by omega
    go_enter Try.func11, Try.ntmps11
    go_wp2
    go_ret
    exact ⟨rfl, Below.refl _ _⟩
  · have hle' : ¬ (1048576 : Int) < (n : Int) := by omega
    have cD := drawLong_any a n cap S w hn hS h
    clear h
    go_enter Try.func11, Try.ntmps11
    go_wp2_with fail
    refine cD.mono ?_
    rintro e w1 ⟨⟨s, z, rfl, hs, hz0, hz1⟩, b1⟩
    clear cD
    by_cases hy : 600 < s.size ∨ z < 0 ∨ (s.size : Int) < z
    · have cI := fun W => implLong_no s z W (by omega) hy
      have cS := fun W => specLong_no s z W (by omega) hy
      clear hy
      go_wp2_with (first
        | (go_at_call 14; refine (cI _).mono ?_; rintro e w2 ⟨rfl, b2⟩)
        | (go_at_call 13; refine (cS _).mono ?_; rintro e w3 ⟨rfl, b3⟩))
      go_ret
      exact ⟨rfl, Below.comp b1 (Below.comp b2 b3)⟩
    · obtain ⟨A, rfl⟩ : ∃ A : Nat, z = (A : Int) := ⟨z.toNat, by omega⟩
      have cI := fun W => implLong_yes s A W (by omega) (by omega)
      have cS := fun W => specLong_yes s A W (by omega) (by omega)
      have hA : A ≤ s.size := by omega
      have HSp : Hid _ := lgA_spec s A hA
      have HB : Hid (∀ o, 1 ≤ o → o ≤ A → o ≤ 255 → (alk s (A - o) A ≤ (lgA s A).2 ∨ alk s (A - o) A < 3) ∧ ((lgA s A).2 = 0 ∨ (lgA s A).1 ≤ o ∨ alk s (A - o) A ≠ (lgA s A).2)) := fun o h1 h2 h3 => lgA_best hA h1 h2 h3
      obtain ⟨r, hr⟩ : ∃ r, lgA s A = r := ⟨_, rfl⟩
      rw [hr] at cI cS HSp HB
      clear hr hy
      obtain ⟨d, m⟩ := r
      simp only at cI cS HSp HB
      have hDD : ((d : Int) != (d : Int)) = false := by simp
      have hMM : ((m : Int) != (m : Int)) = false := by simp
      by_cases h3 : 300 < s.size
      · have h3' : (300 : Int) < (s.size : Int) := by omega
        go_wp2_with (first
          | (go_at_call 14; refine (cI _).mono ?_; rintro e w2 ⟨rfl, b2⟩)
          | (go_at_call 13; refine (cS _).mono ?_; rintro e w3 ⟨rfl, b3⟩))
        go_ret
        exact ⟨rfl, Below.comp b1 (Below.comp b2 b3)⟩
      · have h3' : ¬ (300 : Int) < (s.size : Int) := by omega
        have HEq : Hid (∀ j, j < m → ch s (A + j) = ch s (A + j - d)) := fun j hj => by
          rcases HSp.out with h | h
          · simp only [Prod.mk.injEq] at h; omega
          · exact h.2.2.2.2.2.2 j hj
        by_cases hd : 0 < d
        · have hdm : 1 ≤ d ∧ d ≤ A ∧ d ≤ 255 ∧ 3 ≤ m ∧ m ≤ 66 ∧ A + m ≤ s.size := by
            rcases HSp.out with h | h
            · simp only [Prod.mk.injEq] at h; omega
            · exact ⟨h.1, h.2.1, h.2.2.1, h.2.2.2.1, h.2.2.2.2.1, h.2.2.2.2.2.1⟩
          have hmA : A + m ≤ s.size ∧ d ≤ A := by omega
          have e1 : (0 : Int) < (d : Int) := by omega
          have e2 : ¬ (A : Int) < (d : Int) := by omega
          have e3 : ¬ (m : Int) < 3 := by omega
          have e4 : ¬ (66 : Int) < (m : Int) := by omega
          have e5 : ¬ (s.size : Int) < (A : Int) + (m : Int) := by omega
          have e6 : IntKind.i64.wrap ((A : Int) + (m : Int)) = (A : Int) + (m : Int) := wrapI (by omega) (by omega)
          clear HSp hdm hd
          go_wp2_with (first
            | (go_at_call 14; refine (cI _).mono ?_; rintro e w2 ⟨rfl, b2⟩)
            | (go_at_call 13; refine (cS _).mono ?_; rintro e w3 ⟨rfl, b3⟩; have b3' : Below w.heap.size w w3 := Below.comp b1 (Below.comp b2 b3); clear cI cS))
          go_loopw [11] (fun ii wr => ∃ k : Nat, ii = .int .i64 k ∧ k ≤ m ∧ Below w.heap.size w wr) (fun ii _ => m - (intOf ii).toNat)
          case atStart => exact ⟨0, rfl, Nat.zero_le _, b3'⟩
          case round =>
            obtain ⟨k, rfl, hkm, hbk⟩ := hrel
            by_cases hlt : k < m
            · have hlt' : (k : Int) < (m : Int) := by omega
              have w1 : IntKind.i64.wrap ((A : Int) + (k : Int)) = (A : Int) + (k : Int) := wrapI (by omega) (by omega)
              have w2 : IntKind.i64.wrap ((A : Int) + (k : Int) - (d : Int)) = (A : Int) + (k : Int) - (d : Int) := wrapI (by omega) (by omega)
              have x1 := at_idx (s := s) (z := (A : Int) + (k : Int)) (k := A + k) (by omega) (by omega)
              have x2 := at_idx (s := s) (z := (A : Int) + (k : Int) - (d : Int)) (k := A + k - d) (by omega) (by omega)
              have d3 := ch_nne _ _ (HEq.out k hlt)
              generalize (ch s (A + k)).toNat = X at x1 d3
              generalize (ch s (A + k - d)).toNat = Y at x2 d3
              have bD : ∀ q, Below w.heap.size w (wr.drewN q) := fun q => below_drewN hbk q
              clear HEq HB
              go_wp2_with fail
              go_quiet (fail)
              go_wp2
              go_roundw
              case rel => exact ⟨k + 1, by go_num, by omega, bD _⟩
              case measure => simp [intOf]; omega
            · have hlt' : ¬ (k : Int) < (m : Int) := by omega
              clear HEq
              go_wp2_with fail
              go_loopw [12] (fun ii wr => ∃ o : Nat, ii = .int .i64 o ∧ 1 ≤ o ∧ Below w.heap.size w wr) (fun ii _ => 256 - (intOf ii).toNat)
              case atStart => exact ⟨1, rfl, by omega, hbk⟩
              case round =>
                obtain ⟨o, rfl, ho1, hbo⟩ := hrel
                by_cases c : o ≤ A ∧ o ≤ 255
                · have d0 : (o : Int) ≤ (A : Int) := by omega
                  have d0' : (o : Int) ≤ 255 := by omega
                  obtain ⟨h1, h2⟩ := HB.out o ho1 c.1 c.2
                  have HA : Hid (∀ n, n ≤ 66 → A + n ≤ s.size → (∀ j, j < n → ch s (A - o + j) = ch s (A + j)) → (n = 66 ∨ A + n = s.size ∨ ch s (A - o + n) ≠ ch s (A + n)) → alk s (A - o) A = n) := fun n h1 h2 h3 h4 => alk_of (by omega) h1 h2 h3 h4
                  obtain ⟨N, hN⟩ : ∃ N, alk s (A - o) A = N := ⟨_, rfl⟩
                  rw [hN] at HA h1 h2
                  have hfin : Hid ((m < N ∧ N < 3) ∨ N < m ∨ (N = m ∧ m = 0) ∨ (N = m ∧ 0 < m ∧ d ≤ o)) := by show _ ∨ _; omega
                  clear hN h1 h2 HB
                  go_wp2_with fail
                  go_loopw [13] (fun nn wx => ∃ n : Nat, nn = .int .i64 n ∧ n ≤ 66 ∧ A + n ≤ s.size ∧ Hid (∀ j, j < n → ch s (A - o + j) = ch s (A + j)) ∧ Below w.heap.size w wx) (fun nn _ => 66 - (intOf nn).toNat)
                  case atStart => exact ⟨0, rfl, by omega, by omega, fun j hj => by omega, hbo⟩
                  case round =>
                    obtain ⟨n, rfl, h66, hsz, HE, hbx⟩ := hrel
                    have bD : ∀ q, Below w.heap.size w (wr.drewN q) := fun q => below_drewN hbx q
                    by_cases c1 : n < 66
                    · have d1 : (n : Int) < 66 := by omega
                      by_cases c2 : A + n < s.size
                      · have d2 : (A : Int) + (n : Int) < (s.size : Int) := by omega
                        have w1 : IntKind.i64.wrap ((A : Int) + (n : Int)) = (A : Int) + (n : Int) := wrapI (by omega) (by omega)
                        have w2 : IntKind.i64.wrap ((A : Int) + (n : Int) - (o : Int)) = (A : Int) + (n : Int) - (o : Int) := wrapI (by omega) (by omega)
                        have x1 := at_idx (s := s) (z := (A : Int) + (n : Int)) (k := A + n) (by omega) (by omega)
                        have x2 := at_idx (s := s) (z := (A : Int) + (n : Int) - (o : Int)) (k := A - o + n) (by omega) (by omega)
                        by_cases c3 : ch s (A + n) = ch s (A - o + n)
                        · have d3 := ch_beq _ _ c3
                          have HE' : Hid (∀ j, j < n + 1 → ch s (A - o + j) = ch s (A + j)) := fun j hj => by
                            by_cases e : j = n
                            · subst e; exact c3.symm
                            · exact HE.out j (by omega)
                          generalize (ch s (A + n)).toNat = X at x1 d3
                          generalize (ch s (A - o + n)).toNat = Y at x2 d3
                          clear c3 HE hfin HA
                          go_wp2_with fail
                          go_quiet (fail)
                          go_wp2
                          go_roundw
                          case rel => exact ⟨n + 1, by go_num, by omega, by omega, HE'.out, bD _⟩
                          case measure => simp [intOf]; omega
                        · have d3 := ch_bne _ _ c3
                          have hN : N = n := HA.out n h66 hsz HE.out (.inr (.inr (fun h => c3 h.symm)))
                          subst hN
                          generalize (ch s (A + N)).toNat = X at x1 d3
                          generalize (ch s (A - o + N)).toNat = Y at x2 d3
                          clear c3 HE HA
                          rcases hfin.out with ⟨f1, f2⟩ | f1 | ⟨f1, f2⟩ | ⟨f1, f2, f3⟩
                          · have p1 : (m : Int) < (N : Int) := by omega
                            have p2 : ¬ (3 : Int) ≤ (N : Int) := by omega
                            have p3 : ¬ (N : Int) = (m : Int) := by omega
                            have g1 : decide ((m : Int) < (N : Int)) = true := by simp; omega
                            have g2 : decide ((3 : Int) ≤ (N : Int)) = false := by simp; omega
                            have g3 : ((N : Int) == (m : Int)) = false := by simp; omega
                            go_wp2_with fail
                            go_quiet (fail)
                            go_wp2
                            all_goals go_roundw
                            all_goals first | exact ⟨o + 1, by go_num, by omega, bD _⟩ | (simp [intOf]; omega)
                          · have p1 : ¬ (m : Int) < (N : Int) := by omega
                            have p3 : ¬ (N : Int) = (m : Int) := by omega
                            have g1 : decide ((m : Int) < (N : Int)) = false := by simp; omega
                            have g3 : ((N : Int) == (m : Int)) = false := by simp; omega
                            go_wp2_with fail
                            go_quiet (fail)
                            go_wp2
                            all_goals go_roundw
                            all_goals first | exact ⟨o + 1, by go_num, by omega, bD _⟩ | (simp [intOf]; omega)
                          · subst f1
                            have p4 : ¬ (0 : Int) < (N : Int) := by omega
                            have g1 : decide ((N : Int) < (N : Int)) = false := by simp
                            have g3 : ((N : Int) == (N : Int)) = true := by simp
                            have g4 : decide ((0 : Int) < (N : Int)) = false := by simp; omega
                            clear f2
                            go_wp2_with fail
                            go_quiet (fail)
                            go_wp2
                            all_goals go_roundw
                            all_goals first | exact ⟨o + 1, by go_num, by omega, bD _⟩ | (simp [intOf]; omega)
                          · subst f1
                            have p4 : (0 : Int) < (N : Int) := by omega
                            have p5 : ¬ (o : Int) < (d : Int) := by omega
                            have g1 : decide ((N : Int) < (N : Int)) = false := by simp
                            have g3 : ((N : Int) == (N : Int)) = true := by simp
                            have g4 : decide ((0 : Int) < (N : Int)) = true := by simp; omega
                            have g5 : decide ((o : Int) < (d : Int)) = false := by simp; omega
                            go_wp2_with fail
                            go_quiet (fail)
                            go_wp2
                            all_goals go_roundw
                            all_goals first | exact ⟨o + 1, by go_num, by omega, bD _⟩ | (simp [intOf]; omega)
                      · have hN : N = n := HA.out n h66 hsz HE.out (.inr (.inl (by omega)))
                        subst hN
                        have d2' : decide ((A : Int) + (N : Int) < (s.size : Int)) = false := by simp; omega
                        have w1 : IntKind.i64.wrap ((A : Int) + (N : Int)) = (A : Int) + (N : Int) := wrapI (by omega) (by omega)
                        clear HE HA
                        rcases hfin.out with ⟨f1, f2⟩ | f1 | ⟨f1, f2⟩ | ⟨f1, f2, f3⟩
                        · have p1 : (m : Int) < (N : Int) := by omega
                          have p2 : ¬ (3 : Int) ≤ (N : Int) := by omega
                          have p3 : ¬ (N : Int) = (m : Int) := by omega
                          have g1 : decide ((m : Int) < (N : Int)) = true := by simp; omega
                          have g2 : decide ((3 : Int) ≤ (N : Int)) = false := by simp; omega
                          have g3 : ((N : Int) == (m : Int)) = false := by simp; omega
                          go_wp2_with fail
                          go_quiet (fail)
                          go_wp2
                          all_goals go_roundw
                          all_goals first | exact ⟨o + 1, by go_num, by omega, bD _⟩ | (simp [intOf]; omega)
                        · have p1 : ¬ (m : Int) < (N : Int) := by omega
                          have p3 : ¬ (N : Int) = (m : Int) := by omega
                          have g1 : decide ((m : Int) < (N : Int)) = false := by simp; omega
                          have g3 : ((N : Int) == (m : Int)) = false := by simp; omega
                          go_wp2_with fail
                          go_quiet (fail)
                          go_wp2
                          all_goals go_roundw
                          all_goals first | exact ⟨o + 1, by go_num, by omega, bD _⟩ | (simp [intOf]; omega)
                        · subst f1
                          have p4 : ¬ (0 : Int) < (N : Int) := by omega
                          have g1 : decide ((N : Int) < (N : Int)) = false := by simp
                          have g3 : ((N : Int) == (N : Int)) = true := by simp
                          have g4 : decide ((0 : Int) < (N : Int)) = false := by simp; omega
                          clear f2
                          go_wp2_with fail
                          go_quiet (fail)
                          go_wp2
                          all_goals go_roundw
                          all_goals first | exact ⟨o + 1, by go_num, by omega, bD _⟩ | (simp [intOf]; omega)
                        · subst f1
                          have p4 : (0 : Int) < (N : Int) := by omega
                          have p5 : ¬ (o : Int) < (d : Int) := by omega
                          have g1 : decide ((N : Int) < (N : Int)) = false := by simp
                          have g3 : ((N : Int) == (N : Int)) = true := by simp
                          have g4 : decide ((0 : Int) < (N : Int)) = true := by simp; omega
                          have g5 : decide ((o : Int) < (d : Int)) = false := by simp; omega
                          go_wp2_with fail
                          go_quiet (fail)
                          go_wp2
                          all_goals go_roundw
                          all_goals first | exact ⟨o + 1, by go_num, by omega, bD _⟩ | (simp [intOf]; omega)
                    · have hN : N = n := HA.out n h66 hsz HE.out (.inl (by omega))
                      subst hN
                      have d1' : decide ((N : Int) < 66) = false := by simp; omega
                      clear HE HA
                      rcases hfin.out with ⟨f1, f2⟩ | f1 | ⟨f1, f2⟩ | ⟨f1, f2, f3⟩
                      · have p1 : (m : Int) < (N : Int) := by omega
                        have p2 : ¬ (3 : Int) ≤ (N : Int) := by omega
                        have p3 : ¬ (N : Int) = (m : Int) := by omega
                        have g1 : decide ((m : Int) < (N : Int)) = true := by simp; omega
                        have g2 : decide ((3 : Int) ≤ (N : Int)) = false := by simp; omega
                        have g3 : ((N : Int) == (m : Int)) = false := by simp; omega
                        go_wp2_with fail
                        go_quiet (fail)
                        go_wp2
                        all_goals go_roundw
                        all_goals first | exact ⟨o + 1, by go_num, by omega, bD _⟩ | (simp [intOf]; omega)
                      · have p1 : ¬ (m : Int) < (N : Int) := by omega
                        have p3 : ¬ (N : Int) = (m : Int) := by omega
                        have g1 : decide ((m : Int) < (N : Int)) = false := by simp; omega
                        have g3 : ((N : Int) == (m : Int)) = false := by simp; omega
                        go_wp2_with fail
                        go_quiet (fail)
                        go_wp2
                        all_goals go_roundw
                        all_goals first | exact ⟨o + 1, by go_num, by omega, bD _⟩ | (simp [intOf]; omega)
                      · subst f1
                        have p4 : ¬ (0 : Int) < (N : Int) := by omega
                        have g1 : decide ((N : Int) < (N : Int)) = false := by simp
                        have g3 : ((N : Int) == (N : Int)) = true := by simp
                        have g4 : decide ((0 : Int) < (N : Int)) = false := by simp; omega
                        clear f2
                        go_wp2_with fail
                        go_quiet (fail)
                        go_wp2
                        all_goals go_roundw
                        all_goals first | exact ⟨o + 1, by go_num, by omega, bD _⟩ | (simp [intOf]; omega)
                      · subst f1
                        have p4 : (0 : Int) < (N : Int) := by omega
                        have p5 : ¬ (o : Int) < (d : Int) := by omega
                        have g1 : decide ((N : Int) < (N : Int)) = false := by simp
                        have g3 : ((N : Int) == (N : Int)) = true := by simp
                        have g4 : decide ((0 : Int) < (N : Int)) = true := by simp; omega
                        have g5 : decide ((o : Int) < (d : Int)) = false := by simp; omega
                        go_wp2_with fail
                        go_quiet (fail)
                        go_wp2
                        all_goals go_roundw
                        all_goals first | exact ⟨o + 1, by go_num, by omega, bD _⟩ | (simp [intOf]; omega)
                · by_cases cA : o ≤ A
                  · have d0 : (o : Int) ≤ (A : Int) := by omega
                    have d0' : ¬ (o : Int) ≤ 255 := by omega
                    clear HB
                    go_wp2_with fail
                    go_ret
                    exact ⟨rfl, hbo⟩
                  · have d0 : ¬ (o : Int) ≤ (A : Int) := by omega
                    clear HB
                    go_wp2_with fail
                    go_ret
                    exact ⟨rfl, hbo⟩
        · have hdm : d = 0 ∧ m = 0 := by
            rcases HSp.out with h | h
            · simp only [Prod.mk.injEq] at h; exact h
            · omega
          have hmA : A + m ≤ s.size ∧ d ≤ A := by omega
          have e1 : ¬ (0 : Int) < (d : Int) := by omega
          clear HSp hdm hd
          go_wp2_with (first
            | (go_at_call 14; refine (cI _).mono ?_; rintro e w2 ⟨rfl, b2⟩)
            | (go_at_call 13; refine (cS _).mono ?_; rintro e w3 ⟨rfl, b3⟩; have b3' : Below w.heap.size w w3 := Below.comp b1 (Below.comp b2 b3); clear cI cS))
          go_loopw [11] (fun ii wr => ∃ k : Nat, ii = .int .i64 k ∧ k ≤ m ∧ Below w.heap.size w wr) (fun ii _ => m - (intOf ii).toNat)
          case atStart => exact ⟨0, rfl, Nat.zero_le _, b3'⟩
          case round =>
            obtain ⟨k, rfl, hkm, hbk⟩ := hrel
            by_cases hlt : k < m
            · have hlt' : (k : Int) < (m : Int) := by omega
              have w1 : IntKind.i64.wrap ((A : Int) + (k : Int)) = (A : Int) + (k : Int) := wrapI (by omega) (by omega)
              have w2 : IntKind.i64.wrap ((A : Int) + (k : Int) - (d : Int)) = (A : Int) + (k : Int) - (d : Int) := wrapI (by omega) (by omega)
              have x1 := at_idx (s := s) (z := (A : Int) + (k : Int)) (k := A + k) (by omega) (by omega)
              have x2 := at_idx (s := s) (z := (A : Int) + (k : Int) - (d : Int)) (k := A + k - d) (by omega) (by omega)
              have d3 := ch_nne _ _ (HEq.out k hlt)
              generalize (ch s (A + k)).toNat = X at x1 d3
              generalize (ch s (A + k - d)).toNat = Y at x2 d3
              have bD : ∀ q, Below w.heap.size w (wr.drewN q) := fun q => below_drewN hbk q
              clear HEq HB
              go_wp2_with fail
              go_quiet (fail)
              go_wp2
              go_roundw
              case rel => exact ⟨k + 1, by go_num, by omega, bD _⟩
              case measure => simp [intOf]; omega
            · have hlt' : ¬ (k : Int) < (m : Int) := by omega
              clear HEq
              go_wp2_with fail
              go_loopw [12] (fun ii wr => ∃ o : Nat, ii = .int .i64 o ∧ 1 ≤ o ∧ Below w.heap.size w wr) (fun ii _ => 256 - (intOf ii).toNat)
              case atStart => exact ⟨1, rfl, by omega, hbk⟩
              case round =>
                obtain ⟨o, rfl, ho1, hbo⟩ := hrel
                by_cases c : o ≤ A ∧ o ≤ 255
                · have d0 : (o : Int) ≤ (A : Int) := by omega
                  have d0' : (o : Int) ≤ 255 := by omega
                  obtain ⟨h1, h2⟩ := HB.out o ho1 c.1 c.2
                  have HA : Hid (∀ n, n ≤ 66 → A + n ≤ s.size → (∀ j, j < n → ch s (A - o + j) = ch s (A + j)) → (n = 66 ∨ A + n = s.size ∨ ch s (A - o + n) ≠ ch s (A + n)) → alk s (A - o) A = n) := fun n h1 h2 h3 h4 => alk_of (by omega) h1 h2 h3 h4
                  obtain ⟨N, hN⟩ : ∃ N, alk s (A - o) A = N := ⟨_, rfl⟩
                  rw [hN] at HA h1 h2
                  have hfin : Hid ((m < N ∧ N < 3) ∨ N < m ∨ (N = m ∧ m = 0) ∨ (N = m ∧ 0 < m ∧ d ≤ o)) := by show _ ∨ _; omega
                  clear hN h1 h2 HB
                  go_wp2_with fail
                  go_loopw [13] (fun nn wx => ∃ n : Nat, nn = .int .i64 n ∧ n ≤ 66 ∧ A + n ≤ s.size ∧ Hid (∀ j, j < n → ch s (A - o + j) = ch s (A + j)) ∧ Below w.heap.size w wx) (fun nn _ => 66 - (intOf nn).toNat)
                  case atStart => exact ⟨0, rfl, by omega, by omega, fun j hj => by omega, hbo⟩
                  case round =>
                    obtain ⟨n, rfl, h66, hsz, HE, hbx⟩ := hrel
                    have bD : ∀ q, Below w.heap.size w (wr.drewN q) := fun q => below_drewN hbx q
                    by_cases c1 : n < 66
                    · have d1 : (n : Int) < 66 := by omega
                      by_cases c2 : A + n < s.size
                      · have d2 : (A : Int) + (n : Int) < (s.size : Int) := by omega
                        have w1 : IntKind.i64.wrap ((A : Int) + (n : Int)) = (A : Int) + (n : Int) := wrapI (by omega) (by omega)
                        have w2 : IntKind.i64.wrap ((A : Int) + (n : Int) - (o : Int)) = (A : Int) + (n : Int) - (o : Int) := wrapI (by omega) (by omega)
                        have x1 := at_idx (s := s) (z := (A : Int) + (n : Int)) (k := A + n) (by omega) (by omega)
                        have x2 := at_idx (s := s) (z := (A : Int) + (n : Int) - (o : Int)) (k := A - o + n) (by omega) (by omega)
                        by_cases c3 : ch s (A + n) = ch s (A - o + n)
                        · have d3 := ch_beq _ _ c3
                          have HE' : Hid (∀ j, j < n + 1 → ch s (A - o + j) = ch s (A + j)) := fun j hj => by
                            by_cases e : j = n
                            · subst e; exact c3.symm
                            · exact HE.out j (by omega)
                          generalize (ch s (A + n)).toNat = X at x1 d3
                          generalize (ch s (A - o + n)).toNat = Y at x2 d3
                          clear c3 HE hfin HA
                          go_wp2_with fail
                          go_quiet (fail)
                          go_wp2
                          go_roundw
                          case rel => exact ⟨n + 1, by go_num, by omega, by omega, HE'.out, bD _⟩
                          case measure => simp [intOf]; omega
                        · have d3 := ch_bne _ _ c3
                          have hN : N = n := HA.out n h66 hsz HE.out (.inr (.inr (fun h => c3 h.symm)))
                          subst hN
                          generalize (ch s (A + N)).toNat = X at x1 d3
                          generalize (ch s (A - o + N)).toNat = Y at x2 d3
                          clear c3 HE HA
                          rcases hfin.out with ⟨f1, f2⟩ | f1 | ⟨f1, f2⟩ | ⟨f1, f2, f3⟩
                          · have p1 : (m : Int) < (N : Int) := by omega
                            have p2 : ¬ (3 : Int) ≤ (N : Int) := by omega
                            have p3 : ¬ (N : Int) = (m : Int) := by omega
                            have g1 : decide ((m : Int) < (N : Int)) = true := by simp; omega
                            have g2 : decide ((3 : Int) ≤ (N : Int)) = false := by simp; omega
                            have g3 : ((N : Int) == (m : Int)) = false := by simp; omega
                            go_wp2_with fail
                            go_quiet (fail)
                            go_wp2
                            all_goals go_roundw
                            all_goals first | exact ⟨o + 1, by go_num, by omega, bD _⟩ | (simp [intOf]; omega)
                          · have p1 : ¬ (m : Int) < (N : Int) := by omega
                            have p3 : ¬ (N : Int) = (m : Int) := by omega
                            have g1 : decide ((m : Int) < (N : Int)) = false := by simp; omega
                            have g3 : ((N : Int) == (m : Int)) = false := by simp; omega
                            go_wp2_with fail
                            go_quiet (fail)
                            go_wp2
                            all_goals go_roundw
                            all_goals first | exact ⟨o + 1, by go_num, by omega, bD _⟩ | (simp [intOf]; omega)
                          · subst f1
                            have p4 : ¬ (0 : Int) < (N : Int) := by omega
                            have g1 : decide ((N : Int) < (N : Int)) = false := by simp
                            have g3 : ((N : Int) == (N : Int)) = true := by simp
                            have g4 : decide ((0 : Int) < (N : Int)) = false := by simp; omega
                            clear f2
                            go_wp2_with fail
                            go_quiet (fail)
                            go_wp2
                            all_goals go_roundw
                            all_goals first | exact ⟨o + 1, by go_num, by omega, bD _⟩ | (simp [intOf]; omega)
                          · subst f1
                            have p4 : (0 : Int) < (N : Int) := by omega
                            have p5 : ¬ (o : Int) < (d : Int) := by omega
                            have g1 : decide ((N : Int) < (N : Int)) = false := by simp
                            have g3 : ((N : Int) == (N : Int)) = true := by simp
                            have g4 : decide ((0 : Int) < (N : Int)) = true := by simp; omega
                            have g5 : decide ((o : Int) < (d : Int)) = false := by simp; omega
                            go_wp2_with fail
                            go_quiet (fail)
                            go_wp2
                            all_goals go_roundw
                            all_goals first | exact ⟨o + 1, by go_num, by omega, bD _⟩ | (simp [intOf]; omega)
                      · have hN : N = n := HA.out n h66 hsz HE.out (.inr (.inl (by omega)))
                        subst hN
                        have d2' : decide ((A : Int) + (N : Int) < (s.size : Int)) = false := by simp; omega
                        have w1 : IntKind.i64.wrap ((A : Int) + (N : Int)) = (A : Int) + (N : Int) := wrapI (by omega) (by omega)
                        clear HE HA
                        rcases hfin.out with ⟨f1, f2⟩ | f1 | ⟨f1, f2⟩ | ⟨f1, f2, f3⟩
                        · have p1 : (m : Int) < (N : Int) := by omega
                          have p2 : ¬ (3 : Int) ≤ (N : Int) := by omega
                          have p3 : ¬ (N : Int) = (m : Int) := by omega
                          have g1 : decide ((m : Int) < (N : Int)) = true := by simp; omega
                          have g2 : decide ((3 : Int) ≤ (N : Int)) = false := by simp; omega
                          have g3 : ((N : Int) == (m : Int)) = false := by simp; omega
                          go_wp2_with fail
                          go_quiet (fail)
                          go_wp2
                          all_goals go_roundw
                          all_goals first | exact ⟨o + 1, by go_num, by omega, bD _⟩ | (simp [intOf]; omega)
                        · have p1 : ¬ (m : Int) < (N : Int) := by omega
                          have p3 : ¬ (N : Int) = (m : Int) := by omega
                          have g1 : decide ((m : Int) < (N : Int)) = false := by simp; omega
                          have g3 : ((N : Int) == (m : Int)) = false := by simp; omega
                          go_wp2_with fail
                          go_quiet (fail)
                          go_wp2
                          all_goals go_roundw
                          all_goals first | exact ⟨o + 1, by go_num, by omega, bD _⟩ | (simp [intOf]; omega)
                        · subst f1
                          have p4 : ¬ (0 : Int) < (N : Int) := by omega
                          have g1 : decide ((N : Int) < (N : Int)) = false := by simp
                          have g3 : ((N : Int) == (N : Int)) = true := by simp
                          have g4 : decide ((0 : Int) < (N : Int)) = false := by simp; omega
                          clear f2
                          go_wp2_with fail
                          go_quiet (fail)
                          go_wp2
                          all_goals go_roundw
                          all_goals first | exact ⟨o + 1, by go_num, by omega, bD _⟩ | (simp [intOf]; omega)
                        · subst f1
                          have p4 : (0 : Int) < (N : Int) := by omega
                          have p5 : ¬ (o : Int) < (d : Int) := by omega
                          have g1 : decide ((N : Int) < (N : Int)) = false := by simp
                          have g3 : ((N : Int) == (N : Int)) = true := by simp
                          have g4 : decide ((0 : Int) < (N : Int)) = true := by simp; omega
                          have g5 : decide ((o : Int) < (d : Int)) = false := by simp; omega
                          go_wp2_with fail
                          go_quiet (fail)
                          go_wp2
                          all_goals go_roundw
                          all_goals first | exact ⟨o + 1, by go_num, by omega, bD _⟩ | (simp [intOf]; omega)
                    · have hN : N = n := HA.out n h66 hsz HE.out (.inl (by omega))
                      subst hN
                      have d1' : decide ((N : Int) < 66) = false := by simp; omega
                      clear HE HA
                      rcases hfin.out with ⟨f1, f2⟩ | f1 | ⟨f1, f2⟩ | ⟨f1, f2, f3⟩
                      · have p1 : (m : Int) < (N : Int) := by omega
                        have p2 : ¬ (3 : Int) ≤ (N : Int) := by omega
                        have p3 : ¬ (N : Int) = (m : Int) := by omega
                        have g1 : decide ((m : Int) < (N : Int)) = true := by simp; omega
                        have g2 : decide ((3 : Int) ≤ (N : Int)) = false := by simp; omega
                        have g3 : ((N : Int) == (m : Int)) = false := by simp; omega
                        go_wp2_with fail
                        go_quiet (fail)
                        go_wp2
                        all_goals go_roundw
                        all_goals first | exact ⟨o + 1, by go_num, by omega, bD _⟩ | (simp [intOf]; omega)
                      · have p1 : ¬ (m : Int) < (N : Int) := by omega
                        have p3 : ¬ (N : Int) = (m : Int) := by omega
                        have g1 : decide ((m : Int) < (N : Int)) = false := by simp; omega
                        have g3 : ((N : Int) == (m : Int)) = false := by simp; omega
                        go_wp2_with fail
                        go_quiet (fail)
                        go_wp2
                        all_goals go_roundw
                        all_goals first | exact ⟨o + 1, by go_num, by omega, bD _⟩ | (simp [intOf]; omega)
                      · subst f1
                        have p4 : ¬ (0 : Int) < (N : Int) := by omega
                        have g1 : decide ((N : Int) < (N : Int)) = false := by simp
                        have g3 : ((N : Int) == (N : Int)) = true := by simp
                        have g4 : decide ((0 : Int) < (N : Int)) = false := by simp; omega
                        clear f2
                        go_wp2_with fail
                        go_quiet (fail)
                        go_wp2
                        all_goals go_roundw
                        all_goals first | exact ⟨o + 1, by go_num, by omega, bD _⟩ | (simp [intOf]; omega)
                      · subst f1
                        have p4 : (0 : Int) < (N : Int) := by omega
                        have p5 : ¬ (o : Int) < (d : Int) := by omega
                        have g1 : decide ((N : Int) < (N : Int)) = false := by simp
                        have g3 : ((N : Int) == (N : Int)) = true := by simp
                        have g4 : decide ((0 : Int) < (N : Int)) = true := by simp; omega
                        have g5 : decide ((o : Int) < (d : Int)) = false := by simp; omega
                        go_wp2_with fail
                        go_quiet (fail)
                        go_wp2
                        all_goals go_roundw
                        all_goals first | exact ⟨o + 1, by go_num, by omega, bD _⟩ | (simp [intOf]; omega)
                · by_cases cA : o ≤ A
                  · have d0 : (o : Int) ≤ (A : Int) := by omega
                    have d0' : ¬ (o : Int) ≤ 255 := by omega
                    clear HB
                    go_wp2_with fail
                    go_ret
                    exact ⟨rfl, hbo⟩
                  · have d0 : ¬ (o : Int) ≤ (A : Int) := by omega
                    clear HB
                    go_wp2_with fail
                    go_ret
                    exact ⟨rfl, hbo⟩
end Go.Proofs.Ytodidnbghiinkaa
