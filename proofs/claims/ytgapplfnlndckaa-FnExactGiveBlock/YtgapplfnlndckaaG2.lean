import Derived.Test.YtgapplfnlndckaaG1
/- impl.hasFreePair, impl.GoodBuddy. -/
namespace Go.Proofs.Ytgapplfnlndckaa
open Go.ChangeShapes Go.WideShapes Go.ChangeAt Go.RowKit
set_option linter.unusedVariables false
open Room

attribute [local go_sem] Oper.semAt_some

theorem eqlA (p q p' q' : Int) (w : World) : (binOp .eql 43 (.agg #[.int .i64 p, .int .i64 q]) (.agg #[.int .i64 p', .int .i64 q'])).run Try.prog w = .ok (.bool (decide ((p, q) = (p', q')))) w := eqlX (p, q) (p', q') w
theorem prs_step {l : List Ex} {k : Nat} (h1 : 1 ≤ k) (hk : k < l.length) : prs (l.drop (k - 1)) = ((okB (gx l (k - 1)) && decide (bud (gx l (k - 1)) = gx l k)) || prs (l.drop k)) := by
  have e1 : l.drop (k - 1) = l[k - 1] :: l.drop k := by
    have := List.drop_eq_getElem_cons (l := l) (i := k - 1) (by omega)
    rw [this]
    congr 2
    omega
  have e2 : l.drop k = l[k] :: l.drop (k + 1) := List.drop_eq_getElem_cons hk
  rw [e1, e2, prs, gx_eq (by omega), gx_eq hk]
theorem prs_end {l : List Ex} {k : Nat} (h1 : 1 ≤ k) (hk : ¬ k < l.length) : prs (l.drop (k - 1)) = false := by
  have h2 : (l.drop (k - 1)).length ≤ 1 := by simp; omega
  match l.drop (k - 1), h2 with
  | [], _ => rfl
  | [x], _ => rfl

set_option maxHeartbeats 2000000 in
theorem hasPair_any (a : Option Addr) (ca : Nat) (l : List Ex) (w : World) (hn : l.length ≤ 1048576) (ha : Exs w a l) :
    Calls Try.prog 41 #[.slice a l.length ca] w fun e w' => e = .returned (.bool (prs l)) ∧ Below w.heap.size w w' := by
  obtain ⟨r, hr⟩ : ∃ r, prs l = r := ⟨_, rfl⟩
  rw [hr]
  go_enter Try.func41, Try.ntmps41
  go_wp2
  go_loopw [3] (fun i wr => ∃ (k : Nat), 1 ≤ k ∧ k ≤ l.length + 1 ∧ i = .int .i64 k ∧ prs (l.drop (k - 1)) = r ∧ Below w.heap.size w wr) (fun i _ => l.length + 1 - (intOf i).toNat)
  case atStart => exact ⟨1, by omega, by omega, rfl, hr, Below.refl _ _⟩
  case round =>
    obtain ⟨k, h1, h2, rfl, hp, hb⟩ := hrel
    by_cases hlt : k < l.length
    · rw [prs_step h1 hlt] at hp
      obtain ⟨b, off, rfl, hcell⟩ := (ha.below hb) (by omega)
      obtain ⟨k0, k1⟩ := hcell (k - 1) (by omega)
      obtain ⟨m0, m1⟩ := hcell k hlt
      clear hcell
      obtain ⟨j, rfl⟩ : ∃ j, k = j + 1 := ⟨k - 1, by omega⟩
      simp only [Nat.add_sub_cancel] at k0 k1 hp
      generalize gx l j = x at *
      generalize gx l (j + 1) = y at *
      have c25 := fun W => implBuddyOf_any x W
      unfold budV at c25
      have hbo : okB x = true → budO x = bud x := fun h => by simp [budO, h]
      obtain ⟨t, ht⟩ : ∃ t, okB x = t := ⟨_, rfl⟩
      rw [ht] at c25 hp hbo
      obtain ⟨z, hz⟩ : ∃ z, budO x = z := ⟨_, rfl⟩
      rw [hz] at c25 hbo
      obtain ⟨p, q⟩ := x
      obtain ⟨p', q'⟩ := y
      obtain ⟨u, v⟩ := z
      simp only at k0 k1 m0 m1
      clear ht hz
      go_wp2_with fail
      refine (c25 _).mono ?_
      rintro e w1 ⟨rfl, b1⟩
      obtain ⟨E, hE⟩ : ∃ E, w1.heap.size = E := ⟨_, rfl⟩
      obtain ⟨W1, hW1⟩ : ∃ W1, w1.alloc (.cells #[.int .i64 u, .int .i64 v] 43) = W1 := ⟨_, rfl⟩
      have b2 : Below w1.heap.size w1 W1 := by subst hW1; exact below_alloc _ _
      have HE : Hid (W1.heap[E]? = some (.cells #[.int .i64 u, .int .i64 v] 43 (0, 0))) := by subst hW1 hE; exact al1 _ _
      have b12 := Below.comp b1 b2
      have hb2 := Below.comp hb b12
      have m0' := cell_on m0 b12
      have m1' := cell_on m1 b12
      obtain ⟨e0, e1, -, -⟩ := box2_cells HE.out
      clear k0 k1 m0 m1
      cases t with
      | false =>
        rw [Bool.false_and, Bool.false_or] at hp
        clear hbo
        go_wp2
        clear hW1
        go_quiet (fail)
        go_wp2
        go_roundw
        case rel => exact ⟨j + 1 + 1, by omega, by omega, by go_num, hp, below_drewN hb2 _⟩
        case measure => simp [intOf]; omega
      | true =>
        rw [← hbo rfl, Bool.true_and] at hp
        clear hbo
        have hlt2 : (j : Int) + 1 < (l.length : Int) := by omega
        have hlt3 : 0 ≤ (j : Int) + 1 := by omega
        have hnat : ((j : Int) + 1).toNat = j + 1 := by omega
        have heq := eqlA u v p' q'
        go_wp2
        clear hW1
        go_quiet (fail)
        by_cases hy : ((u, v) : Ex) = (p', q')
        · rw [decide_eq_true hy, Bool.true_or] at hp
          subst hp
          have hy1 : u = p' := congrArg Prod.fst hy
          have hy2 : v = q' := congrArg Prod.snd hy
          go_wp2
          go_ret
          exact ⟨rfl, below_drewN hb2 _⟩
        · rw [decide_eq_false hy, Bool.false_or] at hp
          have hyb : (decide (u = p') && decide (v = q')) = false := by
            cases h : (decide (u = p') && decide (v = q'))
            · rfl
            · simp only [Bool.and_eq_true, decide_eq_true_eq] at h
              exact absurd (Prod.ext h.1 h.2) hy
          rw [hyb]
          clear hnat heq hy hyb
          go_wp2
          go_roundw
          case rel => exact ⟨j + 1 + 1, by omega, by omega, by go_num, hp, below_drewN hb2 _⟩
          case measure => simp [intOf]; omega
    · rw [prs_end h1 hlt] at hp
      subst hp
      go_wp2
      go_ret
      exact ⟨rfl, hb⟩

set_option maxHeartbeats 1000000 in
theorem implGood_any (b : Int) (a : Option Addr) (ca : Nat) (a' : Option Addr) (ca' : Nat) (F U : List Ex) (w : World) (hn : F.length ≤ 1048576) (hn' : U.length ≤ 1048576) (hca : F.length ≤ ca) (hca' : U.length ≤ ca') (ha : Exs w a F) (ha' : Exs w a' U) :
    Calls Try.prog 18 #[fv b a F.length ca a' U.length ca'] w fun e w' => e = .returned (.bool (good b F U)) ∧ Below w.heap.size w w' := by
  obtain ⟨D, hD⟩ : ∃ D, w.heap.size = D := ⟨_, rfl⟩
  obtain ⟨W0, hW0⟩ : ∃ W0, w.alloc (.cells #[.int .i64 b, .slice a F.length ca, .slice a' U.length ca'] 24) = W0 := ⟨_, rfl⟩
  have g0 : Below w.heap.size w W0 := by subst hW0; exact below_alloc _ _
  have HB : Hid (W0.heap[D]? = some (.cells #[.int .i64 b, .slice a F.length ca, .slice a' U.length ca'] 24 (0, 0))) := by subst hW0 hD; exact al1 _ _
  obtain ⟨i0, i1, i2, -, -, -⟩ := box3_cells HB.out
  unfold good
  cases h1 : decide (0 ≤ b) with
  | false =>
    have h1' : ¬ 0 ≤ b := of_decide_eq_false h1
    rw [Bool.false_and]
    go_enter Try.func18, Try.ntmps18
    go_wp2
    go_ret
    exact ⟨rfl, by first | exact g0 | exact hD ▸ g0⟩
  | true =>
  cases h2 : decide (b ≤ 8) with
  | false =>
    have h1' : 0 ≤ b := of_decide_eq_true h1
    have h2' : ¬ b ≤ 8 := of_decide_eq_false h2
    rw [Bool.true_and, Bool.false_and]
    go_enter Try.func18, Try.ntmps18
    go_wp2
    go_ret
    exact ⟨rfl, by first | exact g0 | exact hD ▸ g0⟩
  | true =>
    have h1' : 0 ≤ b := of_decide_eq_true h1
    have h2' : b ≤ 8 := of_decide_eq_true h2
    obtain ⟨k, rfl⟩ : ∃ k : Nat, b = k := ⟨b.toNat, by omega⟩
    rw [Bool.true_and, Bool.true_and]
    have c40 := isFilled_any k a ca a' ca' F U W0 (by omega) hn hn' hca hca' (ha.below g0) (ha'.below g0)
    have c41 := fun W h => hasPair_any a ca F W hn h
    obtain ⟨r, hr⟩ : ∃ r, fil (pw (k : Int)) 0 F U = r := ⟨_, rfl⟩
    obtain ⟨t, ht⟩ : ∃ t, prs F = t := ⟨_, rfl⟩
    rw [hr] at c40 ⊢
    rw [ht] at c41 ⊢
    clear hr ht h1 h2
    go_enter Try.func18, Try.ntmps18
    go_wp2_with fail
    refine c40.mono ?_
    rintro e w1 ⟨rfl, b1⟩
    clear hW0 i0 i1 i2
    have g1 := Below.comp g0 b1
    obtain ⟨i0, i1, i2, -, -, -⟩ := box3_cells (box_on HB.out b1)
    cases r with
    | false =>
      go_wp2
      go_ret
      exact ⟨rfl, by first | exact g1 | exact hD ▸ g1⟩
    | true =>
      go_wp2_with fail
      refine (c41 _ (ha.below g1)).mono ?_
      rintro e w2 ⟨rfl, b2⟩
      have g2 := Below.comp g1 b2
      go_wp2
      go_ret
      exact ⟨by simp, by first | exact g2 | exact hD ▸ g2⟩
end Go.Proofs.Ytgapplfnlndckaa
