import Derived.Test.YtpolhigpcllhiaaIA
/- Work that is good: the model's look. -/
namespace Go.Proofs.Ytpolhigpcllhiaa
open Go.ChangeShapes Go.WideShapes Go.ChangeAt Go.RowKit
set_option linter.unusedVariables false
open Room

attribute [local go_sem] Oper.semAt_some

set_option maxHeartbeats 2000000 in
theorem specGoodW_any (b : Int) (a : Option Addr) (ca : Nat) (a' : Option Addr) (ca' : Nat) (l s : List Ex) (nx : Int) (i : Option Addr) (ci : Nat) (t : List It) (w : World) (hb0 : -9223372036854775808 ≤ b) (hb1 : b ≤ 9223372036854775807) (hn : l.length ≤ 1048576) (hn' : s.length ≤ 1048576) (hm : t.length ≤ 1048577) (hci : t.length ≤ ci) (hxi : ∀ x, x ∈ t → FitI x) (ha : Exs w a l) (ha' : Exs w a' s) (hi : Its w i t) :
    Calls Try.prog 15 #[wv b a l.length ca a' s.length ca' nx i t.length ci] w fun e w' => e = .returned (.bool (gw b l s nx t)) ∧ Below w.heap.size w w' := by
  have cG := fun W h => specGood_any b a ca a' ca' l s W hb0 hb1 hn hn' (ha.below h) (ha'.below h)
  have cI := fun (hg : good b l s = true) W h => l12Items_any b a ca a' s.length ca' l i ci t W (good_iff.1 hg).1 hn (Pl.inB (good_iff.1 hg).2.2.1) hm hci hxi (ha.below h) (hi.below h)
  have hr := rn_prs b l s nx t
  obtain ⟨r, hrr⟩ : ∃ r, gw b l s nx t = r := ⟨_, rfl⟩
  rw [hrr] at hr ⊢
  clear hrr
  generalize rnI b l [] 1 t = R at *
  obtain ⟨G, hG⟩ : ∃ G, good b l s = G := ⟨_, rfl⟩
  rw [hG] at cG hr
  have cI' := fun (h : G = true) => cI (hG.trans h)
  clear cI hG ha ha' hi hxi
  generalize decide (t.length ≤ 30) = u at *
  generalize l.length = n at *
  generalize s.length = n' at *
  generalize t.length = m at *
  obtain ⟨D, hD⟩ : ∃ D, w.heap.size = D := ⟨_, rfl⟩
  obtain ⟨W0, hW0⟩ : ∃ W0, w.alloc (.cells #[.int .i64 b, .slice a n ca, .slice a' n' ca', .int .i64 nx, .slice i m ci] 27) = W0 := ⟨_, rfl⟩
  have g0 : Below w.heap.size w W0 := by subst hW0; exact below_alloc _ _
  have B1 : W0.heap[D]? = some (.cells #[.int .i64 b, .slice a n ca, .slice a' n' ca', .int .i64 nx, .slice i m ci] 27 (0, 0)) := by subst hW0 hD; exact al1 _ _
  have H1 : Hid (W0.heap[D]? = some (.cells #[.int .i64 b, .slice a n ca, .slice a' n' ca', .int .i64 nx, .slice i m ci] 27 (0, 0))) := B1
  obtain ⟨i0, i1, i2, i3, i4⟩ := box5_cells B1
  clear B1
  cases G with
  | false =>
    rw [Bool.false_and] at hr
    subst hr
    go_enter Try.func15, Try.ntmps15
    go_wp2_with fail
    refine (cG _ g0).mono ?_
    rintro e w1 ⟨rfl, b1⟩
    go_wp2
    go_ret
    exact ⟨rfl, by first | exact Below.comp g0 b1 | exact (hD ▸ Below.comp g0 b1)⟩
  | true =>
    have cI := cI' rfl
    clear cI'
    rw [Bool.true_and] at hr
    have HRn : Hid (R = none → r = false) := fun h => by rw [hr, h]
    have HRs : Hid (∀ q, R = some q → r = (u && decide (q = nx))) := fun q h => by rw [hr, h]
    clear hr
    go_enter Try.func15, Try.ntmps15
    go_wp2_with fail
    refine (cG _ g0).mono ?_
    rintro e w1 ⟨rfl, b1⟩
    clear hW0 i0 i1 i2 i3 i4
    obtain ⟨i0, i1, i2, i3, i4⟩ := box5_cells (box_on H1.out b1)
    have g1 := Below.comp g0 b1
    go_wp2_with fail
    refine (cI _ g1).mono ?_
    rintro e w2 ⟨b2, hA⟩
    clear i0 i1 i2 i3 i4
    obtain ⟨i0, i1, i2, i3, i4⟩ := box5_cells (box_on H1.out (Below.comp b1 b2))
    have g2 : Below w.heap.size w w2 := Below.comp g1 b2
    cases R with
    | none =>
      obtain rfl : e = _ := hA
      obtain rfl : r = false := HRn.out rfl
      go_wp2
      go_ret
      exact ⟨rfl, by first | exact g2 | exact (hD ▸ g2)⟩
    | some q =>
      obtain rfl : e = _ := hA
      cases u with
      | false =>
        obtain rfl : r = false := HRs.out q rfl
        go_wp2
        go_ret
        exact ⟨rfl, by first | exact g2 | exact (hD ▸ g2)⟩
      | true =>
        have hr : r = decide (q = nx) := by have h := HRs.out q rfl; simpa using h
        by_cases hq : (q == nx) = true
        · have hq' : decide (q = nx) = true := by simpa using hq
          rw [hq'] at hr
          subst hr
          go_wp2
          go_ret
          exact ⟨by first | rfl | simp [*], by first | exact g2 | exact (hD ▸ g2)⟩
        · have hq1 : (q == nx) = false := by simpa using hq
          have hq' : decide (q = nx) = false := by simpa using hq1
          rw [hq'] at hr
          subst hr
          clear hq hq'
          go_wp2
          go_ret
          exact ⟨by first | rfl | simp [*], by first | exact g2 | exact (hD ▸ g2)⟩
end Go.Proofs.Ytpolhigpcllhiaa
