import Derived.Test.YtkkakidhdnfilaaF2
import Derived.Test.YtkkakidhdnfilaaL5
/- NewCow on both sides, and its law. -/
namespace Go.Proofs.Ytkkakidhdnfilaa.Hd
set_option linter.unusedVariables false
/-- A new cow. -/
def nwC (lv : Int) : Co := if 1 ≤ lv ∧ lv ≤ 3 then ⟨[], [-1], lv⟩ else ⟨[], [], 0⟩
def nwB (lv : Int) : Bool := decide (1 ≤ lv ∧ lv ≤ 3)
theorem nw_good (lv : Int) : gI ⟨[], [-1], lv⟩ = nwB lv := by
  unfold nwB
  by_cases h : 1 ≤ lv ∧ lv ≤ 3
  · rw [decide_eq_true h]
    obtain ⟨l, hl⟩ : ∃ l, lv.toNat = l + 1 := ⟨lv.toNat - 1, by omega⟩
    unfold gI few met
    simp only [hl]
    have h1 : isO [] (l + 1) (-1) = true := isO_succ.2 (.inl rfl)
    simp [h.1, h.2, h1, mt, zer]
  · rw [decide_eq_false h]
    unfold gI few
    by_cases h1 : 1 ≤ lv
    · have : ¬ lv ≤ 3 := fun h2 => h ⟨h1, h2⟩
      simp [this]
    · simp [h1]
theorem nwC_cs (lv : Int) : (nwC lv).cs = [] := by unfold nwC; split <;> rfl
theorem nwC_rs (lv : Int) : (nwC lv).rs.length ≤ 1 := by unfold nwC; split <;> simp
/-- A cow without cells, marked. -/
def mkc (k : Nat) (n : Nat) (lv : Int) : Co := ⟨[], (List.range n).map fun i => ((k + i : Nat) : Int), lv⟩
end Go.Proofs.Ytkkakidhdnfilaa.Hd
namespace Go.Proofs.Ytkkakidhdnfilaa
open Go.ChangeShapes Go.WideShapes Go.ChangeAt Go.RowKit
set_option linter.unusedVariables false
open Hd

attribute [local go_sem] Oper.semAt_some

theorem WOwn.form {w : World} {B C : Nat} {v : Value} {c : Co} (h : WOwn w B C v c) : ∃ a k a' k', v = .agg #[.slice a c.cs.length k, .slice a' c.rs.length k', .int .i64 c.lv] := by
  obtain ⟨a, k, a', k', e, -⟩ := h.at_
  exact ⟨a, k, a', k', e⟩
theorem markCowN (B C : Nat) (v : Value) (c : Co) (k : Nat) (w : World) (hz : c.cs = []) (hk : k + c.rs.length ≤ 100000000) (h : WOwn w B C v c) :
    Calls Try.prog 14 #[v, .int .i64 k] w fun e w' => e = .returned (.int .i64 ((k + c.rs.length : Nat) : Int)) ∧ (∃ W, Below w.heap.size w W ∧ Out B C W w') ∧ WOwn w' B C v (mkc k c.rs.length c.lv) := by
  obtain ⟨a, ka, x, gs, B', C', rfl, h1, h2, h3, h4, h5, h6⟩ := h
  obtain ⟨L, S, lv⟩ := c
  simp only at hz hk h1 h5 h6 ⊢
  subst hz
  obtain ⟨a', k', rfl, hk', -⟩ := id h5
  have c1 := fun W h => markIntS_any B C gs a' k' S k W hk h
  obtain ⟨W0, hW0⟩ : ∃ W0, w.alloc (.cells #[.slice a 0 ka, .slice a' S.length k', .int .i64 lv] 25) = W0 := ⟨_, rfl⟩
  have q0 : Below w.heap.size w W0 := by subst hW0; exact below_alloc _ _
  obtain ⟨x0, x1, x2⟩ := box3_one (show W0.heap[w.heap.size]? = some (.cells #[.slice a 0 ka, .slice a' S.length k', .int .i64 lv] 25 (0, 0)) by subst hW0; exact al1 _ _)
  have H5 : Hid (IB W0 B C (.slice a' S.length k') S gs) := h5.below q0
  have cZ : ∀ W, Calls Try.prog 38 #[.slice a 0 ka, .int .i64 (k : Int)] W fun e w' => e = .returned (.int .i64 (k : Int)) ∧ w' = W := fun W => by
    go_enter Try.func38, Try.ntmps38
    go_wp2
    refine wp_loop_rounds 1 ?_
    rw [rounds_succ]
    go_wp2
    go_ret
    exact ⟨rfl, rfl⟩
  have hbd : S ≠ [] → B ≤ gs ∧ gs < C := fun hne => by
    obtain ⟨_, _, _, _, hr⟩ := h5
    obtain ⟨-, r2, r3, -⟩ := hr hne
    exact ⟨r2, r3⟩
  have HBD : Hid _ := hbd
  clear h5 h6 hbd
  simp only [List.length_nil] at h1 ⊢
  generalize hn : S.length = n at *
  have Hn : Hid _ := hn
  clear hn
  generalize ((k + n : Nat) : Int) = K at *
  go_enter Try.func14, Try.ntmps14
  go_wp2_with fail
  refine (cZ _).mono ?_
  rintro e w1 ⟨rfl, hw⟩
  have hw' := hw.symm
  subst hw'
  clear hw
  go_wp2_with fail
  refine (c1 _ H5.out).mono ?_
  rintro e w1 ⟨rfl, o1, i1⟩
  have I1 : Hid (IB w1 B C (.slice a' n k') (mkl k n) gs) := i1
  have O1 : Hid (Out B C W0 w1) := by
    by_cases hs : S = []
    · rw [if_pos hs] at o1; subst o1; exact Out.refl _ _ _
    · rw [if_neg hs] at o1; obtain ⟨u1, u2⟩ := HBD.out hs; exact o1.mono u1 u2
  clear o1 i1
  go_wp2_with fail
  go_ret
  exact ⟨rfl, ⟨W0, q0, O1.out⟩, a, ka, .slice a' n k', gs, B', C', by simp [mkc], by simp [mkc], h2, h3, h4, I1.out, COwn.nil⟩
theorem heldCowN (v : Value) (c : Co) (k : Nat) (w : World) (hz : c.cs = []) (hk : k + c.rs.length ≤ 100000000) (h : CowAt w v (mkc k c.rs.length c.lv)) :
    Calls Try.prog 15 #[v, .int .i64 k] w fun e w' => e = .returned (.int .i64 ((k + c.rs.length : Nat) : Int)) ∧ Below w.heap.size w w' := by
  obtain ⟨a, ka, a', k', rfl, h1, h2, h3, h4⟩ := h
  have hml : (mkc k c.rs.length c.lv).rs.length = c.rs.length := by simp [mkc]
  have hcl : (mkc k c.rs.length c.lv).cs.length = 0 := rfl
  have hlv : (mkc k c.rs.length c.lv).lv = c.lv := rfl
  have h4' : Ints w a' (mkl k c.rs.length) := h4
  rw [hml] at h2 ⊢
  rw [hcl, hlv]
  clear h3 h4 h1
  generalize hn : c.rs.length = n at *
  have c1 := fun W h => heldIntS_any a' k' n k W hk h
  obtain ⟨W0, hW0⟩ : ∃ W0, w.alloc (.cells #[.slice a 0 ka, .slice a' n k', .int .i64 c.lv] 25) = W0 := ⟨_, rfl⟩
  have q0 : Below w.heap.size w W0 := by subst hW0; exact below_alloc _ _
  obtain ⟨x0, x1, x2⟩ := box3_one (show W0.heap[w.heap.size]? = some (.cells #[.slice a 0 ka, .slice a' n k', .int .i64 c.lv] 25 (0, 0)) by subst hW0; exact al1 _ _)
  have H5 : Hid (Ints W0 a' (mkl k n)) := h4'.below q0
  have cZ : ∀ W, Calls Try.prog 40 #[.slice a 0 ka, .int .i64 (k : Int)] W fun e w' => e = .returned (.int .i64 (k : Int)) ∧ w' = W := fun W => by
    go_enter Try.func40, Try.ntmps40
    go_wp2
    refine wp_loop_rounds 1 ?_
    rw [rounds_succ]
    go_wp2
    go_ret
    exact ⟨rfl, rfl⟩
  have n1 : decide ((k : Int) < 0) = false := by simp
  have n2 : decide (((k + n : Nat) : Int) < 0) = false := by simp; omega
  clear h4' hn hml hcl hlv
  generalize ((k + n : Nat) : Int) = K at *
  go_enter Try.func15, Try.ntmps15
  go_wp2_with fail
  refine (cZ _).mono ?_
  rintro e w1 ⟨rfl, hw⟩
  have hw' := hw.symm
  subst hw'
  clear hw
  go_wp2_with fail
  refine (c1 _ H5.out).mono ?_
  rintro e w1 ⟨rfl, hw⟩
  have hw' := hw.symm
  subst hw'
  clear hw
  go_wp2_with fail
  go_ret
  exact ⟨rfl, q0⟩
end Go.Proofs.Ytkkakidhdnfilaa
