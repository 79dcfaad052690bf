import Derived.Test.YtienhdlhlddemaaD3
/- The specification: a good cow. -/
namespace Go.Proofs.Ytienhdlhlddemaa.Hd
set_option linter.unusedVariables false
theorem TT_le {l : Nat} (h : l ≤ 3) : TT 1048576 l ≤ 1099512676353 := by
  match l, h with
  | 0, _ => decide
  | 1, _ => decide
  | 2, _ => decide
  | 3, _ => decide
theorem few_no1 {c : Co} (h : ¬ (1 ≤ c.lv ∧ c.lv ≤ 3)) : gS c = false := by
  unfold gS few
  by_cases h1 : 1 ≤ c.lv
  · rw [decide_eq_false (fun e => h ⟨h1, e⟩)]; simp
  · rw [decide_eq_false h1]; simp
theorem few_no2 {c : Co} (h : ¬ c.cs.length ≤ 80) : gS c = false := by unfold gS few; rw [decide_eq_false h]; simp
theorem few_no3 {c : Co} (h : ¬ (1 ≤ c.rs.length ∧ c.rs.length ≤ 8)) : gS c = false := by
  unfold gS few
  by_cases h1 : 1 ≤ c.rs.length
  · rw [decide_eq_false (fun e => h ⟨h1, e⟩)]; simp
  · rw [decide_eq_false h1]; simp
theorem few_yes {c : Co} (h1 : 1 ≤ c.lv ∧ c.lv ≤ 3) (h2 : c.cs.length ≤ 80) (h3 : 1 ≤ c.rs.length ∧ c.rs.length ≤ 8) : few c = true := by
  unfold few; simp [h1, h2, h3]
/-- A cell whose count is right. -/
def cR (s : List Int) (x : Ce) (k : Nat) : Bool := decide (x.ct = gi s k) && (!decide (x.ct = 0) || (decide (x.lf.size = 0) && decide (x.kd = [])))
theorem gS_none {c : Co} (h : c.rs.foldlM (deep c.cs c.lv.toNat) (zer c.cs.length) = none) : gS c = false := by unfold gS; rw [h]; simp
theorem gS_none2 {c : Co} {s : List Int} (h : c.rs.foldlM (deep c.cs c.lv.toNat) (zer c.cs.length) = some s) (h2 : c.rs.foldlM (lvs c.cs c.lv.toNat) (zer c.cs.length) = none) : gS c = false := by unfold gS; rw [h, h2]; simp
theorem gS_cell {c : Co} {s : List Int} {k : Nat} (h : c.rs.foldlM (deep c.cs c.lv.toNat) (zer c.cs.length) = some s) (hk : k < c.cs.length) (h2 : cR s (gc c.cs k) k = false) : gS c = false := by
  rw [Bool.eq_false_iff]
  intro e
  unfold gS at e
  rw [h] at e
  simp only [Bool.and_eq_true, List.all_eq_true, List.mem_range] at e
  have := e.2.2 k hk
  unfold cR at h2
  rw [Bool.eq_false_iff] at h2
  exact h2 (by simpa using this)
theorem gS_yes {c : Co} {s a : List Int} (hf : few c = true) (h : c.rs.foldlM (deep c.cs c.lv.toNat) (zer c.cs.length) = some s) (h2 : c.rs.foldlM (lvs c.cs c.lv.toNat) (zer c.cs.length) = some a) (h3 : ∀ k, k < c.cs.length → cR s (gc c.cs k) k = true) : gS c = true := by
  unfold gS
  rw [hf, h, h2]
  simp only [Option.isSome_some, Bool.true_and, List.all_eq_true, List.mem_range]
  intro k hk
  exact h3 k hk
end Go.Proofs.Ytienhdlhlddemaa.Hd
namespace Go.Proofs.Ytienhdlhlddemaa
open Go.ChangeShapes Go.WideShapes Go.ChangeAt Go.RowKit
set_option linter.unusedVariables false
open Hd

attribute [local go_sem] Oper.semAt_some

theorem kid_le {L : List Ce} (h : kk L L.length ≤ 1048576) {i : Nat} (hi : i < L.length) : (gc L i).kd.length ≤ 1048576 := Nat.le_trans (kk_le hi) h
set_option maxHeartbeats 2000000 in
theorem specGood_no (v : Value) (c : Co) (w : World) (hc : CowAt w v c) (hf : FewW c) (h : ¬ ((1 ≤ c.lv ∧ c.lv ≤ 3) ∧ c.cs.length ≤ 80 ∧ (1 ≤ c.rs.length ∧ c.rs.length ≤ 8))) :
    Calls Try.prog 16 #[v] w fun e w' => e = .returned (.bool (gS c)) ∧ Below w.heap.size w w' := by
  obtain ⟨a, ca, a', ca', rfl, -, -, -, -⟩ := hc
  have hf1 := hf.1.1
  have hf2 := hf.2
  have n1 := few_no1 (c := c)
  have n2 := few_no2 (c := c)
  have n3 := few_no3 (c := c)
  have HN : Hid _ := And.intro n1 (And.intro n2 n3)
  clear n1 n2 n3 hf
  obtain ⟨W0, hW0⟩ : ∃ W0, w.alloc (.cells #[.slice a c.cs.length ca, .slice a' c.rs.length ca', .int .i64 c.lv] 29) = W0 := ⟨_, rfl⟩
  have q0 : Below w.heap.size w W0 := by subst hW0; exact below_alloc _ _
  have H1 : Hid (W0.heap[w.heap.size]? = some (.cells #[.slice a c.cs.length ca, .slice a' c.rs.length ca', .int .i64 c.lv] 29 (0, 0))) := by subst hW0; exact al1 _ _
  obtain ⟨i0, i1, i2⟩ := box3_one H1.out
  unfold kv
  generalize c.cs.length = n at *
  generalize c.rs.length = m at *
  generalize c.lv = lv at *
  obtain ⟨oo, hoo⟩ : ∃ oo, gS c = oo := ⟨_, rfl⟩
  rw [hoo] at HN ⊢
  clear hoo
  by_cases h1 : 1 ≤ lv ∧ lv ≤ 3
  · have cI := fun W => l1In_yes h1.1 h1.2 W
    by_cases h2 : n ≤ 80
    · have h3 : ¬ (1 ≤ m ∧ m ≤ 8) := fun h3 => h ⟨h1, h2, h3⟩
      have cJ := fun W => l1In_no (x := (m : Int)) (lo := 1) (hi := 8) (by omega) W
      obtain rfl : oo = false := HN.out.2.2 h3
      have h2' : decide ((80 : Int) < (n : Int)) = false := by simp; omega
      clear h h1 h3 HN
      go_enter Try.func16, Try.ntmps16
      go_wp2_with fail
      refine (cI _).mono ?_
      rintro e w1 ⟨rfl, rfl⟩
      go_wp2_with fail
      refine (cJ _).mono ?_
      rintro e w1 ⟨rfl, rfl⟩
      go_wp2_with fail
      go_ret
      exact ⟨rfl, q0⟩
    · obtain rfl : oo = false := HN.out.2.1 h2
      have h2' : decide ((80 : Int) < (n : Int)) = true := by simp; omega
      clear h h1 HN
      go_enter Try.func16, Try.ntmps16
      go_wp2_with fail
      refine (cI _).mono ?_
      rintro e w1 ⟨rfl, rfl⟩
      go_wp2_with fail
      go_ret
      exact ⟨rfl, q0⟩
  · have cI := fun W => l1In_no h1 W
    obtain rfl : oo = false := HN.out.1 h1
    clear h h1 HN
    go_enter Try.func16, Try.ntmps16
    go_wp2_with fail
    refine (cI _).mono ?_
    rintro e w1 ⟨rfl, rfl⟩
    go_wp2_with fail
    go_ret
    exact ⟨rfl, q0⟩
end Go.Proofs.Ytienhdlhlddemaa
