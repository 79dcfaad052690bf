import Derived.Test.YtcfjkejaenmibaaS1
/- A slot torn, on both sides. -/
namespace Go.Proofs.Ytcfjkejaenmibaa
open Go.ChangeShapes Go.WideShapes Go.ChangeAt Go.RowKit
set_option linter.unusedVariables false
open Lg

attribute [local go_sem] Oper.semAt_some

/-- Whether a slot and what is kept of it are as said; what is left. -/
def teB (x : Sl) (k : Int) : Bool := okB 1000000 x && decide (0 ≤ k) && decide (k ≤ 12)
def te (x : Sl) (k : Int) : Sl := bif teB x k then ⟨x.c, x.t, x.d.extract 0 (min k.toNat x.d.size), x.s⟩ else Lg.zero
theorem te_no {x : Sl} {k : Int} (h : ¬ (okB 1000000 x = true ∧ 0 ≤ k ∧ k ≤ 12)) : te x k = Lg.zero ∧ teB x k = false := by
  have : teB x k = false := by
    cases q : teB x k with
    | false => rfl
    | true => unfold teB at q; simp at q; exact absurd ⟨q.1.1, q.1.2, q.2⟩ h
  unfold te
  rw [this]
  exact ⟨rfl, rfl⟩
theorem te_yes {x : Sl} {k : Nat} (h : okB 1000000 x = true) (hk : (k : Int) ≤ 12) : te x k = ⟨x.c, x.t, x.d.extract 0 (min k x.d.size), x.s⟩ ∧ teB x k = true := by
  have : teB x k = true := by unfold teB; simp [h]; omega
  unfold te
  rw [this]
  exact ⟨rfl, rfl⟩

theorem slice_str (d : ByteArray) (k : Nat) (hk : k ≤ d.size) (w : World) : (Instr.slice 9 (.string d) none (some (.int .i64 (k : Int))) none).run Try.prog w = .ok (.string (d.extract 0 k)) w := by
  simp [Instr.slice, go_sem]
  intro h
  omega
theorem min_run (n m : Nat) (w : World) : (Builtin.min_ #[3, 3] 3 #[.int .i64 (n : Int), .int .i64 (m : Int)]).run Try.prog w = .ok (.int .i64 ((min n m : Nat) : Int)) w := by
  simp [Builtin.min_, Builtin.min2, go_sem]
  omega
theorem set2 {w : World} {b : Nat} {v0 v1 v2 v3 v : Value} {e : TypeId} {z : Nat × Nat} (h : w.heap[b]? = some (.cells #[v0, v1, v2, v3] e z)) : (w.setCell ⟨b, 2, none⟩ v).heap[b]? = some (.cells #[v0, v1, v, v3] e z) := by
  rw [block_setz h]; rfl
set_option maxHeartbeats 2000000 in
theorem implTear_any (x : Sl) (k : Int) (w : World) (hx : Few x) (hk : i64 k) : Calls Try.prog 7 #[sv x, .int .i64 k] w fun e w' => e = .returned (.tuple #[sv (te x k), .bool (teB x k)]) ∧ Below w.heap.size w w' := by
  have c1 := fun W => isSlot_any x W hx
  have h12 : okB 1000000 x = true → x.d.size ≤ 12 := okB_size
  have HN : Hid (¬ (okB 1000000 x = true ∧ 0 ≤ k ∧ k ≤ 12) → te x k = Lg.zero ∧ teB x k = false) := te_no
  have HY : Hid (okB 1000000 x = true → ∀ n : Nat, k = n → (n : Int) ≤ 12 → te x k = ⟨x.c, x.t, x.d.extract 0 (min n x.d.size), x.s⟩ ∧ teB x k = true) := fun h n hn h2 => by subst hn; exact te_yes h h2
  obtain ⟨y, hy⟩ : ∃ y, te x k = y := ⟨_, rfl⟩
  obtain ⟨b, hb⟩ : ∃ b, teB x k = b := ⟨_, rfl⟩
  rw [hy, hb] at HN HY ⊢
  obtain ⟨u, hu⟩ : ∃ u, okB 1000000 x = u := ⟨_, rfl⟩
  rw [hu] at c1 h12 HN HY
  obtain ⟨c, t, d, s⟩ := x
  simp only at h12 HY ⊢
  have hd : d.size ≤ 9223372036854775807 := hx.2.2.1
  clear hu hx hy hb
  unfold i64 at hk
  obtain ⟨W0, hW0⟩ : ∃ W0, (w.alloc (.cells #[.int .i64 c, .int .i64 t, .string d, .int .i64 s] 25)).alloc (.cells #[.int .i64 0, .int .i64 0, .string ⟨#[]⟩, .int .i64 0] 25) = W0 := ⟨_, rfl⟩
  have q0 : Below w.heap.size w W0 := by subst hW0; exact ba2 _ _ _
  obtain ⟨B1, B2⟩ : W0.heap[w.heap.size]? = some (.cells #[.int .i64 c, .int .i64 t, .string d, .int .i64 s] 25 (0, 0)) ∧ W0.heap[w.heap.size + 1]? = some (.cells #[.int .i64 0, .int .i64 0, .string ⟨#[]⟩, .int .i64 0] 25 (0, 0)) := by subst hW0; exact al2 _ _ _
  have HA : Hid _ := B1
  have HB : Hid _ := B2
  obtain ⟨x0, x1, x2, x3⟩ := box4_cells B1
  clear B1 B2
  go_enter Try.func7, Try.ntmps7
  go_wp2_with fail
  refine (c1 _).mono ?_
  rintro e w1 ⟨rfl, b1⟩
  have g1 := Below.comp q0 b1
  clear x0 x1 x2 x3 hW0 c1
  have hA := box_on HA.out b1
  have hB := box_on HB.out b1
  obtain ⟨x0, x1, x2, x3⟩ := box4_cells hA
  obtain ⟨e0, e1, e2, e3⟩ := box4_free hA
  obtain ⟨y0, y1, y2, y3⟩ := box4_cells hB
  obtain ⟨f0, f1, f2, f3⟩ := box4_free hB
  have HB1 : Hid _ := hB
  have HA1 : Hid _ := hA
  clear hA hB HA HB
  cases u with
  | false =>
    obtain ⟨rfl, rfl⟩ := HN.out (by simp)
    go_wp2_with fail
    obtain ⟨t0, t1, t2, t3⟩ := box4_cells (box4_set HB1.out (x0 := .int .i64 0) (x1 := .int .i64 0) (x2 := .string ⟨#[]⟩) (x3 := .int .i64 0))
    exact bodyPost_ret (v := .tuple #[.agg #[.int .i64 0, .int .i64 0, .string ⟨#[]⟩, .int .i64 0], .bool false]) (by simp [results, Try.results7, go_sem, t0, t1, t2, t3]) rfl ⟨rfl, set4_below g1 (by omega) _ _ _ _⟩
  | true =>
    have hs := h12 rfl
    by_cases h1 : k < 0
    · obtain ⟨rfl, rfl⟩ := HN.out (by simp; omega)
      go_wp2_with fail
      obtain ⟨t0, t1, t2, t3⟩ := box4_cells (box4_set HB1.out (x0 := .int .i64 0) (x1 := .int .i64 0) (x2 := .string ⟨#[]⟩) (x3 := .int .i64 0))
      exact bodyPost_ret (v := .tuple #[.agg #[.int .i64 0, .int .i64 0, .string ⟨#[]⟩, .int .i64 0], .bool false]) (by simp [results, Try.results7, go_sem, t0, t1, t2, t3]) rfl ⟨rfl, set4_below g1 (by omega) _ _ _ _⟩
    · by_cases h2 : 12 < k
      · obtain ⟨rfl, rfl⟩ := HN.out (by simp; omega)
        go_wp2_with fail
        obtain ⟨t0, t1, t2, t3⟩ := box4_cells (box4_set HB1.out (x0 := .int .i64 0) (x1 := .int .i64 0) (x2 := .string ⟨#[]⟩) (x3 := .int .i64 0))
        exact bodyPost_ret (v := .tuple #[.agg #[.int .i64 0, .int .i64 0, .string ⟨#[]⟩, .int .i64 0], .bool false]) (by simp [results, Try.results7, go_sem, t0, t1, t2, t3]) rfl ⟨rfl, set4_below g1 (by omega) _ _ _ _⟩
      · obtain ⟨n, rfl⟩ : ∃ n : Nat, k = n := ⟨k.toNat, by omega⟩
        obtain ⟨rfl, rfl⟩ := HY.out rfl n rfl (by omega)
        have hmn := min_run n d.size
        have hsl := slice_str d (min n d.size) (by omega)
        obtain ⟨m, hm⟩ : ∃ m, min n d.size = m := ⟨_, rfl⟩
        rw [hm] at hmn hsl
        have Hm : Hid _ := hm
        clear hm
        have a2 := set2 HA1.out (v := .string (d.extract 0 m))
        obtain ⟨z0, z1, z2, z3⟩ := box4_cells a2
        go_wp2_with fail
        have hB2 := box_out HB1.out (out_setCell w1 w.heap.size 2 (.string (d.extract 0 m))) (by omega)
        obtain ⟨t0, t1, t2, t3⟩ := box4_cells (box4_set hB2 (x0 := .int .i64 c) (x1 := .int .i64 t) (x2 := .string (d.extract 0 m)) (x3 := .int .i64 s))
        exact bodyPost_ret (v := .tuple #[.agg #[.int .i64 c, .int .i64 t, .string (d.extract 0 m), .int .i64 s], .bool true]) (by simp [results, Try.results7, go_sem, t0, t1, t2, t3]) rfl ⟨by rw [← Hm.out], set4_below (g1.setCell (Nat.le_refl _) _) (by omega) _ _ _ _⟩
set_option maxHeartbeats 2000000 in
theorem specTear_any (x : Sl) (k : Int) (w : World) (hx : Few x) (hk : i64 k) : Calls Try.prog 5 #[sv x, .int .i64 k] w fun e w' => e = .returned (.tuple #[sv (te x k), .bool (teB x k)]) ∧ Below w.heap.size w w' := by
  have c2 := fun W => l1In_any k 0 12 W
  have c1 := fun W => l10Slot_any x W hx
  have h12 : okB 1000000 x = true → x.d.size ≤ 12 := okB_size
  have HN : Hid (¬ (okB 1000000 x = true ∧ 0 ≤ k ∧ k ≤ 12) → te x k = Lg.zero ∧ teB x k = false) := te_no
  have HY : Hid (okB 1000000 x = true → ∀ n : Nat, k = n → (n : Int) ≤ 12 → te x k = ⟨x.c, x.t, x.d.extract 0 (min n x.d.size), x.s⟩ ∧ teB x k = true) := fun h n hn h2 => by subst hn; exact te_yes h h2
  obtain ⟨y, hy⟩ : ∃ y, te x k = y := ⟨_, rfl⟩
  obtain ⟨b, hb⟩ : ∃ b, teB x k = b := ⟨_, rfl⟩
  rw [hy, hb] at HN HY ⊢
  obtain ⟨u, hu⟩ : ∃ u, okB 1000000 x = u := ⟨_, rfl⟩
  rw [hu] at c1 h12 HN HY
  obtain ⟨c, t, d, s⟩ := x
  simp only at h12 HY ⊢
  have hd : d.size ≤ 9223372036854775807 := hx.2.2.1
  clear hu hx hy hb
  unfold i64 at hk
  obtain ⟨W0, hW0⟩ : ∃ W0, (w.alloc (.cells #[.int .i64 c, .int .i64 t, .string d, .int .i64 s] 25)).alloc (.cells #[.int .i64 0, .int .i64 0, .string ⟨#[]⟩, .int .i64 0] 25) = W0 := ⟨_, rfl⟩
  have q0 : Below w.heap.size w W0 := by subst hW0; exact ba2 _ _ _
  obtain ⟨B1, B2⟩ : W0.heap[w.heap.size]? = some (.cells #[.int .i64 c, .int .i64 t, .string d, .int .i64 s] 25 (0, 0)) ∧ W0.heap[w.heap.size + 1]? = some (.cells #[.int .i64 0, .int .i64 0, .string ⟨#[]⟩, .int .i64 0] 25 (0, 0)) := by subst hW0; exact al2 _ _ _
  have HA : Hid _ := B1
  have HB : Hid _ := B2
  obtain ⟨x0, x1, x2, x3⟩ := box4_cells B1
  clear B1 B2
  go_enter Try.func5, Try.ntmps5
  go_wp2_with fail
  refine (c1 _).mono ?_
  rintro e w1 ⟨rfl, b1⟩
  have g1 := Below.comp q0 b1
  clear x0 x1 x2 x3 hW0 c1
  have hA := box_on HA.out b1
  have hB := box_on HB.out b1
  obtain ⟨x0, x1, x2, x3⟩ := box4_cells hA
  obtain ⟨e0, e1, e2, e3⟩ := box4_free hA
  obtain ⟨y0, y1, y2, y3⟩ := box4_cells hB
  obtain ⟨f0, f1, f2, f3⟩ := box4_free hB
  have HB1 : Hid _ := hB
  have HA1 : Hid _ := hA
  clear hA hB HA HB
  cases u with
  | false =>
    obtain ⟨rfl, rfl⟩ := HN.out (by simp)
    go_wp2_with fail
    obtain ⟨t0, t1, t2, t3⟩ := box4_cells (box4_set HB1.out (x0 := .int .i64 0) (x1 := .int .i64 0) (x2 := .string ⟨#[]⟩) (x3 := .int .i64 0))
    exact bodyPost_ret (v := .tuple #[.agg #[.int .i64 0, .int .i64 0, .string ⟨#[]⟩, .int .i64 0], .bool false]) (by simp [results, Try.results5, go_sem, t0, t1, t2, t3]) rfl ⟨rfl, set4_below g1 (by omega) _ _ _ _⟩
  | true =>
    have hs := h12 rfl
    obtain ⟨v, hv⟩ : ∃ v, (decide (0 ≤ k) && decide (k ≤ 12)) = v := ⟨_, rfl⟩
    rw [hv] at c2
    cases v with
    | false =>
      obtain ⟨rfl, rfl⟩ := HN.out (by simp at hv; simp; omega)
      clear hv
      go_wp2_with (go_at_call 10; refine (c2 _).mono ?_; rintro e w' ⟨rfl, hww⟩; have hww := hww.symm; subst hww)
      obtain ⟨t0, t1, t2, t3⟩ := box4_cells (box4_set HB1.out (x0 := .int .i64 0) (x1 := .int .i64 0) (x2 := .string ⟨#[]⟩) (x3 := .int .i64 0))
      exact bodyPost_ret (v := .tuple #[.agg #[.int .i64 0, .int .i64 0, .string ⟨#[]⟩, .int .i64 0], .bool false]) (by simp [results, Try.results5, go_sem, t0, t1, t2, t3]) rfl ⟨rfl, set4_below g1 (by omega) _ _ _ _⟩
    | true =>
      simp at hv
      obtain ⟨n, rfl⟩ : ∃ n : Nat, k = n := ⟨k.toNat, by omega⟩
      obtain ⟨rfl, rfl⟩ := HY.out rfl n rfl (by omega)
      by_cases hnd : n < d.size
      · have Hm : Hid (min n d.size = n) := by show _ = _; omega
        have hsl := slice_str d n (by omega)
        have a2 := set2 HA1.out (v := .string (d.extract 0 n))
        obtain ⟨z0, z1, z2, z3⟩ := box4_cells a2
        clear hv
        go_wp2_with (go_at_call 10; refine (c2 _).mono ?_; rintro e w' ⟨rfl, hww⟩; have hww := hww.symm; subst hww)
        have hB2 := box_out HB1.out (out_setCell w1 w.heap.size 2 (.string (d.extract 0 n))) (by omega)
        obtain ⟨t0, t1, t2, t3⟩ := box4_cells (box4_set hB2 (x0 := .int .i64 c) (x1 := .int .i64 t) (x2 := .string (d.extract 0 n)) (x3 := .int .i64 s))
        exact bodyPost_ret (v := .tuple #[.agg #[.int .i64 c, .int .i64 t, .string (d.extract 0 n), .int .i64 s], .bool true]) (by simp [results, Try.results5, go_sem, t0, t1, t2, t3]) rfl ⟨by rw [Hm.out], set4_below (g1.setCell (Nat.le_refl _) _) (by omega) _ _ _ _⟩
      · have Hm : Hid (d.extract 0 (min n d.size) = d) := by show _ = _; rw [Nat.min_eq_right (by omega)]; exact ByteArray.extract_zero_size
        clear hv
        go_wp2_with (go_at_call 10; refine (c2 _).mono ?_; rintro e w' ⟨rfl, hww⟩; have hww := hww.symm; subst hww)
        obtain ⟨t0, t1, t2, t3⟩ := box4_cells (box4_set HB1.out (x0 := .int .i64 c) (x1 := .int .i64 t) (x2 := .string d) (x3 := .int .i64 s))
        exact bodyPost_ret (v := .tuple #[.agg #[.int .i64 c, .int .i64 t, .string d, .int .i64 s], .bool true]) (by simp [results, Try.results5, go_sem, t0, t1, t2, t3]) rfl ⟨by rw [Hm.out], set4_below g1 (by omega) _ _ _ _⟩
end Go.Proofs.Ytcfjkejaenmibaa
