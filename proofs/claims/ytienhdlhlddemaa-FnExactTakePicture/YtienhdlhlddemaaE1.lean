import Derived.Test.YtienhdlhlddemaaD5
import Derived.Laws.StructEq
/- The program: cells by themselves. -/
namespace Go.Proofs.Ytienhdlhlddemaa
open Go.ChangeShapes Go.WideShapes Go.ChangeAt Go.RowKit
set_option linter.unusedVariables false
open Hd

attribute [local go_sem] Oper.semAt_some

theorem run_part_int {P : Program} {e : TypeId} {k : IntKind} (he : P.underlying e = some (.int k)) {cs : Array Value} {off : Nat} {v : Value} (h : cs[off]? = some v) (w : World) : (part e cs off).run P w = .ok v w := by
  simp [part, isAgg, run_underlying he, h]
def sameIn (X Y : Nat → Int) (j n : Nat) : Bool := (List.range' j n).all fun i => X i == Y i
theorem run_loop_eq {P : Program} {e : TypeId} {k : IntKind} (he : P.underlying e = some (.int k)) (d : Nat) (cs ds : Array Value) (X Y : Nat → Int) (w : World) : ∀ (n j : Nat), (∀ i, i < j + n → cs[i]? = some (.int k (X i)) ∧ ds[i]? = some (.int k (Y i))) →
    Sem.run P (forIn (List.range' j n) ((none, ()) : Option Bool × Unit) fun i __s => do
            let a ← part e cs i
            let b ← part e ds i
            let r ← Op.equalIn (d + 1) e a b
            if r = false then pure (ForInStep.done (some false, ())) else pure (ForInStep.yield (none, ()))) w = .ok (bif sameIn X Y j n then (none, ()) else (some false, ())) w
  | 0, j, h => by simp [sameIn]
  | n + 1, j, h => by
    have ih := run_loop_eq he d cs ds X Y w n (j + 1) (fun i hi => h i (by omega))
    obtain ⟨h1, h2⟩ := h j (by omega)
    have es : sameIn X Y j (n + 1) = ((X j == Y j) && sameIn X Y (j + 1) n) := by simp [sameIn, List.range'_succ]
    rw [List.range'_succ, List.forIn_cons, es]
    simp only [Sem.run_bind, run_part_int he h1, run_part_int he h2, Result.andThen_ok, run_equalIn_int w d e k k (X j) (Y j) he]
    cases e1 : (X j == Y j)
    · simp
    · simp only [Bool.true_eq_false, if_false, Sem.run_pure, Result.andThen_ok, ih, Bool.true_and]
/-- Two arrays of integers, held against each other. -/
theorem run_arr_eql {P : Program} {t e : TypeId} {k : IntKind} {n : Nat} (ht : P.underlying t = some (.array n e)) (he : P.underlying e = some (.int k)) (hs : (P.info? e).map (·.size) = some 1) (cs ds : Array Value) (X Y : Nat → Int)
    (h : ∀ i, i < n → cs[i]? = some (.int k (X i)) ∧ ds[i]? = some (.int k (Y i))) (w : World) :
    (binOp .eql t (.agg cs) (.agg ds)).run P w = .ok (.bool (sameIn X Y 0 n)) w := by
  have hl := run_loop_eq he 9998 cs ds X Y w n 0 (fun i hi => h i (by omega))
  rw [run_eql_struct]
  obtain ⟨i0, hi, hz⟩ := Option.map_eq_some_iff.1 hs
  unfold Op.equalIn
  simp only [Nat.reduceAdd] at hl
  cases hall : sameIn X Y 0 n
  · rw [hall] at hl
    simp [run_underlying ht, sizeOf, typeInfo, hi, hz, hl]
  · rw [hall] at hl
    simp [run_underlying ht, sizeOf, typeInfo, hi, hz, hl]
/-- A fork as a value. -/
abbrev fv (a b c d : Int) : Value := .agg #[.int .i64 a, .int .i64 b, .int .i64 c, .int .i64 d]
/-- A fork that has nothing. -/
def nF (a b c d : Int) : Bool := (a == -1) && ((b == -1) && ((c == -1) && (d == -1)))
theorem size3 : (Try.prog.info? 3).map (·.size) = some 1 := by kernel_rfl
theorem fork_eql (a b c d : Int) (w : World) : (binOp .eql 74 (fv a b c d) (fv (-1) (-1) (-1) (-1))).run Try.prog w = .ok (.bool (nF a b c d)) w := by
  have hx : ∀ i, i < 4 → (#[.int .i64 a, .int .i64 b, .int .i64 c, .int .i64 d] : Array Value)[i]? = some (.int .i64 (gi [a, b, c, d] i)) ∧ (#[.int .i64 (-1), .int .i64 (-1), .int .i64 (-1), .int .i64 (-1)] : Array Value)[i]? = some (.int .i64 ((fun _ => (-1 : Int)) i)) := by
    intro i hi
    match i, hi with
    | 0, _ => exact ⟨rfl, rfl⟩
    | 1, _ => exact ⟨rfl, rfl⟩
    | 2, _ => exact ⟨rfl, rfl⟩
    | 3, _ => exact ⟨rfl, rfl⟩
  rw [run_arr_eql Try.underlying74 Try.underlying3 size3 _ _ _ _ hx w]
  congr 2
  simp [sameIn, List.range', nF, gi]
def bl4 (k : Nat) : Array Value := #[.int .i64 (if 0 < k then -1 else 0), .int .i64 (if 1 < k then -1 else 0), .int .i64 (if 2 < k then -1 else 0), .int .i64 (if 3 < k then -1 else 0)]
theorem bl4_at {k : Nat} (h : k < 4) : (bl4 k)[k]? = some (.int .i64 0) := by
  match k, h with
  | 0, _ => rfl
  | 1, _ => rfl
  | 2, _ => rfl
  | 3, _ => rfl
theorem bl4_set {k : Nat} (h : k < 4) : (bl4 k).setIfInBounds k (.int .i64 (-1)) = bl4 (k + 1) := by
  match k, h with
  | 0, _ => rfl
  | 1, _ => rfl
  | 2, _ => rfl
  | 3, _ => rfl
theorem box4_set {w : World} {b : Nat} {v0 v1 v2 v3 x0 x1 x2 x3 : Value} {e : TypeId} {z : Nat × Nat} (h : w.heap[b]? = some (.cells #[v0, v1, v2, v3] e z)) :
    ((((w.setCell ⟨b, 0, none⟩ x0).setCell ⟨b, 1, none⟩ x1).setCell ⟨b, 2, none⟩ x2).setCell ⟨b, 3, none⟩ x3).heap[b]? = some (.cells #[x0, x1, x2, x3] e z) := by
  rw [block_setz (block_setz (block_setz (block_setz h)))]; rfl
theorem box4_cells {w : World} {b : Nat} {v0 v1 v2 v3 : Value} {e : TypeId} (h : w.heap[b]? = some (.cells #[v0, v1, v2, v3] e (0, 0))) :
    (w.cell? ⟨b, 0, none⟩ = some v0 ∧ w.cell? ⟨b, 1, none⟩ = some v1 ∧ w.cell? ⟨b, 2, none⟩ = some v2 ∧ w.cell? ⟨b, 3, none⟩ = some v3) ∧ w.frozen? ⟨b, 0, none⟩ = false ∧ w.frozen? ⟨b, 1, none⟩ = false ∧ w.frozen? ⟨b, 2, none⟩ = false ∧ w.frozen? ⟨b, 3, none⟩ = false :=
  ⟨⟨cell_of_block h rfl, cell_of_block h rfl, cell_of_block h rfl, cell_of_block h rfl⟩, free_of_block h, free_of_block h, free_of_block h, free_of_block h⟩
set_option maxHeartbeats 1000000 in
theorem blankFork_any (w : World) : Calls Try.prog 51 #[] w fun e w' => e = .returned (fv (-1) (-1) (-1) (-1)) ∧ Below w.heap.size w w' := by
  obtain ⟨s, hs⟩ : ∃ s, w.heap.size = s := ⟨_, rfl⟩
  obtain ⟨W0, hW0⟩ : ∃ W0, (w.alloc (.cells #[.int .i64 0, .int .i64 0, .int .i64 0, .int .i64 0] 74)).alloc (.cells #[.int .i64 0, .int .i64 0, .int .i64 0, .int .i64 0] 74) = W0 := ⟨_, rfl⟩
  have hb0 : Below w.heap.size w W0 := by subst hW0; exact ba2 _ _ _
  obtain ⟨B1, B2⟩ : W0.heap[s]? = some (.cells (bl4 0) 74 (0, 0)) ∧ W0.heap[s + 1]? = some (.cells (bl4 0) 74 (0, 0)) := by subst hW0 hs; exact al2 _ _ _
  have H1 : Hid _ := B1
  have H2 : Hid _ := B2
  clear B1 B2
  go_enter Try.func51, Try.ntmps51
  go_wp2
  have hb0' : Hid (Below w.heap.size w W0) := hb0
  have Hs : Hid (w.heap.size = s) := hs
  go_loopw [3] (fun s3 wr => ∃ k : Nat, k ≤ 4 ∧ s3 = .int .i64 k ∧ Hid (wr.heap[s]? = some (.cells (bl4 0) 74 (0, 0))) ∧ Hid (wr.heap[s + 1]? = some (.cells (bl4 k) 74 (0, 0))) ∧ Below w.heap.size w wr) (fun s3 _ => 4 - (intOf s3).toNat)
  case atStart => exact ⟨0, by omega, rfl, H1, H2, hb0⟩
  case round =>
    obtain ⟨k, hk, rfl, HA, HB, hb⟩ := hrel
    by_cases hlt : k < 4
    · have c0 : wr.cell? ⟨s + 1, k, none⟩ = some (.int .i64 0) := cell_of_block HB.out (bl4_at hlt)
      have f0 := free_of_block (i := k) HB.out
      go_wp2
      go_roundw
      case rel =>
        refine ⟨k + 1, by omega, by go_num, box_out HA.out (out_setCell _ _ _ _) (by omega), ?_, hb.setCell (by have := Hs.out; simp; omega) _⟩
        show _ = _
        rw [block_set HB.out, bl4_set hlt]
      case measure => simp [intOf]; omega
    · have hk4 : k = 4 := by omega
      subst hk4
      obtain ⟨⟨a0, a1, a2, a3⟩, g0, g1, g2, g3⟩ := box4_cells HA.out
      obtain ⟨⟨b0, b1, b2, b3⟩, -⟩ := box4_cells HB.out
      simp at b0 b1 b2 b3
      go_wp2
      obtain ⟨W3, hW3⟩ : ∃ W3, (((wr.setCell ⟨s, 0, none⟩ (.int .i64 (-1))).setCell ⟨s, 1, none⟩ (.int .i64 (-1))).setCell ⟨s, 2, none⟩ (.int .i64 (-1))).setCell ⟨s, 3, none⟩ (.int .i64 (-1)) = W3 := ⟨_, rfl⟩
      have R : W3.heap[s]? = some (.cells #[.int .i64 (-1), .int .i64 (-1), .int .i64 (-1), .int .i64 (-1)] 74 (0, 0)) := by
        subst hW3
        exact box4_set HA.out
      have o3 : Below w.heap.size w W3 := by
        subst hW3
        exact (((hb.setCell (by have := Hs.out; simp; omega) _).setCell (by have := Hs.out; simp; omega) _).setCell (by have := Hs.out; simp; omega) _).setCell (by have := Hs.out; simp; omega) _
      rw [hW3]
      clear hW3
      obtain ⟨⟨t0, t1, t2, t3⟩, -⟩ := box4_cells R
      exact bodyPost_ret (v := fv (-1) (-1) (-1) (-1)) (by simp [results, Try.results51, go_sem, t0, t1, t2, t3]) rfl ⟨rfl, o3⟩
theorem few_any (n m : Nat) (w : World) : Calls Try.prog 35 #[.int .i64 n, .int .i64 m] w fun e w' => e = .returned (.bool (decide (n ≤ 80) && (decide (1 ≤ m) && decide (m ≤ 8)))) ∧ w' = w := by
  by_cases h1 : n ≤ 80
  · have h1' : (n : Int) ≤ 80 := by omega
    by_cases h2 : 1 ≤ m
    · have h2' : (1 : Int) ≤ m := by omega
      go_enter Try.func35, Try.ntmps35
      go_wp2
      go_ret
      refine ⟨?_, rfl⟩
      rw [decide_eq_true h1, decide_eq_true h2]
      by_cases h3 : m ≤ 8
      · rw [decide_eq_true h3]; simp; omega
      · rw [decide_eq_false h3]; simp; omega
    · have h2' : decide ((1 : Int) ≤ m) = false := by simp; omega
      go_enter Try.func35, Try.ntmps35
      go_wp2
      go_ret
      refine ⟨?_, rfl⟩
      rw [decide_eq_true h1, decide_eq_false h2]
      rfl
  · have h1' : decide ((n : Int) ≤ 80) = false := by simp; omega
    go_enter Try.func35, Try.ntmps35
    go_wp2
    go_ret
    refine ⟨?_, rfl⟩
    rw [decide_eq_false h1]
    rfl
theorem leafNothing_any (s : ByteArray) (w : World) : Calls Try.prog 45 #[.string s] w fun e w' => e = .returned (.bool (decide (s.size = 0))) ∧ w' = w := by
  by_cases hC : s.size = 0
  · obtain rfl : s = ⟨#[]⟩ := by
      obtain ⟨⟨d⟩⟩ := s
      simp [ByteArray.size] at hC
      subst hC
      rfl
    go_enter Try.func45, Try.ntmps45
    go_wp2
    go_ret
    exact ⟨rfl, rfl⟩
  · have hne : (s.toList == []) = false ∧ s.toList.isEmpty = false := by
      have : s.toList ≠ [] := by
        intro h
        apply hC
        have hl : s.data.toList.length = 0 := by rw [← ByteArray.toList_eq, h]; rfl
        rw [Array.length_toList] at hl
        exact hl
      exact ⟨by simpa using this, by simpa using this⟩
    obtain ⟨hn1, hn2⟩ := hne
    rw [decide_eq_false hC]
    go_enter Try.func45, Try.ntmps45
    go_wp2
    go_ret
    exact ⟨rfl, rfl⟩
end Go.Proofs.Ytienhdlhlddemaa
