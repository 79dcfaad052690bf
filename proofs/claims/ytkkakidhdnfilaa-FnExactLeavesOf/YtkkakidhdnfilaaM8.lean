import Derived.Test.YtkkakidhdnfilaaM7
/- How many cells two roots share: both sides at any arguments. -/
namespace Go.Proofs.Ytkkakidhdnfilaa
open Go.ChangeShapes Go.WideShapes Go.ChangeAt Go.RowKit
set_option linter.unusedVariables false
open Hd

attribute [local go_sem] Oper.semAt_some

/-- What SharedBy tells. -/
def shB (c : Co) (x y : Int) : Bool := gI c && (inB c.rs.length x && inB c.rs.length y)
def shN (c : Co) (x y : Int) : Int :=
  if shB c x y = true then ((sh (mk c.cs c.lv.toNat (zeb c.cs.length) (gi c.rs x.toNat)) (mk c.cs c.lv.toNat (zeb c.cs.length) (gi c.rs y.toNat)) c.cs.length : Nat) : Int) else 0
theorem shB_parts {c : Co} {x y : Int} (h : shB c x y = true) : gI c = true ∧ inB c.rs.length x = true ∧ inB c.rs.length y = true := by
  unfold shB at h
  simp only [Bool.and_eq_true] at h
  exact h
theorem specShared_any (v : Value) (c : Co) (x y : Int) (w : World) (hc : CowAt w v c) (hf : FewW c) (hs : Sml c) :
    Calls Try.prog 31 #[v, .int .i64 x, .int .i64 y] w fun e w' => e = .returned (.tuple #[.int .i64 (shN c x y), .bool (shB c x y)]) ∧ Below w.heap.size w w' := by
  unfold shN
  cases h : shB c x y with
  | true =>
    obtain ⟨h1, h2, h3⟩ := shB_parts h
    rw [if_pos rfl]
    exact specShared_yes v c x y w hc hf hs h1 h2 h3
  | false =>
    rw [if_neg (by simp)]
    exact specShared_no v c x y w hc hf hs h
set_option maxHeartbeats 1000000 in
theorem implShared_no (v : Value) (c : Co) (x y : Int) (w : World) (hc : CowAt w v c) (hf : FewW c) (hg : shB c x y = false) :
    Calls Try.prog 32 #[v, .int .i64 x, .int .i64 y] w fun e w' => e = .returned (.tuple #[.int .i64 0, .bool false]) ∧ Below w.heap.size w w' := by
  have hall : (gI c && [x, y].all (inB c.rs.length)) = false := by
    unfold shB at hg
    rw [← hg]
    simp
  obtain ⟨a, ca, a', ca', rfl, hca, hca', hI, hR⟩ := hc
  have HcAt : Hid (∀ W, Below w.heap.size w W → CowAt W (kv a c.cs.length ca a' c.rs.length ca' c.lv) c) := fun W h => ⟨a, ca, a', ca', rfl, hca, hca', hI.below h, hR.below h⟩
  obtain ⟨W0, hW0⟩ : ∃ W0, (w.alloc (.cells #[.slice a c.cs.length ca, .slice a' c.rs.length ca', .int .i64 c.lv] 25)).alloc (.cells #[.int .i64 x, .int .i64 y] 3) = W0 := ⟨_, rfl⟩
  have q0 : Below w.heap.size w W0 := by subst hW0; exact ba2 _ _ _
  obtain ⟨B1, B2⟩ : W0.heap[w.heap.size]? = some (.cells #[.slice a c.cs.length ca, .slice a' c.rs.length ca', .int .i64 c.lv] 25 (0, 0)) ∧ W0.heap[w.heap.size + 1]? = some (.cells #[.int .i64 x, .int .i64 y] 3 (0, 0)) := by subst hW0; exact al2 _ _ _
  have hrq : Ints W0 (some ⟨w.heap.size + 1, 0, none⟩) [x, y] := fun _ => ⟨w.heap.size + 1, 0, rfl, fun i hi => by
    have : i = 0 ∨ i = 1 := by simp at hi; omega
    rcases this with rfl | rfl
    · exact cell_of_block B2 rfl
    · exact cell_of_block B2 rfl⟩
  have hO := opened_any _ c [x, y] (some ⟨w.heap.size + 1, 0, none⟩) 2 W0 (HcAt.out W0 q0) hf hrq (by simp)
  unfold OpenR at hO
  rw [hall] at hO
  simp only [List.length_cons, List.length_nil] at hO
  have HO : Hid _ := hO
  obtain ⟨i0, i1, i2⟩ := box3_one B1
  clear hI hR hf hall hO hrq B1 B2 hca hca' hg HcAt
  unfold kv
  go_enter Try.func32, Try.ntmps32
  go_wp2_with fail
  refine Calls.mono HO.out ?_
  rintro e w1 ⟨b1, v1, rfl, -, hz, -⟩
  obtain rfl := hz (by trivial)
  unfold zv
  obtain ⟨W2, hW2⟩ : ∃ W2, w1.alloc (.cells #[.slice none 0 0, .slice none 0 0, .slice none 0 0, .int .i64 0] 64) = W2 := ⟨_, rfl⟩
  have q2 : Below w1.heap.size w1 W2 := by subst hW2; exact below_alloc _ _
  have hB2 : W2.heap[w1.heap.size]? = some (.cells #[.slice none 0 0, .slice none 0 0, .slice none 0 0, .int .i64 0] 64 (0, 0)) := by subst hW2; exact al1 _ _
  obtain ⟨⟨j0, j1, j2, j3⟩, f0, f1, f2, f3⟩ := box4_cells hB2
  obtain ⟨W3, hW3⟩ : ∃ W3, (((W2.setCell ⟨w1.heap.size, 0, none⟩ (.slice none 0 0)).setCell ⟨w1.heap.size, 1, none⟩ (.slice none 0 0)).setCell ⟨w1.heap.size, 2, none⟩ (.slice none 0 0)).setCell ⟨w1.heap.size, 3, none⟩ (.int .i64 0) = W3 := ⟨_, rfl⟩
  have q3 : Below w1.heap.size w1 W3 := by subst hW3; exact q2.trans ((box4_out _ _ _ _ _ _).below (Nat.le_of_lt (box_lt hB2)))
  clear hB2
  go_wp2_with fail
  go_ret2
  exact ⟨rfl, Below.comp (Below.comp q0 b1) q3⟩
theorem implShared_any (v : Value) (c : Co) (x y : Int) (w : World) (hc : CowAt w v c) (hf : FewW c) :
    Calls Try.prog 32 #[v, .int .i64 x, .int .i64 y] w fun e w' => e = .returned (.tuple #[.int .i64 (shN c x y), .bool (shB c x y)]) ∧ Below w.heap.size w w' := by
  unfold shN
  cases h : shB c x y with
  | true =>
    obtain ⟨h1, h2, h3⟩ := shB_parts h
    rw [if_pos rfl]
    exact implShared_yes v c x y w hc hf h1 h2 h3
  | false =>
    rw [if_neg (by simp)]
    exact implShared_no v c x y w hc hf h
end Go.Proofs.Ytkkakidhdnfilaa
