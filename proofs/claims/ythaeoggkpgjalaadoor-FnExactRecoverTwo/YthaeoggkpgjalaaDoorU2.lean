import Derived.Test.YthaeoggkpgjalaaDoorU1
import Derived.Test.YthaeoggkpgjalaaDoorT2
namespace Go.Proofs.YthaeoggkpgjalaaDoor
open Go.ChangeShapes Go.WideShapes Go.ChangeAt Go.RowKit
set_option linter.unusedVariables false

theorem cell_on {w w' : World} {b o : Nat} {v : Value} (h : w.cell? ⟨b, o, none⟩ = some v) (hb : Below w.heap.size w w') : w'.cell? ⟨b, o, none⟩ = some v := (hb.cell (p := ⟨b, o, none⟩) (lt_of_cell h)).trans h
theorem new3 (w : World) (v0 v1 v2 : Value) (t : TypeId) : (w.alloc (.cells #[v0, v1, v2] t)).cell? ⟨w.heap.size, 0, none⟩ = some v0 ∧ (w.alloc (.cells #[v0, v1, v2] t)).cell? ⟨w.heap.size, 1, none⟩ = some v1 ∧ (w.alloc (.cells #[v0, v1, v2] t)).cell? ⟨w.heap.size, 2, none⟩ = some v2 := by simp [go_sem]

/-- A stripe as a value. -/
abbrev sv (a : Option Addr) (n cap : Nat) (P Q : ByteArray) : Value := .agg #[.slice a n cap, .string P, .string Q]

set_option maxHeartbeats 400000 in
theorem szStripe_any (a : Option Addr) (n cap : Nat) (D : Nat → ByteArray) (P Q : ByteArray) (left : Int) (w : World) (h0 : 0 ≤ left) (h1 : left ≤ 1048576)
    (hn : n ≤ 9223372036854775807) (hP : P.size ≤ 9223372036854775807) (hQ : Q.size ≤ 9223372036854775807) (hc : At w a n fun i => .string (D i)) (hs : ∀ i, i < n → (D i).size ≤ 9223372036854775807) :
    Calls Tryd.prog 18 #[sv a n cap P Q, .int .i64 left] w fun e w' => Below w.heap.size w w' ∧ ∃ r : Int, e = .returned (.int .i64 r) ∧ (0 ≤ r → (n : Int) ≤ left) := by
  unfold sv
  obtain ⟨c0, c1, c2⟩ := new3 w (.slice a n cap) (.string P) (.string Q) 33
  go_enter Tryd.func18, Tryd.ntmps18
  go_wp2_with fail
  refine (szStringS_any a n cap D left _ h0 h1 hn (hc.below (below_alloc _ _)) hs).mono ?_
  rintro e w1 ⟨rfl, r, rfl, hr1, hr2, hr3⟩
  by_cases hr : r < 0
  · go_wp2
    go_ret
    exact ⟨below_alloc _ _, -1, rfl, by omega⟩
  · by_cases hp : r - P.size < 0
    · go_wp2
      go_ret
      exact ⟨below_alloc _ _, -1, rfl, by omega⟩
    · have hp' : 0 ≤ r - P.size := by omega
      by_cases hq : r - P.size - Q.size < 0
      · go_wp2
        go_ret
        exact ⟨below_alloc _ _, -1, rfl, by omega⟩
      · have hq' : 0 ≤ r - P.size - Q.size := by omega
        go_wp2
        go_ret
        exact ⟨below_alloc _ _, _, rfl, fun _ => by omega⟩

set_option maxHeartbeats 400000 in
theorem toStripe_any (a : Option Addr) (n ca : Nat) (D : Nat → ByteArray) (P Q : ByteArray) (w : World) (hn : n ≤ 1048576) (ha : At w a n fun i => .string (D i)) :
    Calls Tryd.prog 20 #[sv a n ca P Q] w fun e w' => Below w.heap.size w w' ∧ ∃ x cx, e = .returned (sv x n cx P Q) ∧ Mine w' w.heap.size w'.heap.size 9 n x (strs n D) := by
  unfold sv
  have h0 : ∀ o1 o2 o3, Below w.heap.size w (((w.alloc o1).alloc o2).alloc o3) := fun o1 o2 o3 => ((below_alloc _ _).alloc (by simp) _).alloc (by simp; omega) _
  go_enter Tryd.func20, Tryd.ntmps20
  go_wp2_with fail
  refine (toStringS_any a n ca D _ hn (ha.below (h0 _ _ _))).mono ?_
  rintro e w1 ⟨b1, x, cx, rfl, m1⟩
  have g1 := Below.comp (h0 _ _ _) b1
  obtain ⟨c1, f1⟩ := bcell b1
  obtain ⟨z1, z1', z1''⟩ : w.heap.size < w1.heap.size ∧ w.heap.size + 1 < w1.heap.size ∧ w.heap.size + 1 + 1 < w1.heap.size := by have := b1.size; simp at this; omega
  clear b1 h0 ha
  go_wp2
  refine bodyPost_ret (v := .agg #[.slice x n cx, .string P, .string Q]) (by simp [results, Tryd.results20, go_sem, c1]) rfl ⟨?_, x, cx, rfl, ?_⟩
  · refine (((((g1.setCell ?_ _).setCell ?_ _).setCell ?_ _).setCell ?_ _).setCell ?_ _).setCell ?_ _ <;> simp <;> omega
  · refine (m1.out ((((((Out.refl (w.heap.size + 1) (w.heap.size + 3) w1).setCell ?_ ?_ _ _).setCell ?_ ?_ _ _ |>.setCell ?_ ?_ _ _) |>.setCell ?_ ?_ _ _) |>.setCell ?_ ?_ _ _) |>.setCell ?_ ?_ _ _) (.inr ?_)).mono ?_ ?_ <;> simp <;> omega

set_option maxHeartbeats 400000 in
theorem eqStripe_any (a b : Option Addr) (n ca cb : Nat) (D : Nat → ByteArray) (P Q : ByteArray) (w : World) (hn : n ≤ 9223372036854775807)
    (ha : At w a n fun i => .string (D i)) (hb : At w b n fun i => .string (D i)) :
    Calls Tryd.prog 13 #[sv a n ca P Q, sv b n cb P Q] w fun e w' => e = .returned (.bool true) ∧ Below w.heap.size w w' := by
  unfold sv
  have h0 : ∀ o1 o2, Below w.heap.size w ((w.alloc o1).alloc o2) := fun o1 o2 => (below_alloc _ _).alloc (by simp) _
  go_enter Tryd.func13, Tryd.ntmps13
  go_wp2_with fail
  refine (eqStringS_any a b n ca cb D _ hn (ha.below (h0 _ _)) (hb.below (h0 _ _))).mono ?_
  rintro e w1 ⟨rfl, b1⟩
  obtain ⟨c1, f1⟩ := bcell b1
  have g1 := Below.comp (h0 _ _) b1
  go_wp2
  go_ret
  exact ⟨rfl, g1⟩

set_option maxHeartbeats 800000 in
theorem markStripe_any (B C : Nat) (x : Option Addr) (N cx : Nat) (D : Nat → ByteArray) (P Q : ByteArray) (k : Nat) (w : World) (hk : 1 ≤ k) (hkn : k + N ≤ 100000000) (hC : C ≤ w.heap.size) (hm : Mine w B C 9 N x (strs N D)) :
    Calls Tryd.prog 16 #[sv x N cx P Q, .int .i64 k] w fun e w' => e = .returned (.int .i64 ((k + N : Nat) : Int)) ∧ Out B C w w' ∧ Mine w' B C 9 N x (strs N (mk k)) := by
  unfold sv
  go_enter Tryd.func16, Tryd.ntmps16
  go_wp2_with fail
  refine (markStringS_any B C x N cx D k _ hk (by omega) (hm.below (below_alloc _ _))).mono ?_
  rintro e w1 ⟨rfl, o1, mx1⟩
  go_wp2
  go_ret
  exact ⟨rfl, (Out.of_below (below_alloc _ _)).trans o1, mx1⟩

set_option maxHeartbeats 800000 in
theorem heldStripe_any (x : Option Addr) (N cx : Nat) (P Q : ByteArray) (k : Nat) (w : World) (hk : 1 ≤ k) (hkn : k + N ≤ 100000000) (hx : At w x N fun i => .string (mk k i)) :
    Calls Tryd.prog 17 #[sv x N cx P Q, .int .i64 k] w fun e w' => e = .returned (.int .i64 ((k + N : Nat) : Int)) ∧ Below w.heap.size w w' := by
  unfold sv
  go_enter Tryd.func17, Tryd.ntmps17
  go_wp2_with fail
  refine (heldStringS_any x N cx k _ hk (by omega) (hx.below (below_alloc _ _))).mono ?_
  rintro e w1 ⟨rfl, b1⟩
  have hp : ¬ (((k + N : Nat) : Int) < 0) := by omega
  go_wp2
  go_ret
  exact ⟨rfl, Below.comp (below_alloc _ _) b1⟩
end Go.Proofs.YthaeoggkpgjalaaDoor
