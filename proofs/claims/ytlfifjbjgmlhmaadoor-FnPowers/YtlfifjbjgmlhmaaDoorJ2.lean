import Derived.Test.YtlfifjbjgmlhmaaDoorJ1
import Derived.Laws.IdiomStrings
namespace Go.Proofs.YtlfifjbjgmlhmaaDoor
open Go.ChangeShapes Go.WideShapes Go.ChangeAt Go.RowKit
set_option linter.unusedVariables false
open GF

set_option maxHeartbeats 800000 in
theorem pick_any (m D : Nat) (a : Option Addr) (n cap T : Nat) (w : World) (h0 : 1 ≤ m) (h1 : m ≤ 60000) (hn : n ≤ 9223372036854775807) (hT : T ≤ 999998) (h : Cur w D a n cap T) :
    Calls Tryd.prog 24 #[.pointer (some ⟨D, 0, none⟩), .int .i64 (m : Int)] w fun e w' => ∃ r : Nat, e = .returned (.int .i64 (r : Int)) ∧ r < m ∧ Out D (D + 1) w w' ∧ Cur w' D a n cap (T + 2) := by
  by_cases hm : m = 1
  · subst hm
    go_enter Tryd.func24, Tryd.ntmps24
    go_wp2
    go_ret
    exact ⟨0, rfl, by omega, Out.refl _ _ _, h.mono (by omega)⟩
  have h2 : ¬ (m : Int) ≤ 1 := by omega
  have h3 : ¬ (m : Int) = 0 := by omega
  by_cases h4 : m ≤ 200
  · have h4' : ¬ (200 : Int) < (m : Int) := by omega
    go_enter Tryd.func24, Tryd.ntmps24
    go_wp2_with fail
    refine (next_any D a n cap T _ hn (by omega) h).mono ?_
    rintro e w1 ⟨r, rfl, hr, o1, c1⟩
    go_wp2
    go_ret
    exact ⟨r % m, rfl, Nat.mod_lt _ (by omega), o1, c1.mono (by omega)⟩
  · have h4' : (200 : Int) < (m : Int) := by omega
    go_enter Tryd.func24, Tryd.ntmps24
    go_wp2_with fail
    refine (next_any D a n cap T _ hn (by omega) h).mono ?_
    rintro e w1 ⟨r, rfl, hr, o1, c1⟩
    go_wp2_with fail
    refine (next_any D a n cap (T + 1) _ hn (by omega) c1).mono ?_
    rintro e w2 ⟨r2, rfl, hr2, o2, c2⟩
    go_wp2
    go_ret
    exact ⟨(r * 256 + r2) % m, rfl, Nat.mod_lt _ (by omega), o1.trans o2, c2⟩
set_option maxHeartbeats 800000 in
theorem one_any (m D : Nat) (a : Option Addr) (n cap T : Nat) (w : World) (h0 : 1 ≤ m) (h1 : m ≤ 60000) (hn : n ≤ 9223372036854775807) (hT : T ≤ 999998) (h : Cur w D a n cap T) :
    Calls Tryd.prog 23 #[.pointer (some ⟨D, 0, none⟩), .int .i64 (m : Int)] w fun e w' => ∃ r : Bool, e = .returned (.bool r) ∧ Out D (D + 1) w w' ∧ Cur w' D a n cap (T + 2) := by
  go_enter Tryd.func23, Tryd.ntmps23
  go_wp2_with fail
  refine (pick_any m D a n cap T _ h0 h1 hn hT h).mono ?_
  rintro e w1 ⟨r, rfl, hr, o1, c1⟩
  go_wp2
  go_ret
  exact ⟨_, rfl, o1, c1⟩
set_option maxHeartbeats 800000 in
theorem among_any (m D B : Nat) (f : Nat → Int) (a : Option Addr) (n cap T cl : Nat) (w : World) (h0 : 1 ≤ m) (h1 : m ≤ 60000) (hn : n ≤ 9223372036854775807) (hT : T ≤ 999998) (hB : B ≠ D) (hl : ∀ i, i < m → w.cell? ⟨B, i, none⟩ = some (.int .i64 (f i))) (h : Cur w D a n cap T) :
    Calls Tryd.prog 20 #[.pointer (some ⟨D, 0, none⟩), .slice (some ⟨B, 0, none⟩) m cl] w fun e w' => ∃ r : Nat, e = .returned (.int .i64 (f r)) ∧ r < m ∧ Out D (D + 1) w w' ∧ Cur w' D a n cap (T + 2) := by
  have HL : Hid _ := hl
  clear hl
  go_enter Tryd.func20, Tryd.ntmps20
  go_wp2_with fail
  refine (pick_any m D a n cap T _ h0 h1 hn hT h).mono ?_
  rintro e w1 ⟨r, rfl, hr, o1, c1⟩
  have hcr := cell_out o1 (HL.out r hr) (by omega)
  have hr' : (r : Int) < (m : Int) := by omega
  go_wp2
  go_ret
  exact ⟨r, rfl, hr, o1, c1⟩

set_option maxHeartbeats 800000 in
theorem byte_any (D : Nat) (a : Option Addr) (n cap T : Nat) (w : World) (hn : n ≤ 9223372036854775807) (hT : T ≤ 999990) (h : Cur w D a n cap T) :
    Calls Tryd.prog 16 #[.pointer (some ⟨D, 0, none⟩)] w fun e w' => ∃ r : Nat, e = .returned (.int .u8 (r : Int)) ∧ r < 256 ∧ Out D (D + 1) w w' ∧ Cur w' D a n cap (T + 4) := by
  go_enter Tryd.func16, Tryd.ntmps16
  go_wp2_with fail
  refine (one_any 5 D a n cap T _ (by omega) (by omega) hn (by omega) h).mono ?_
  rintro e w1 ⟨r, rfl, o1, c1⟩
  cases r
  · go_wp2_with fail
    refine (pick_any 256 D a n cap (T + 2) _ (by omega) (by omega) hn (by omega) c1).mono ?_
    rintro e w2 ⟨r2, rfl, hr2, o2, c2⟩
    have hm : (r2 : Int) % 256 = (r2 : Int) := by omega
    go_wp2
    go_ret
    exact ⟨r2, rfl, hr2, o1.trans o2, c2⟩
  · have hD : D < w1.heap.size := by obtain ⟨S, t, s, h1, h2, h3, h4, h5, h6⟩ := c1; exact (Array.getElem?_eq_some_iff.1 h6).1
    go_wp2_with fail
    refine (among_any 5 D w1.heap.size (fun i => ([0, 1, 2, 255, 29] : List Int).getD i 0) a n cap (T + 2) 5 _ (by omega) (by omega) hn (by omega) (by omega) ?_ (c1.below (below_alloc _ _))).mono ?_
    · intro i hi
      refine cell_of_block (heap_new w1 _) ?_
      rcases (by omega : i = 0 ∨ i = 1 ∨ i = 2 ∨ i = 3 ∨ i = 4) with rfl | rfl | rfl | rfl | rfl <;> rfl
    rintro e w2 ⟨r2, rfl, hr2, o2, c2⟩
    have hb : ∃ q : Nat, ([0, 1, 2, 255, 29] : List Int).getD r2 0 = (q : Int) ∧ q < 256 := by
      rcases (by omega : r2 = 0 ∨ r2 = 1 ∨ r2 = 2 ∨ r2 = 3 ∨ r2 = 4) with rfl | rfl | rfl | rfl | rfl
      · exact ⟨0, rfl, by omega⟩
      · exact ⟨1, rfl, by omega⟩
      · exact ⟨2, rfl, by omega⟩
      · exact ⟨255, rfl, by omega⟩
      · exact ⟨29, rfl, by omega⟩
    obtain ⟨q, hq, hq2⟩ := hb
    have oo : Out D (D + 1) w w2 := (o1.trans (Out.of_below (below_alloc _ _))).trans o2
    have hm : (q : Int) % 256 = (q : Int) := by omega
    simp only [hq]
    go_wp2
    go_ret
    exact ⟨q, rfl, hq2, oo, c2⟩
end Go.Proofs.YtlfifjbjgmlhmaaDoor
