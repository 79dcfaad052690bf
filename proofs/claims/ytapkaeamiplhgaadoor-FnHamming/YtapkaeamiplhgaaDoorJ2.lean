import Derived.Test.YtapkaeamiplhgaaDoorJ1
namespace Go.Proofs.YtapkaeamiplhgaaDoor
open Go.ChangeShapes Go.WideShapes Go.ChangeAt Go.RowKit
set_option linter.unusedVariables false
open Ham

set_option maxHeartbeats 800000 in
theorem pick_any (m D : Nat) (a : Option Addr) (n cap T : Nat) (w : World) (h0 : 1 ≤ m) (h1 : m ≤ 60000) (hn : n ≤ 9223372036854775807) (hT : T ≤ 999998) (h : Cur w D a n cap T) :
    Calls Tryd.prog 14 #[.pointer (some ⟨D, 0, none⟩), .int .i64 (m : Int)] w fun e w' => ∃ r : Nat, e = .returned (.int .i64 (r : Int)) ∧ r < m ∧ Out D (D + 1) w w' ∧ Cur w' D a n cap (T + 2) := by
  by_cases hm : m = 1
  · subst hm
    go_enter Tryd.func14, Tryd.ntmps14
    go_wp2
    go_ret
    exact ⟨0, rfl, by omega, Out.refl _ _ _, h.mono (by omega)⟩
  have h2 : ¬ (m : Int) ≤ 1 := by omega
  have h3 : ¬ (m : Int) = 0 := by omega
  by_cases h4 : m ≤ 200
  · have h4' : ¬ (200 : Int) < (m : Int) := by omega
    go_enter Tryd.func14, Tryd.ntmps14
    go_wp2_with fail
    refine (next_any D a n cap T _ hn (by omega) h).mono ?_
    rintro e w1 ⟨r, rfl, hr, o1, c1⟩
    go_wp2
    go_ret
    exact ⟨r % m, rfl, Nat.mod_lt _ (by omega), o1, c1.mono (by omega)⟩
  · have h4' : (200 : Int) < (m : Int) := by omega
    go_enter Tryd.func14, Tryd.ntmps14
    go_wp2_with fail
    refine (next_any D a n cap T _ hn (by omega) h).mono ?_
    rintro e w1 ⟨r, rfl, hr, o1, c1⟩
    go_wp2_with fail
    refine (next_any D a n cap (T + 1) _ hn (by omega) c1).mono ?_
    rintro e w2 ⟨r2, rfl, hr2, o2, c2⟩
    go_wp2
    go_ret
    exact ⟨(r * 256 + r2) % m, rfl, Nat.mod_lt _ (by omega), o1.trans o2, c2⟩
set_option maxHeartbeats 800000 in
theorem one_any (m D : Nat) (a : Option Addr) (n cap T : Nat) (w : World) (h0 : 1 ≤ m) (h1 : m ≤ 60000) (hn : n ≤ 9223372036854775807) (hT : T ≤ 999998) (h : Cur w D a n cap T) :
    Calls Tryd.prog 33 #[.pointer (some ⟨D, 0, none⟩), .int .i64 (m : Int)] w fun e w' => ∃ r : Bool, e = .returned (.bool r) ∧ Out D (D + 1) w w' ∧ Cur w' D a n cap (T + 2) := by
  go_enter Tryd.func33, Tryd.ntmps33
  go_wp2_with fail
  refine (pick_any m D a n cap T _ h0 h1 hn hT h).mono ?_
  rintro e w1 ⟨r, rfl, hr, o1, c1⟩
  go_wp2
  go_ret
  exact ⟨_, rfl, o1, c1⟩
theorem Out.setNew {B C : Nat} {a b : World} {k : Nat} (h : Out B C a b) (h1 : a.heap.size ≤ k) (o : Nat) (v : Value) : Out B C a (b.setCell ⟨k, o, none⟩ v) := by
  refine ⟨h.os, h.tape, h.output, by simpa [World.setCell] using h.size, fun i hi hs => ?_⟩
  have := h.block i hi hs
  simp only [World.setCell, Array.getElem?_modify]
  rw [if_neg (by omega)]
  exact this
theorem Cur.low {w w' : World} {D : Nat} {a : Option Addr} {n cap T : Nat} (h : Cur w D a n cap T) (hb : Below (D + 1) w w') : Cur w' D a n cap T := by
  obtain ⟨S, t, s, h1, h2, h3, h4, h5, h6⟩ := h
  refine ⟨S, t, s, h1, fun hn => ?_, h3, h4, h5, (hb.block D (by omega)).trans h6⟩
  obtain ⟨b, off, e, hlt, hc⟩ := h2 hn
  exact ⟨b, off, e, hlt, fun i hi => (hb.cell (p := ⟨b, off + i, none⟩) (show b < D + 1 by omega)).trans (hc i hi)⟩
theorem Cur.lt {w : World} {D : Nat} {a : Option Addr} {n cap T : Nat} (h : Cur w D a n cap T) : D < w.heap.size := by
  obtain ⟨S, t, s, h1, h2, h3, h4, h5, h6⟩ := h
  exact (Array.getElem?_eq_some_iff.1 h6).1

set_option maxHeartbeats 800000 in
theorem among_any (m D B : Nat) (f : Nat → Int) (a : Option Addr) (n cap T cl : Nat) (w : World) (h0 : 1 ≤ m) (h1 : m ≤ 60000) (hn : n ≤ 9223372036854775807) (hT : T ≤ 999998) (hB : B ≠ D) (hl : ∀ i, i < m → w.cell? ⟨B, i, none⟩ = some (.int .i64 (f i))) (h : Cur w D a n cap T) :
    Calls Tryd.prog 34 #[.pointer (some ⟨D, 0, none⟩), .slice (some ⟨B, 0, none⟩) m cl] w fun e w' => ∃ r : Nat, e = .returned (.int .i64 (f r)) ∧ r < m ∧ Out D (D + 1) w w' ∧ Cur w' D a n cap (T + 2) := by
  have HL : Hid _ := hl
  clear hl
  go_enter Tryd.func34, Tryd.ntmps34
  go_wp2_with fail
  refine (pick_any m D a n cap T _ h0 h1 hn hT h).mono ?_
  rintro e w1 ⟨r, rfl, hr, o1, c1⟩
  have hcr := cell_out o1 (HL.out r hr) (by omega)
  have hr' : (r : Int) < (m : Int) := by omega
  go_wp2
  go_ret
  exact ⟨r, rfl, hr, o1, c1⟩

/-- The cursor's box, made by the drawing function. -/
theorem Cur.new {w : World} {a : Option Addr} {n cap : Nat} {S : Nat → Nat} (hS : ∀ i, S i < 256) (h : At w a n (by' S)) : Cur (w.alloc (.cells #[.slice a n cap, .int .i64 0, .int .u64 0] 34)) w.heap.size a n cap 0 := by
  refine ⟨S, 0, 0, hS, fun hn => ?_, Nat.le_refl _, by omega, by omega, heap_alloc_new w _⟩
  obtain ⟨b, off, e, hc⟩ := h hn
  have hlt : b < w.heap.size := by have := hc 0 (by omega); exact lt_of_cell this
  exact ⟨b, off, e, hlt, fun i hi => (cell_on (hc i hi) (below_alloc _ _))⟩
end Go.Proofs.YtapkaeamiplhgaaDoor
