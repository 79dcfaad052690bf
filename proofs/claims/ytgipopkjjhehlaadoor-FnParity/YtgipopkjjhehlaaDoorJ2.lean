import Derived.Test.YtgipopkjjhehlaaDoorJ1
namespace Go.Proofs.YtgipopkjjhehlaaDoor
open Go.ChangeShapes Go.WideShapes Go.ChangeAt Go.RowKit
set_option linter.unusedVariables false
open GF

set_option maxHeartbeats 800000 in
theorem pick_any (m D : Nat) (a : Option Addr) (n cap T : Nat) (w : World) (h0 : 1 ≤ m) (h1 : m ≤ 60000) (hn : n ≤ 9223372036854775807) (hT : T ≤ 999998) (h : Cur w D a n cap T) :
    Calls Tryd.prog 36 #[.pointer (some ⟨D, 0, none⟩), .int .i64 (m : Int)] w fun e w' => ∃ r : Nat, e = .returned (.int .i64 (r : Int)) ∧ r < m ∧ Out D (D + 1) w w' ∧ Cur w' D a n cap (T + 2) := by
  by_cases hm : m = 1
  · subst hm
    go_enter Tryd.func36, Tryd.ntmps36
    go_wp2
    go_ret
    exact ⟨0, rfl, by omega, Out.refl _ _ _, h.mono (by omega)⟩
  have h2 : ¬ (m : Int) ≤ 1 := by omega
  have h3 : ¬ (m : Int) = 0 := by omega
  by_cases h4 : m ≤ 200
  · have h4' : ¬ (200 : Int) < (m : Int) := by omega
    go_enter Tryd.func36, Tryd.ntmps36
    go_wp2_with fail
    refine (next_any D a n cap T _ hn (by omega) h).mono ?_
    rintro e w1 ⟨r, rfl, hr, o1, c1⟩
    go_wp2
    go_ret
    exact ⟨r % m, rfl, Nat.mod_lt _ (by omega), o1, c1.mono (by omega)⟩
  · have h4' : (200 : Int) < (m : Int) := by omega
    go_enter Tryd.func36, Tryd.ntmps36
    go_wp2_with fail
    refine (next_any D a n cap T _ hn (by omega) h).mono ?_
    rintro e w1 ⟨r, rfl, hr, o1, c1⟩
    go_wp2_with fail
    refine (next_any D a n cap (T + 1) _ hn (by omega) c1).mono ?_
    rintro e w2 ⟨r2, rfl, hr2, o2, c2⟩
    go_wp2
    go_ret
    exact ⟨(r * 256 + r2) % m, rfl, Nat.mod_lt _ (by omega), o1.trans o2, c2⟩
set_option maxHeartbeats 800000 in
theorem one_any (m D : Nat) (a : Option Addr) (n cap T : Nat) (w : World) (h0 : 1 ≤ m) (h1 : m ≤ 60000) (hn : n ≤ 9223372036854775807) (hT : T ≤ 999998) (h : Cur w D a n cap T) :
    Calls Tryd.prog 49 #[.pointer (some ⟨D, 0, none⟩), .int .i64 (m : Int)] w fun e w' => ∃ r : Bool, e = .returned (.bool r) ∧ Out D (D + 1) w w' ∧ Cur w' D a n cap (T + 2) := by
  go_enter Tryd.func49, Tryd.ntmps49
  go_wp2_with fail
  refine (pick_any m D a n cap T _ h0 h1 hn hT h).mono ?_
  rintro e w1 ⟨r, rfl, hr, o1, c1⟩
  go_wp2
  go_ret
  exact ⟨_, rfl, o1, c1⟩
theorem Out.setNew {B C : Nat} {a b : World} {k : Nat} (h : Out B C a b) (h1 : a.heap.size ≤ k) (o : Nat) (v : Value) : Out B C a (b.setCell ⟨k, o, none⟩ v) := by
  refine ⟨h.os, h.tape, h.output, by simpa [World.setCell] using h.size, fun i hi hs => ?_⟩
  have := h.block i hi hs
  simp only [World.setCell, Array.getElem?_modify]
  rw [if_neg (by omega)]
  exact this
theorem Cur.low {w w' : World} {D : Nat} {a : Option Addr} {n cap T : Nat} (h : Cur w D a n cap T) (hb : Below (D + 1) w w') : Cur w' D a n cap T := by
  obtain ⟨S, t, s, h1, h2, h3, h4, h5, h6⟩ := h
  refine ⟨S, t, s, h1, fun hn => ?_, h3, h4, h5, (hb.block D (by omega)).trans h6⟩
  obtain ⟨b, off, e, hlt, hc⟩ := h2 hn
  exact ⟨b, off, e, hlt, fun i hi => (hb.cell (p := ⟨b, off + i, none⟩) (show b < D + 1 by omega)).trans (hc i hi)⟩
theorem Cur.lt {w : World} {D : Nat} {a : Option Addr} {n cap T : Nat} (h : Cur w D a n cap T) : D < w.heap.size := by
  obtain ⟨S, t, s, h1, h2, h3, h4, h5, h6⟩ := h
  exact (Array.getElem?_eq_some_iff.1 h6).1

/-- Bytes f but r at q. -/
def upf (f : Nat → Nat) (q r : Nat) : Nat → Nat := fun j => if j = q then r else f j
theorem bys_upf {n q r : Nat} {f : Nat → Nat} {c : Array Value} (h : bys n f c) (hq : q < n) : bys n (upf f q r) (c.setIfInBounds q (.int .u8 (r : Int))) := by
  intro i hi
  have hc := (Array.getElem?_eq_some_iff.1 (h q hq)).1
  by_cases e : i = q
  · subst e; rw [set_at hc]; simp [upf]
  · rw [set_ne e, h i hi]; simp [upf, e]
theorem upf_lt {f : Nat → Nat} {q r : Nat} (h : ∀ i, f i < 256) (hr : r < 256) : ∀ i, upf f q r i < 256 := by
  intro i; unfold upf; split
  · exact hr
  · exact h i
set_option maxHeartbeats 800000 in
theorem text_any (k D : Nat) (a : Option Addr) (n cap T : Nat) (w : World) (hk : k ≤ 100) (hn : n ≤ 9223372036854775807) (hT : T ≤ 900000) (h : Cur w D a n cap T) :
    Calls Tryd.prog 40 #[.pointer (some ⟨D, 0, none⟩), .int .i64 (k : Int)] w fun e w' => ∃ u : ByteArray, e = .returned (.string u) ∧ u.size = k ∧ Out D (D + 1) w w' ∧ Cur w' D a n cap (T + 2 * k) := by
  have hmk := make_any (P := Tryd.prog) 22 5 _ 1 1 Tryd.underlying22 info5 .i64 .i64 k (by omega) (by omega)
  have hD := h.lt
  have HCUR : Hid (Cur w D a n cap T) := h
  clear h
  go_enter Tryd.func40, Tryd.ntmps40
  go_wp2
  go_loopw [11] (fun i wr => ∃ (q : Nat) (f : Nat → Nat) (c : Array Value), q ≤ k ∧ i = .int .i64 q ∧ Hid (∀ i, f i < 256) ∧ wr.heap[w.heap.size]? = some (.cells c 5 (0, 0)) ∧ bys k f c ∧ Out D (D + 1) w wr ∧ Cur wr D a n cap (T + 2 * q)) (fun i _ => k - (intOf i).toNat)
  case atStart => exact ⟨0, fun _ => 0, _, Nat.zero_le _, rfl, fun _ => (by decide : 0 < 256), heap_alloc_new w _, bys_made k, Out.of_below (below_alloc _ _), Cur.below HCUR.out (below_alloc _ _)⟩
  case round =>
    obtain ⟨q, f, c, hq, rfl, hbl, hB, hs, ho, hcu⟩ := hrel
    by_cases hlt : q < k
    · have hlt' : (q : Int) < (k : Int) := by omega
      have HB : Hid _ := hB
      have hlw : w.heap.size < wr.heap.size := (Array.getElem?_eq_some_iff.1 hB).1
      clear hB HCUR
      go_wp2_with fail
      refine (pick_any 256 D a n cap (T + 2 * q) _ (by omega) (by omega) hn (by omega) hcu).mono ?_
      rintro e w1 ⟨r, rfl, hr, o1, c1⟩
      have hm : (r : Int) % 256 = (r : Int) := by omega
      have hB1 : w1.heap[w.heap.size]? = some (.cells c 5 (0, 0)) := (o1.block _ hlw (by omega)).trans HB.out
      have hold := cell_of_block hB1 (hs q hlt)
      have hfree := free_of_block (i := q) hB1
      have HB1 : Hid _ := hB1
      clear hB1
      go_wp2
      go_roundw
      case rel => exact ⟨q + 1, upf f q r, _, by omega, by go_num, upf_lt hbl.out hr, block_set HB1.out, bys_upf hs hlt, (ho.trans o1).setNew (Nat.le_refl _) _ _, (c1.low ((Below.refl _ _).setCell (show D + 1 ≤ w.heap.size by omega) _)).mono (by omega)⟩
      case measure => simp [intOf]; omega
    · obtain rfl : k = q := by omega
      have hat : At wr (some ⟨w.heap.size, 0, none⟩) k (by' f) := fun _ => ⟨_, 0, rfl, fun i hi => by rw [Nat.zero_add]; exact cell_of_block hB (hs i hi)⟩
      have hcv := conv_any k hbl.out hat
      clear hB HCUR hat
      go_wp2
      go_ret
      exact ⟨_, rfl, tx_size _ _, ho, hcu⟩
set_option maxHeartbeats 800000 in
theorem among_any (m D B : Nat) (f : Nat → Int) (a : Option Addr) (n cap T cl : Nat) (w : World) (h0 : 1 ≤ m) (h1 : m ≤ 60000) (hn : n ≤ 9223372036854775807) (hT : T ≤ 999998) (hB : B ≠ D) (hl : ∀ i, i < m → w.cell? ⟨B, i, none⟩ = some (.int .i64 (f i))) (h : Cur w D a n cap T) :
    Calls Tryd.prog 50 #[.pointer (some ⟨D, 0, none⟩), .slice (some ⟨B, 0, none⟩) m cl] w fun e w' => ∃ r : Nat, e = .returned (.int .i64 (f r)) ∧ r < m ∧ Out D (D + 1) w w' ∧ Cur w' D a n cap (T + 2) := by
  have HL : Hid _ := hl
  clear hl
  go_enter Tryd.func50, Tryd.ntmps50
  go_wp2_with fail
  refine (pick_any m D a n cap T _ h0 h1 hn hT h).mono ?_
  rintro e w1 ⟨r, rfl, hr, o1, c1⟩
  have hcr := cell_out o1 (HL.out r hr) (by omega)
  have hr' : (r : Int) < (m : Int) := by omega
  go_wp2
  go_ret
  exact ⟨r, rfl, hr, o1, c1⟩

/-- The cursor's box, made by the drawing function. -/
theorem Cur.new {w : World} {a : Option Addr} {n cap : Nat} {S : Nat → Nat} (hS : ∀ i, S i < 256) (h : At w a n (by' S)) : Cur (w.alloc (.cells #[.slice a n cap, .int .i64 0, .int .u64 0] 49)) w.heap.size a n cap 0 := by
  refine ⟨S, 0, 0, hS, fun hn => ?_, Nat.le_refl _, by omega, by omega, heap_alloc_new w _⟩
  obtain ⟨b, off, e, hc⟩ := h hn
  have hlt : b < w.heap.size := by have := hc 0 (by omega); exact lt_of_cell this
  exact ⟨b, off, e, hlt, fun i hi => (cell_on (hc i hi) (below_alloc _ _))⟩
end Go.Proofs.YtgipopkjjhehlaaDoor
