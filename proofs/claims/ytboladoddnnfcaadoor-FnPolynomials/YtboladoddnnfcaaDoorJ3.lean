import Derived.Test.YtboladoddnnfcaaDoorJ2
namespace Go.Proofs.YtboladoddnnfcaaDoor
open Go.ChangeShapes Go.WideShapes Go.ChangeAt Go.RowKit
set_option linter.unusedVariables false
open GF

theorem Out.setNew {B C : Nat} {a b : World} {k : Nat} (h : Out B C a b) (h1 : a.heap.size ≤ k) (o : Nat) (v : Value) : Out B C a (b.setCell ⟨k, o, none⟩ v) := by
  refine ⟨h.os, h.tape, h.output, by simpa [World.setCell] using h.size, fun i hi hs => ?_⟩
  have := h.block i hi hs
  simp only [World.setCell, Array.getElem?_modify]
  rw [if_neg (by omega)]
  exact this
theorem Cur.low {w w' : World} {D : Nat} {a : Option Addr} {n cap T : Nat} (h : Cur w D a n cap T) (hb : Below (D + 1) w w') : Cur w' D a n cap T := by
  obtain ⟨S, t, s, h1, h2, h3, h4, h5, h6⟩ := h
  refine ⟨S, t, s, h1, fun hn => ?_, h3, h4, h5, (hb.block D (by omega)).trans h6⟩
  obtain ⟨b, off, e, hlt, hc⟩ := h2 hn
  exact ⟨b, off, e, hlt, fun i hi => (hb.cell (p := ⟨b, off + i, none⟩) (show b < D + 1 by omega)).trans (hc i hi)⟩
theorem Cur.lt {w : World} {D : Nat} {a : Option Addr} {n cap T : Nat} (h : Cur w D a n cap T) : D < w.heap.size := by
  obtain ⟨S, t, s, h1, h2, h3, h4, h5, h6⟩ := h
  exact (Array.getElem?_eq_some_iff.1 h6).1
theorem set_len {l : List Nat} {k v : Nat} : (l.set k v).length = l.length := by simp

set_option maxHeartbeats 800000 in
theorem text_any (k D : Nat) (a : Option Addr) (n cap T : Nat) (w : World) (hk : k ≤ 100) (hn : n ≤ 9223372036854775807) (hT : T ≤ 900000) (h : Cur w D a n cap T) :
    Calls Tryd.prog 47 #[.pointer (some ⟨D, 0, none⟩), .int .i64 (k : Int)] w fun e w' => ∃ l : List Nat, e = .returned (.string (str l)) ∧ l.length = k ∧ bt l ∧ Out D (D + 1) w w' ∧ Cur w' D a n cap (T + 2 * k) := by
  have hmk := make_any (P := Tryd.prog) 22 5 _ 1 1 Tryd.underlying22 info5 .i64 .i64 k (by omega) (by omega)
  have hD := h.lt
  have HCUR : Hid (Cur w D a n cap T) := h
  clear h
  go_enter Tryd.func47, Tryd.ntmps47
  go_wp2
  go_loopw [11] (fun i wr => ∃ (q : Nat) (l : List Nat) (c : Array Value), q ≤ k ∧ i = .int .i64 q ∧ l.length = k ∧ bt l ∧ wr.heap[w.heap.size]? = some (.cells c 5 (0, 0)) ∧ bys k (lf l) c ∧ Out D (D + 1) w wr ∧ Cur wr D a n cap (T + 2 * q)) (fun i _ => k - (intOf i).toNat)
  case atStart => exact ⟨0, List.replicate k 0, _, Nat.zero_le _, rfl, by simp, bt_zeros k, heap_new w _, by simpa using made_zeros k, Out.of_below (below_alloc _ _), Cur.below HCUR.out (below_alloc _ _)⟩
  case round =>
    obtain ⟨q, l, c, hq, rfl, hll, hbl, hB, hs, ho, hcu⟩ := hrel
    by_cases hlt : q < k
    · have hlt' : (q : Int) < (k : Int) := by omega
      have HB : Hid _ := hB
      have hlw : w.heap.size < wr.heap.size := (Array.getElem?_eq_some_iff.1 hB).1
      clear hB HCUR
      go_wp2_with fail
      refine (pick_any 256 D a n cap (T + 2 * q) _ (by omega) (by omega) hn (by omega) hcu).mono ?_
      rintro e w1 ⟨r, rfl, hr, o1, c1⟩
      have hm : (r : Int) % 256 = (r : Int) := by omega
      have hB1 : w1.heap[w.heap.size]? = some (.cells c 5 (0, 0)) := (o1.block _ hlw (by omega)).trans HB.out
      have hold := cell_of_block hB1 (hs q hlt)
      have hfree := free_of_block (i := q) hB1
      have HB1 : Hid _ := hB1
      clear hB1
      go_wp2
      go_roundw
      case rel => exact ⟨q + 1, l.set q r, _, by omega, by go_num, by simpa using hll, bt_set hbl q hr, block_set HB1.out, bys_set hs hll.symm hlt, (ho.trans o1).setNew (Nat.le_refl _) _ _, (c1.low ((Below.refl _ _).setCell (show D + 1 ≤ w.heap.size by omega) _)).mono (by omega)⟩
      case measure => simp [intOf]; omega
    · obtain rfl : k = q := by omega
      have hcv := conv_any k hbl (at_block hB (by rw [hll]; exact hs))
      rw [hll] at hcv
      clear hB HCUR
      go_wp2
      go_ret
      exact ⟨l, rfl, hll, hbl, ho, hcu⟩
end Go.Proofs.YtboladoddnnfcaaDoor
