import Derived.Test.YtboladoddnnfcaaDoorD1
import Derived.Test.YtboladoddnnfcaaDoorC2
namespace Go.Proofs.YtboladoddnnfcaaDoor
open Go.ChangeShapes Go.WideShapes Go.ChangeAt Go.RowKit
set_option linter.unusedVariables false
open GF

theorem lf_set {l : List Nat} {k v i : Nat} (hk : k < l.length) : lf (l.set k v) i = if i = k then v else lf l i := by
  unfold lf
  by_cases h : i = k
  · subst h; simp [hk]
  · rw [if_neg h, List.getD_eq_getElem?_getD, List.getD_eq_getElem?_getD, List.getElem?_set_ne (fun e => h e.symm)]
theorem bys_set {n : Nat} {l : List Nat} {c : Array Value} {k v : Nat} (h : bys n (lf l) c) (hn : n = l.length) (hk : k < n) : bys n (lf (l.set k v)) (c.setIfInBounds k (.int .u8 (v : Int))) := by
  have hs := bys_size h
  intro i hi
  rw [lf_set (by omega)]
  by_cases e : i = k
  · rw [if_pos e, e, set_at (by omega)]
  · rw [if_neg e, set_ne e]; exact h i hi
theorem bys_cast {n : Nat} {l l' : List Nat} {c : Array Value} (h : bys n (lf l) c) (e : l = l') : bys n (lf l') c := e ▸ h
theorem lf_zeros (n i : Nat) : lf (List.replicate n 0) i = 0 := by
  unfold lf
  rw [List.getD_eq_getElem?_getD, List.getElem?_replicate]
  split <;> rfl
theorem made_zeros (n : Nat) : bys n (lf (List.replicate n 0)) (made (.int .u8 0) n) := fun i hi => by rw [lf_zeros]; exact made_at hi

set_option maxHeartbeats 800000 in
theorem withZero_any (a : Option Addr) (cap : Nat) (l : List Nat) (x : Nat) (w : World) (hl : bt l) (hx : x < 256) (hn : l.length ≤ 1048575) (hc : At w a l.length (by' (lf l))) (ht : Tab w) :
    Calls Tryd.prog 49 #[.slice a l.length cap, .int .u8 (x : Int)] w fun e w' => RowRes w w' e (l.length + 1) (lf (mulx l x)) := by
  have hw0 : 0 < w.heap.size := World.block_lt_of_cell? w _ ht.1
  have hmk : ∀ w, (Instr.makeSlice 22 (.int .i64 ((l.length : Int) + 1)) (.int .i64 ((l.length : Int) + 1))).run Tryd.prog w = .ok (.slice (some ⟨w.heap.size, 0, none⟩) (l.length + 1) (l.length + 1)) (w.alloc (.cells (made (.int .u8 0) ((l.length + 1) * 1)) 5)) := make_any (P := Tryd.prog) 22 5 _ 1 1 Tryd.underlying22 info5 .i64 .i64 (l.length + 1) (by omega) (by omega)
  have hz0 := mxs_none x l
  have hzA := mxs_all x l
  have hstep := mxs_step x l 0
  have hml := mxs_len x 0
  generalize hN : l.length = n at *
  go_enter Tryd.func49, Tryd.ntmps49
  go_wp2
  go_loopw [14] (fun i wr => ∃ (k : Nat) (c : Array Value), k ≤ n ∧ i = .int .i64 k ∧ wr.heap[w.heap.size]? = some (.cells c 5 (0, 0)) ∧ bys (n + 1) (lf (mxs x 0 k l)) c ∧ Below w.heap.size w wr) (fun i _ => n - (intOf i).toNat)
  case atStart => exact ⟨0, _, Nat.zero_le _, rfl, heap_new w _, by rw [hz0]; simpa using made_zeros (n + 1), below_alloc _ _⟩
  case round =>
    obtain ⟨k, c, hk, rfl, hB, hst, hb⟩ := hrel
    by_cases hlt : k < n
    · obtain ⟨b, off, rfl, hcell⟩ := (hc.below hb) (by omega)
      have hck := hcell k hlt
      unfold by' at hck
      have hk' : (k : Int) < (n : Int) := by omega
      have hk1 : (k : Int) < (n : Int) + 1 := by omega
      have hk2 : (k : Int) + 1 < (n : Int) + 1 := by omega
      have hlk := lf_lt hl k
      have hmk' := lf_lt (bt_mxs (x := x) (k := k) hl) k
      have hgl := gm_lt x hlk
      have hxo := bits_u8_xor hmk' hgl
      have hold := cell_of_block hB (hst k (by omega))
      have hfree := free_of_block (i := k) hB
      have hold1 := cell_of_block hB (hst (k + 1) (by omega))
      have hfree1 := free_of_block (i := k + 1) hB
      have HB : Hid (wr.heap[w.heap.size]? = some (.cells c 5 (0, 0))) := hB
      have TW : Hid (Tab wr.drew) := ht.below hb.drew hw0
      clear hB hcell hc
      generalize hA : lf l k = A at *
      generalize hM : lf (mxs x 0 k l) k = M at *
      go_wp2
      go_region_with (go_at_call 16; refine (fieldMul_any A x _ hlk hx TW.out).mono ?_; rintro e w1 ⟨rfl, rfl⟩)
      all_goals go_wp2
      all_goals
        go_roundw
        case rel =>
          refine ⟨k + 1, _, by omega, by go_num, block_set (block_set HB.out), ?_, (hb.setCell (Nat.le_refl _) _).drew.setCell (Nat.le_refl _) _⟩
          have hL := hml k l (by omega)
          refine bys_cast (bys_set (bys_set hst (by omega) (by omega)) (by simp; omega) (by omega)) ?_
          rw [← hstep k hlt]
          unfold lf at hA hM
          rw [hA, hM]
        case measure => simp [intOf]; omega
    · go_wp2
      go_ret
      obtain rfl : k = n := by omega
      rw [hzA] at hst
      exact ⟨hb, _, _, rfl, .inr ⟨_, c, Nat.le_refl _, (Array.getElem?_eq_some_iff.1 hB).1, rfl, hB, hst⟩⟩
end Go.Proofs.YtboladoddnnfcaaDoor
