import Derived.Test.YtmijalmihfgolaaDoorV2
/- slices.Index, slices.Contains over a row of writes; a row of writes copied. -/
namespace Go.Proofs.YtmijalmihfgolaaDoor
open Go.ChangeShapes Go.WideShapes Go.ChangeAt Go.RowKit
set_option linter.unusedVariables false
open Tx

attribute [local go_sem] Oper.semAt_some

theorem eqW_comm (a b : Wr) : eqW a b = eqW b a := by
  cases h : eqW a b with
  | true => rw [eqW_iff.1 h]; exact (eqW_iff.2 rfl).symm
  | false =>
    cases h2 : eqW b a with
    | false => rfl
    | true => rw [eqW_iff.1 h2, eqW_iff.2 rfl] at h; cases h
theorem memW_at {x : Wr} {l : List Wr} {k : Nat} (hk : k < l.length) (h : eqW x (gw l k) = true) : memW x l = true := by
  rw [memW_iff, eqW_iff.1 h, gw_lt hk]
  exact List.getElem_mem _
theorem memW_none {x : Wr} {l : List Wr} (h : ∀ i, i < l.length → eqW x (gw l i) = false) : memW x l = false := by
  cases q : memW x l with
  | false => rfl
  | true =>
    obtain ⟨i, hi, e⟩ := List.mem_iff_getElem.1 (memW_iff.1 q)
    have := h i hi
    rw [gw_lt hi, e, eqW_iff.2 rfl] at this
    cases this

set_option maxRecDepth 20000 in
set_option maxHeartbeats 2000000 in
theorem Index_any (a : Option Addr) (c : Nat) (ws : List Wr) (t : Int) (u : ByteArray) (w : World) (hl : ws.length ≤ 1048576) (ha : RowW w a ws) :
    Calls Tryd.prog 105 #[.slice a ws.length c, .agg #[.int .i64 t, .string u]] w fun e w' => Below w.heap.size w w' ∧ ∃ r : Int, e = .returned (.int .i64 r) ∧ decide (0 ≤ r) = memW ⟨t, u⟩ ws := by
  have HA : Hid _ := ha
  go_enter Tryd.func105, Tryd.ntmps105
  go_wp2
  go_loopw [8] (fun i wr => ∃ (k : Nat), k ≤ ws.length ∧ i = .int .i64 k ∧ Hid (∀ i, i < k → eqW ⟨t, u⟩ (gw ws i) = false) ∧ Hid (Below w.heap.size w wr) ∧ Hid (wr.heap[w.heap.size]? = some (.cells #[.int .i64 t, .string u] 63 (0, 0)))) (fun i _ => ws.length - (intOf i).toNat)
  case atStart => exact ⟨0, Nat.zero_le _, rfl, fun i hi => absurd hi (by omega), below_alloc _ _, al1 _ _⟩
  case round =>
    obtain ⟨k, hk, rfl, hall, hb, hbx⟩ := hrel
    by_cases hlt : k < ws.length
    · obtain ⟨b, off, rfl, hcell⟩ := (At2.below HA.out hb.out) (by omega)
      obtain ⟨hck, hck2⟩ := hcell k hlt
      have hlt' : (k : Int) < (ws.length : Int) := by omega
      obtain ⟨y1, y2, _⟩ := box2_cells hbx.out
      have hq := eqlW ⟨t, u⟩ ⟨Tl ws k, Ul ws k⟩
      have hgq := guardW
      have HE : Hid (gw ws k = ⟨Tl ws k, Ul ws k⟩) := rfl
      generalize Tl ws k = t2 at *
      generalize Ul ws k = u2 at *
      clear hcell ha
      cases hEQ : eqW ⟨t, u⟩ ⟨t2, u2⟩ with
      | true =>
        rw [hEQ] at hq
        have hm : Hid (memW ⟨t, u⟩ ws = true) := memW_at hlt (by rw [HE.out]; exact hEQ)
        clear hEQ
        go_wp2
        go_quiet (fail)
        go_wp2
        go_ret
        exact ⟨below_drewN hb.out _, _, rfl, by rw [hm.out]; exact decide_eq_true (by omega)⟩
      | false =>
        rw [hEQ] at hq
        have hn : Hid (eqW ⟨t, u⟩ (gw ws k) = false) := by rw [HE.out]; exact hEQ
        clear hEQ
        go_wp2
        go_quiet (fail)
        go_wp2
        go_roundw
        case rel => exact ⟨k + 1, by omega, by go_num, fun i hi => by by_cases e : i = k; (· subst e; exact hn.out); (· exact hall.out i (by omega)), below_drewN hb.out _, hbx.out⟩
        case measure => simp [intOf]; omega
    · obtain rfl : k = ws.length := by omega
      have hm : Hid (memW ⟨t, u⟩ ws = false) := memW_none hall.out
      go_wp2
      go_ret
      exact ⟨hb.out, _, rfl, by rw [hm.out]; rfl⟩

set_option maxHeartbeats 800000 in
theorem Contains_any (a : Option Addr) (c : Nat) (ws : List Wr) (t : Int) (u : ByteArray) (w : World) (hl : ws.length ≤ 1048576) (ha : RowW w a ws) :
    Calls Tryd.prog 102 #[.slice a ws.length c, .agg #[.int .i64 t, .string u]] w fun e w' => e = .returned (.bool (memW ⟨t, u⟩ ws)) ∧ Below w.heap.size w w' := by
  have cI := Index_any a c ws t u (w.alloc (.cells #[.int .i64 t, .string u] 63)) hl (At2.below ha (below_alloc _ _))
  go_enter Tryd.func102, Tryd.ntmps102
  go_wp2_with fail
  refine cI.mono ?_
  rintro e w1 ⟨b1, r, rfl, hr⟩
  have HR : Hid _ := hr
  clear cI hr
  go_wp2
  go_ret
  exact ⟨congrArg (fun b => Ending.returned (Value.bool b)) HR.out, Below.comp (below_alloc _ _) b1⟩

set_option maxRecDepth 20000 in
set_option maxHeartbeats 800000 in
theorem copyW_any (a : Option Addr) (n cap : Nat) (T : Nat → Int) (U : Nat → ByteArray) (w : World) (hn : n ≤ 1048576) (hc : At2 w a n T U) :
    Calls Tryd.prog 100 #[.slice a n cap] w fun e w' => Below w.heap.size w w' ∧ ∃ a' c', e = .returned (.slice a' n c') ∧ Mine w' w.heap.size w'.heap.size 63 n a' (wrts n T U) := by
  have hmk := make_any (P := Tryd.prog) 30 63 _ 2 24 Tryd.underlying30 info42 .i64 .i64 n (by omega) (by omega)
  have hsrc : n = 0 ∨ ∃ ad, a = some ad ∧ ∀ j v, (wrtCells n T U)[j]? = some v → (w.alloc (.cells (made (.agg #[.int .i64 0, .string ⟨#[]⟩]) (n * 2)) 63)).cell? (ad.add j) = some v := src2 (At2.below hc (below_alloc w _))
  go_enter Tryd.func100, Tryd.ntmps100
  go_wp2_with (refine wpList_copy_mine rfl _ _ 30 30 rfl 63 2 Tryd.underlying30 size42 w.heap.size n n a n cap rfl rfl (made (.agg #[.int .i64 0, .string ⟨#[]⟩]) (n * 2)) 63 (wrtCells n T U) (heap_alloc_new w _) (wrtCells_len _ _ _) (Nat.le_refl _) hsrc (by rw [wrtCells_len, size_made]; omega) (wrtCells_one _ _ _) ?_; intro w1 hB1 ho1)
  go_ret
  refine ⟨(below_alloc w _).trans (ho1.below (by simp)), _, _, rfl, .inr ⟨_, _, Nat.le_refl _, (Array.getElem?_eq_some_iff.1 hB1.out).1, rfl, hB1.out, fun i hi => ?_⟩⟩
  rw [List.getElem?_toArray, List.getElem?_toArray, List.getElem?_append_left (by rw [wrtCells_len]; omega), List.getElem?_append_left (by rw [wrtCells_len]; omega)]
  exact wrtCells_at T U n i hi
end Go.Proofs.YtmijalmihfgolaaDoor
