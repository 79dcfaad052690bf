import Derived.Test.YtmijalmihfgolaaDoorQC
import Derived.WalkKit
import Derived.ProofKit
import Derived.OpenShut
import Derived.Below
import Derived.Deep.QuietTactic
import Derived.BigQuiet
import Derived.Lib.QuietBelow
import Derived.Deep.RegionWith
import Derived.RegionTactic
import Derived.Laws.IdiomStrings
import Derived.Deep.RegionHeld3
namespace Go.Proofs.YtmijalmihfgolaaDoor
open Go.ChangeShapes Go.WideShapes Go.ChangeAt Go.RowKit
set_option linter.unusedVariables false
open Tx

attribute [local go_sem] Oper.semAt_some

/- QA1d -/
set_option maxHeartbeats 400000 in
theorem szStringS_any (a : Option Addr) (n cap : Nat) (S : Nat → ByteArray) (left : Int) (w : World) (h0 : 0 ≤ left) (h1 : left ≤ 1048576)
    (hn : n ≤ 9223372036854775807) (hc : At w a n fun i => .string (S i)) (hs : ∀ i, i < n → (S i).size ≤ 9223372036854775807) :
    Calls Tryd.prog 43 #[.slice a n cap, .int .i64 left] w fun e w' => w' = w ∧ ∃ r : Int, e = .returned (.int .i64 r) ∧ -1 ≤ r ∧ r ≤ left ∧ (0 ≤ r → (n : Int) ≤ left) := by
  by_cases hl : left - n < 0
  · go_enter Tryd.func43, Tryd.ntmps43
    go_wp2
    go_ret
    exact ⟨rfl, -1, rfl, by omega, by omega, by omega⟩
  · have hl' : 0 ≤ left - n := by omega
    go_enter Tryd.func43, Tryd.ntmps43
    go_wp2
    go_loop [1, 5] (fun l i => ∃ (k : Nat) (q : Int), k ≤ n ∧ i = .int .i64 k ∧ l = .int .i64 q ∧ 0 ≤ q ∧ q ≤ left - n) (fun _ i => n - (intOf i).toNat)
    case atStart => exact ⟨0, _, Nat.zero_le _, rfl, rfl, hl', by omega⟩
    case round =>
      obtain ⟨k, q, hk, rfl, rfl, hq, hq'⟩ := hrel
      by_cases hlt : k < n
      · obtain ⟨b, off, rfl, hcell⟩ := hc (by omega)
        have hck := hcell k hlt
        have hsk := hs k hlt
        clear hcell hs hc
        by_cases hx : q - (S k).size < 0
        · go_wp2
          go_ret
          exact ⟨rfl, -1, rfl, by omega, by omega, by omega⟩
        · have hx' : 0 ≤ q - (S k).size := by omega
          go_wp2
          go_round
          case rel => exact ⟨k + 1, _, by omega, by go_num, rfl, hx', by omega⟩
          case measure => simp [intOf]; omega
      · go_wp2
        go_ret
        exact ⟨rfl, q, rfl, by omega, by omega, by omega⟩
/- QA2d -/
set_option maxHeartbeats 400000 in
theorem szDevice_any (a a' : Option Addr) (n m cap cap' : Nat) (S : Nat → ByteArray) (T : Nat → Int) (U : Nat → ByteArray) (left : Int) (w : World) (h0 : 0 ≤ left) (h1 : left ≤ 1048576)
    (hn : n ≤ 9223372036854775807) (hc : At w a n fun i => .string (S i)) (hs : ∀ i, i < n → (S i).size ≤ 9223372036854775807)
    (hn' : m ≤ 9223372036854775807) (hc' : At2 w a' m T U) (hs' : ∀ i, i < m → (U i).size ≤ 9223372036854775807) :
    Calls Tryd.prog 42 #[.agg #[.slice a n cap, .slice a' m cap'], .int .i64 left] w fun e w' => Below w.heap.size w w' ∧ ∃ r : Int, e = .returned (.int .i64 r) ∧ (0 ≤ r → (n : Int) ≤ left ∧ (m : Int) ≤ left) := by
  go_enter Tryd.func42, Tryd.ntmps42
  go_wp2_with fail
  refine (szStringS_any a n cap S left _ h0 h1 hn (hc.below ((Below.refl _ _).alloc (Nat.le_refl _) _)) hs).mono ?_
  rintro e w1 ⟨rfl, r, rfl, hr1, hr2, hr3⟩
  by_cases hr : r < 0
  · go_wp2
    go_ret
    exact ⟨(Below.refl _ _).alloc (Nat.le_refl _) _, -1, rfl, by omega⟩
  · go_wp2_with fail
    refine (szWriteS_any a' m cap' T U r _ (by omega) (by omega) hn' (hc'.below ((Below.refl _ _).alloc (Nat.le_refl _) _)) hs').mono ?_
    rintro e w1 ⟨hb1, r', rfl, hr1', hr2', hr3'⟩
    by_cases hr' : r' < 0
    · go_wp2
      go_ret
      exact ⟨((Below.refl _ _).alloc (Nat.le_refl _) _).trans (hb1.mono (by simp)), -1, rfl, by omega⟩
    · go_wp2
      go_ret
      exact ⟨((Below.refl _ _).alloc (Nat.le_refl _) _).trans (hb1.mono (by simp)), _, rfl, by omega⟩
/- QB1d -/
set_option maxHeartbeats 400000 in
theorem toStringS_any (a : Option Addr) (n cap : Nat) (S : Nat → ByteArray) (w : World) (hn : n ≤ 1048576) (hc : At w a n fun i => .string (S i)) :
    Calls Tryd.prog 48 #[.slice a n cap] w fun e w' => Below w.heap.size w w' ∧ ∃ a' c', e = .returned (.slice a' n c') ∧ Mine w' w.heap.size w'.heap.size 9 n a' (strs n S) := by
  have hmk := make_any (P := Tryd.prog) 22 9 _ 1 16 Tryd.underlying22 info9 .i64 .i64 n (by omega) (by omega)
  go_enter Tryd.func48, Tryd.ntmps48
  go_wp2
  go_loopw [4] (fun i wr => ∃ (k : Nat) (c : Array Value), k ≤ n ∧ i = .int .i64 k ∧ wr.heap[w.heap.size]? = some (.cells c 9 (0, 0)) ∧ c.size = n ∧ strs k S c ∧ Below w.heap.size w wr) (fun i _ => n - (intOf i).toNat)
  case atStart => exact ⟨0, _, Nat.zero_le _, rfl, heap_alloc_new w _, by simp [size_made], fun i hi => absurd hi (by omega), (Below.refl _ _).alloc (Nat.le_refl _) _⟩
  case round =>
    obtain ⟨k, c, hk, rfl, hB, hcs, hst, hb⟩ := hrel
    by_cases hlt : k < n
    · obtain ⟨b, off, rfl, hcell⟩ := (hc.below hb) (by omega)
      have hck := hcell k hlt
      have hold : wr.cell? ⟨w.heap.size, k, none⟩ = some c[k] := cell_of_block hB (by simp)
      have hfree := free_of_block (i := k) hB
      clear hcell hc
      have HB : Hid (wr.heap[w.heap.size]? = some (.cells c 9 (0, 0))) := hB
      clear hB
      go_wp2
      go_roundw
      case rel =>
        refine ⟨k + 1, _, by omega, by go_num, block_set HB.out, by simpa using hcs, ?_, hb.setCell (Nat.le_refl _) _⟩
        intro i hi
        by_cases e : i = k
        · rw [e]; exact set_at (by omega) _
        · rw [set_ne e]; exact hst i (by omega)
      case measure => simp [intOf]; omega
    · go_wp2
      go_ret
      have hkn : k = n := by omega
      subst hkn
      exact ⟨hb, _, _, rfl, .inr ⟨_, c, Nat.le_refl _, (Array.getElem?_eq_some_iff.1 hB).1, rfl, hB, hst⟩⟩
/- QB3d -/
set_option maxHeartbeats 400000 in
theorem toDevice_any (a a' : Option Addr) (n m ca ca' : Nat) (S : Nat → ByteArray) (T : Nat → Int) (U : Nat → ByteArray) (w : World) (hn : n ≤ 1048576) (hm : m ≤ 1048576)
    (ha : At w a n fun i => .string (S i)) (ha' : At2 w a' m T U) :
    Calls Tryd.prog 47 #[.agg #[.slice a n ca, .slice a' m ca']] w fun e w' => Below w.heap.size w w' ∧ ∃ x cx y cy, e = .returned (.agg #[.slice x n cx, .slice y m cy]) ∧
      Mine w' w.heap.size w'.heap.size 9 n x (strs n S) ∧ Mine w' w.heap.size w'.heap.size 63 m y (wrts m T U) := by
  have h0 : ∀ o1 o2 o3, Below w.heap.size w (((w.alloc o1).alloc o2).alloc o3) := fun o1 o2 o3 => ((below_alloc _ _).alloc (by simp) _).alloc (by simp; omega) _
  go_enter Tryd.func47, Tryd.ntmps47
  go_wp2_with fail
  refine (toStringS_any a n ca S _ hn (ha.below (h0 _ _ _))).mono ?_
  rintro e w1 ⟨b1, x, cx, rfl, m1⟩
  have g1 := Below.comp (h0 _ _ _) b1
  obtain ⟨c1, f1⟩ := bcell b1
  obtain ⟨z1, z1', z1''⟩ : w.heap.size < w1.heap.size ∧ w.heap.size + 1 < w1.heap.size ∧ w.heap.size + 1 + 1 < w1.heap.size := by have := b1.size; simp at this; omega
  go_wp2_with fail
  have g1' := g1.setCell (p := ⟨w.heap.size + 1 + 1, 0, none⟩) (by simp; omega) (.slice x n cx)
  have m1' := m1.out (out_setCell w1 (w.heap.size + 1 + 1) 0 (.slice x n cx)) (.inr (by simp))
  refine (toWriteS_any a' m ca' T U _ hm (ha'.below g1')).mono ?_
  rintro e w2 ⟨b2, y, cy, rfl, m2⟩
  have g2 := Below.comp g1' b2
  have m1'' := m1'.below b2
  obtain ⟨c2, f2⟩ := bcell b2
  have z2 : w1.heap.size ≤ w2.heap.size := by have := b2.size; simpa using this
  clear b1 b2 g1 g1' ha ha' h0 m1 m1'
  go_wp2
  refine bodyPost_ret (v := .agg #[.slice x n cx, .slice y m cy]) (by simp [results, Tryd.results47, go_sem, c2, c1, z1']) rfl ⟨?_, x, cx, y, cy, rfl, ?_, ?_⟩
  · refine ((g2.setCell ?_ _).setCell ?_ _).setCell ?_ _ <;> simp <;> omega
  · refine (m1''.out (((Out.refl (w.heap.size + 1) (w.heap.size + 3) w2).setCell ?_ ?_ _ _).setCell ?_ ?_ _ _ |>.setCell ?_ ?_ _ _) (.inr ?_)).mono ?_ ?_ <;> simp <;> omega
  · refine (m2.out (((Out.refl (w.heap.size + 1) (w.heap.size + 3) w2).setCell ?_ ?_ _ _).setCell ?_ ?_ _ _ |>.setCell ?_ ?_ _ _) (.inr ?_)).mono ?_ ?_ <;> simp <;> omega
/- QC1d -/
set_option maxHeartbeats 800000 in
theorem specGood_any (a a' : Option Addr) (n m ca ca' : Nat) (S : Nat → ByteArray) (T : Nat → Int) (U : Nat → ByteArray) (w : World) (hn : n ≤ 1048576) (hm : m ≤ 1048576)
    (ha : At w a n fun i => .string (S i)) (ha' : At2 w a' m T U) (hs : ∀ i, i < n → (S i).size ≤ 9223372036854775807) (hs' : ∀ i, i < m → (U i).size ≤ 9223372036854775807) :
    Calls Tryd.prog 44 #[.agg #[.slice a n ca, .slice a' m ca']] w fun e w' => e = .returned (.bool (goodB n m S T U)) ∧ Below w.heap.size w w' := by
  go_enter Tryd.func44, Tryd.ntmps44
  go_wp2
  go_loop [10, 4] (fun i _ => ∃ k : Nat, k ≤ n ∧ i = .int .i64 k ∧ ∀ j, j < k → (S j).size = 8) (fun i _ => n - (intOf i).toNat)
  case atStart => exact ⟨0, Nat.zero_le _, rfl, fun j hj => absurd hj (by omega)⟩
  case round =>
    obtain ⟨k, hk, rfl, hall⟩ := hrel
    have Hall : Hid (∀ j, j < k → (S j).size = 8) := hall
    clear hall
    by_cases hlt : k < n
    · obtain ⟨b, off, rfl, hcell⟩ := (ha.below (below_alloc w (.cells #[.slice a n ca, .slice a' m ca'] 32))) (by omega)
      have hck := hcell k hlt
      have hsk := hs k hlt
      clear hcell
      by_cases h8 : (S k).size = 8
      · have h8' : (((S k).size : Int) != 8) = false := by simp; omega
        go_wp2
        go_round
        case rel => exact ⟨k + 1, by omega, by go_num, fun j hj => by by_cases e : j = k; (· subst e; exact h8); (· exact Hall.out j (by omega))⟩
        case measure => simp [intOf]; omega
      · have h8' : (((S k).size : Int) != 8) = true := by simp; omega
        go_wp2
        go_ret
        exact ⟨ret_bool (decide_eq_false (by intro h; exact h8 (h.2.2.2.1 k hlt))).symm, below_alloc _ _⟩
    · have hkn : k = n := by omega
      subst hkn
      clear hk hlt
      obtain ⟨w0, hw0⟩ : ∃ w0, w0 = w.alloc (.cells #[.slice a k ca, .slice a' m ca'] 32) := ⟨_, rfl⟩
      have g0 : Below w.heap.size w w0 := by rw [hw0]; exact below_alloc _ _
      have x0 : w0.cell? ⟨w.heap.size, 0, none⟩ = some (.slice a k ca) := by rw [hw0]; simp [go_sem]
      have x1 : w0.cell? ⟨w.heap.size, 1, none⟩ = some (.slice a' m ca') := by rw [hw0]; simp [go_sem]
      rw [← hw0]
      clear hw0
      go_wp2
      go_loopw [21] (fun i wr => ∃ q : Nat, q ≤ m ∧ i = .int .i64 q ∧ (∀ j, j < q → fitB k (T j) (U j) = true) ∧ Below w0.heap.size w0 wr) (fun i _ => m - (intOf i).toNat)
      case atStart => exact ⟨0, Nat.zero_le _, rfl, fun j hj => absurd hj (by omega), Below.refl _ _⟩
      case round =>
        obtain ⟨q, hq, rfl, hall, hb⟩ := hrel
        have Hall2 : Hid (∀ j, j < q → fitB k (T j) (U j) = true) := hall
        clear hall
        have y0 := (hb.cell (p := ⟨w.heap.size, 0, none⟩) (lt_of_cell x0)).trans x0
        have y1 := (hb.cell (p := ⟨w.heap.size, 1, none⟩) (lt_of_cell x0)).trans x1
        have z0 : w.heap.size < wr.heap.size := lt_of_cell y0
        clear x0 x1
        by_cases hlt : q < m
        · obtain ⟨b, off, rfl, hcell⟩ := (ha'.below (Below.comp g0 hb)) (by omega)
          obtain ⟨hck, hck2⟩ := hcell q hlt
          have hsk := hs' q hlt
          clear hcell
          cases hf : fitB k (T q) (U q)
          · go_wp2_with (go_at_call 82; refine (l1Write_any _ _ _ _ (by omega) hsk).mono ?_; rintro e w1 ⟨rfl, b1⟩)
            go_ret
            exact ⟨ret_bool (decide_eq_false (by intro h; have := h.2.2.2.2 q hlt; rw [hf] at this; cases this)).symm, Below.comp (Below.comp g0 hb) (Below.comp (below_alloc _ _) b1)⟩
          · go_wp2_with (go_at_call 82; refine (l1Write_any _ _ _ _ (by omega) hsk).mono ?_; rintro e w1 ⟨rfl, b1⟩)
            go_roundw
            case rel => exact ⟨q + 1, by omega, by go_num, fun j hj => by by_cases e : j = q; (· subst e; exact hf); (· exact Hall2.out j (by omega)), Below.comp hb (Below.comp (below_alloc _ _) b1)⟩
            case measure => simp [intOf]; omega
        · have hqm : q = m := by omega
          subst hqm
          by_cases hk1 : 1 ≤ k ∧ k ≤ 32
          · have e1 : inB k 1 32 = true := inB_true (by omega)
            by_cases hq6 : q ≤ 60
            · have e2 : goodB k q S T U = true := decide_eq_true ⟨hk1.1, hk1.2, hq6, Hall.out, Hall2.out⟩
              have E2 : Hid _ := e2
              clear e2
              have hq6' : (q : Int) ≤ 60 := by omega
              go_wp2_with (go_at_call 45; refine (l1In_any _ _ _ _).mono ?_; rintro e w1 ⟨rfl, rfl⟩)
              go_ret
              exact ⟨ret_bool E2.out.symm, Below.comp g0 hb⟩
            · have e2 : goodB k q S T U = false := decide_eq_false (fun h => hq6 h.2.2.1)
              have E2 : Hid _ := e2
              clear e2
              have hq6' : decide ((q : Int) ≤ 60) = false := by simp; omega
              go_wp2_with (go_at_call 45; refine (l1In_any _ _ _ _).mono ?_; rintro e w1 ⟨rfl, rfl⟩)
              go_ret
              exact ⟨ret_bool E2.out.symm, Below.comp g0 hb⟩
          · have e1 : inB k 1 32 = false := inB_false (by omega)
            have e2 : goodB k q S T U = false := decide_eq_false (fun h => hk1 ⟨h.1, h.2.1⟩)
            have E2 : Hid _ := e2
            clear e2
            go_wp2_with (go_at_call 45; refine (l1In_any _ _ _ _).mono ?_; rintro e w1 ⟨rfl, rfl⟩)
            go_ret
            exact ⟨ret_bool E2.out.symm, Below.comp g0 hb⟩
/- QC2d -/
set_option maxHeartbeats 800000 in
theorem implGood_any (a a' : Option Addr) (n m ca ca' : Nat) (S : Nat → ByteArray) (T : Nat → Int) (U : Nat → ByteArray) (w : World) (hn : n ≤ 1048576) (hm : m ≤ 1048576)
    (ha : At w a n fun i => .string (S i)) (ha' : At2 w a' m T U) (hs : ∀ i, i < n → (S i).size ≤ 9223372036854775807) (hs' : ∀ i, i < m → (U i).size ≤ 9223372036854775807) :
    Calls Tryd.prog 99 #[.agg #[.slice a n ca, .slice a' m ca']] w fun e w' => e = .returned (.bool (goodB n m S T U)) ∧ Below w.heap.size w w' := by
  by_cases h1 : n < 1
  · have e2 : goodB n m S T U = false := decide_eq_false (fun h => by omega)
    rw [e2]
    clear e2
    have d1 : decide ((n : Int) < 1) = true := by simp; omega
    go_enter Tryd.func99, Tryd.ntmps99
    go_wp2
    go_ret
    exact ⟨rfl, below_alloc _ _⟩
  have d1 : decide ((n : Int) < 1) = false := by simp; omega
  by_cases h2 : 32 < n
  · have e2 : goodB n m S T U = false := decide_eq_false (fun h => by omega)
    rw [e2]
    clear e2
    have d2 : decide ((32 : Int) < (n : Int)) = true := by simp; omega
    go_enter Tryd.func99, Tryd.ntmps99
    go_wp2
    go_ret
    exact ⟨rfl, below_alloc _ _⟩
  have d2 : decide ((32 : Int) < (n : Int)) = false := by simp; omega
  by_cases h3 : 60 < m
  · have e2 : goodB n m S T U = false := decide_eq_false (fun h => by omega)
    rw [e2]
    clear e2
    have d3 : decide ((60 : Int) < (m : Int)) = true := by simp; omega
    go_enter Tryd.func99, Tryd.ntmps99
    go_wp2
    go_ret
    exact ⟨rfl, below_alloc _ _⟩
  have d3 : decide ((60 : Int) < (m : Int)) = false := by simp; omega
  go_enter Tryd.func99, Tryd.ntmps99
  go_wp2
  go_loop [26] (fun i => ∃ k : Nat, k ≤ n ∧ i = .int .i64 k ∧ ∀ j, j < k → (S j).size = 8) (fun i => n - (intOf i).toNat)
  case atStart => exact ⟨0, Nat.zero_le _, rfl, fun j hj => absurd hj (by omega)⟩
  case round =>
    obtain ⟨k, hk, rfl, hall⟩ := hrel
    have Hall : Hid (∀ j, j < k → (S j).size = 8) := hall
    clear hall
    by_cases hlt : k < n
    · obtain ⟨b, off, rfl, hcell⟩ := (ha.below (below_alloc w (.cells #[.slice a n ca, .slice a' m ca'] 32))) (by omega)
      have hck := hcell k hlt
      have hsk := hs k hlt
      clear hcell
      by_cases h8 : (S k).size = 8
      · have h8' : (((S k).size : Int) != 8) = false := by simp; omega
        go_wp2
        go_round
        case rel => exact ⟨k + 1, by omega, by go_num, fun j hj => by by_cases e : j = k; (· subst e; exact h8); (· exact Hall.out j (by omega))⟩
        case measure => simp [intOf]; omega
      · have h8' : (((S k).size : Int) != 8) = true := by simp; omega
        go_wp2
        go_ret
        exact ⟨ret_bool (decide_eq_false (by intro h; exact h8 (h.2.2.2.1 k hlt))).symm, below_alloc _ _⟩
    · have hkn : k = n := by omega
      subst hkn
      clear hk hlt
      obtain ⟨w0, hw0⟩ : ∃ w0, w0 = w.alloc (.cells #[.slice a k ca, .slice a' m ca'] 32) := ⟨_, rfl⟩
      have g0 : Below w.heap.size w w0 := by rw [hw0]; exact below_alloc _ _
      have x0 : w0.cell? ⟨w.heap.size, 0, none⟩ = some (.slice a k ca) := by rw [hw0]; simp [go_sem]
      have x1 : w0.cell? ⟨w.heap.size, 1, none⟩ = some (.slice a' m ca') := by rw [hw0]; simp [go_sem]
      rw [← hw0]
      clear hw0
      go_wp2
      go_loopw [37] (fun i wr => ∃ q : Nat, q ≤ m ∧ i = .int .i64 q ∧ (∀ j, j < q → fitB k (T j) (U j) = true) ∧ Below w0.heap.size w0 wr) (fun i _ => m - (intOf i).toNat)
      case atStart => exact ⟨0, Nat.zero_le _, rfl, fun j hj => absurd hj (by omega), Below.refl _ _⟩
      case round =>
        obtain ⟨q, hq, rfl, hall, hb⟩ := hrel
        have Hall2 : Hid (∀ j, j < q → fitB k (T j) (U j) = true) := hall
        clear hall
        have y0 := (hb.cell (p := ⟨w.heap.size, 0, none⟩) (lt_of_cell x0)).trans x0
        have y1 := (hb.cell (p := ⟨w.heap.size, 1, none⟩) (lt_of_cell x0)).trans x1
        have z0 : w.heap.size < wr.heap.size := lt_of_cell y0
        clear x0 x1
        by_cases hlt : q < m
        · obtain ⟨b, off, rfl, hcell⟩ := (ha'.below (Below.comp g0 hb)) (by omega)
          obtain ⟨hck, hck2⟩ := hcell q hlt
          have hsk := hs' q hlt
          clear hcell
          cases hf : fitB k (T q) (U q)
          · go_wp2_with (go_at_call 88; refine (fits_any _ _ _ _ (by omega) hsk).mono ?_; rintro e w1 ⟨rfl, b1⟩)
            go_ret
            exact ⟨ret_bool (decide_eq_false (by intro h; have := h.2.2.2.2 q hlt; rw [hf] at this; cases this)).symm, Below.comp (Below.comp g0 hb) (Below.comp (below_alloc _ _) b1)⟩
          · go_wp2_with (go_at_call 88; refine (fits_any _ _ _ _ (by omega) hsk).mono ?_; rintro e w1 ⟨rfl, b1⟩)
            go_roundw
            case rel => exact ⟨q + 1, by omega, by go_num, fun j hj => by by_cases e : j = q; (· subst e; exact hf); (· exact Hall2.out j (by omega)), Below.comp hb (Below.comp (below_alloc _ _) b1)⟩
            case measure => simp [intOf]; omega
        · have hqm : q = m := by omega
          subst hqm
          have e2 : goodB k q S T U = true := decide_eq_true ⟨by omega, by omega, by omega, Hall.out, Hall2.out⟩
          have E2 : Hid _ := e2
          clear e2
          go_wp2
          go_ret
          exact ⟨ret_bool E2.out.symm, Below.comp g0 hb⟩
/- QK2d -/
set_option maxHeartbeats 800000 in
theorem l1Done_any (a a' : Option Addr) (n m ca ca' : Nat) (S : Nat → ByteArray) (T : Nat → Int) (U : Nat → ByteArray) (w : World) (hn0 : 1 ≤ n) (hn : n ≤ 32) (hm : m ≤ 1048576)
    (ha : At w a n fun i => .string (S i)) (ha' : At2 w a' m T U) (hf : ∀ i, i < m → fitB n (T i) (U i) = true) :
    Calls Tryd.prog 71 #[.slice a n ca, .slice a' m ca'] w fun e w' => Below w.heap.size w w' ∧ ∃ x cx, e = .returned (.slice x n cx) ∧ Mine w' w.heap.size w'.heap.size 9 n x (strs n (doneS S T U m)) := by
  obtain ⟨i0, hi, hz0, hz1, hz2⟩ := info_parts info9
  obtain ⟨b, off, rfl, hcell⟩ := (ha.below (below_alloc w (.cells #[] 9))) (by omega)
  have hsrc := strCells_src hcell
  have hown := World.ownsRow_made (e := 9) (size := 1) (base := w.heap.size) w #[] 0 (Nat.le_refl _) (by decide) (by simp)
  have Hf : Hid _ := hf
  clear ha hf
  go_enter Tryd.func71, Tryd.ntmps71
  go_wp2_with (at_builtin; refine wpList_append_own _ rfl _ _ 22 rfl w.heap.size 9 i0 _ 1 16 Tryd.underlying22 hi hz0 hz1 hz2 rfl (by decide) (.slice (some ⟨w.heap.size, 0, none⟩) 0 0) 0 [] rfl hown ⟨b, off, none⟩ n ca (strCells n S) rfl (by rw [strCells_len]; omega) hsrc (strCells_one _ _) (by unfold maxLen; omega) (by omega) (by simp) ?_; intro v' w1 hown1 hgrow1 _; obtain ⟨g, cg, cur, hv, hg0, hg1, hg2, hg3⟩ := owns_mine hown1 (by omega); subst hv; clear hown1)
  have g1 : Below w.heap.size w w1 := (below_alloc w _).trans (Grown.below hgrow1 (by simp) (by intro k hk; simp [Value.ownBlock] at hk; omega))
  have hst0 : strs n S cur := fun i hi => by rw [hg3 i (by omega)]; exact strCells_at n S hi
  have Hg : Hid (w1.heap[g]? = some (.cells cur 9 (0, 0))) := hg1
  have hg2' : n ≤ cur.size := by omega
  clear hgrow1 hown hsrc hcell hi hz0 hz1 hz2 hg1 hg2 hg3
  go_loopw [13] (fun i wr => ∃ (k : Nat) (c : Array Value), k ≤ m ∧ i = .int .i64 k ∧ wr.heap[g]? = some (.cells c 9 (0, 0)) ∧ n ≤ c.size ∧ strs n (doneS S T U k) c ∧ Below w.heap.size w wr) (fun i _ => m - (intOf i).toNat)
  case atStart => exact ⟨0, cur, Nat.zero_le _, rfl, Hg.out, hg2', hst0, g1⟩
  case round =>
    obtain ⟨k, c, hk, rfl, hB, hcs, hst, hb⟩ := hrel
    by_cases hlt : k < m
    · obtain ⟨b', off', rfl, hcell⟩ := (ha'.below hb) (by omega)
      obtain ⟨hck, hck2⟩ := hcell k hlt
      obtain ⟨ht0, ht1, ht2⟩ := fitB_spec (Hf.out k hlt)
      obtain ⟨t, ht⟩ : ∃ t : Nat, T k = t := ⟨(T k).toNat, by omega⟩
      have htn : t < n := by omega
      have HT : Hid (T k = t) := ht
      rw [ht] at hck
      obtain ⟨x0, hx0⟩ : ∃ v, c[t]? = some v := ⟨c[t]'(by omega), by simp⟩
      have hold := cell_of_block hB hx0
      have hfree := free_of_block (i := t) hB
      have hgl := lt_of_cell hold
      have HB : Hid _ := hB
      clear hcell hB hx0 ht ht0 ht1 ht2 ha'
      go_wp2
      go_roundw
      case rel =>
        refine ⟨k + 1, _, by omega, by go_num, ((below_alloc _ _).block _ (by simpa using hgl)).trans (block_set HB.out), by simpa using hcs, ?_, (hb.setCell (p := ⟨g, t, none⟩) hg0 _).alloc (by simp; exact hb.size) _⟩
        show strs n (upd (doneS S T U k) (T k) (U k)) _
        rw [HT.out]
        exact strs_set hst hcs htn _
      case measure => simp [intOf]; omega
    · go_wp2
      go_ret
      have hkn : k = m := by omega
      subst hkn
      exact ⟨hb, _, _, rfl, .inr ⟨g, c, hg0, (Array.getElem?_eq_some_iff.1 hB).1, rfl, hB, hst⟩⟩
/- QK4d -/
set_option maxHeartbeats 400000 in
theorem bos_any (b0 b1 b2 b3 b4 b5 b6 b7 : UInt8) (w : World)  :
    Calls Tryd.prog 96 #[.string ⟨#[b0, b1, b2, b3, b4, b5, b6, b7]⟩] w fun e w' => e = .returned (.agg #[.int .u8 b0.toNat, .int .u8 b1.toNat, .int .u8 b2.toNat, .int .u8 b3.toNat, .int .u8 b4.toNat, .int .u8 b5.toNat, .int .u8 b6.toNat, .int .u8 b7.toNat]) ∧ Below w.heap.size w w' := by
  have hcp : ∀ (w : World) (z : Array Value), z.size = 8 → (Builtin.copy_ #[98, 9] 3 #[.slice (some ⟨w.heap.size + 1, 0, none⟩) 8 8, .string ⟨#[b0, b1, b2, b3, b4, b5, b6, b7]⟩]).run Tryd.prog ((w.alloc (.cells z 107)).alloc (.cells z 107)) =
      .ok (goInt 8) ((w.alloc (.cells z 107)).alloc (.cells #[.int .u8 b0.toNat, .int .u8 b1.toNat, .int .u8 b2.toNat, .int .u8 b3.toNat, .int .u8 b4.toNat, .int .u8 b5.toNat, .int .u8 b6.toNat, .int .u8 b7.toNat] 107)) := by
    intro w z hz
    have hsz : (w.alloc (.cells z 107)).heap.size = w.heap.size + 1 := by simp
    have := run_copy_str (P := Tryd.prog) ((w.alloc (.cells z 107)).alloc (.cells z 107)) 98 9 3 5 (w.heap.size + 1) 8 8 ⟨#[b0, b1, b2, b3, b4, b5, b6, b7]⟩ z 107 Tryd.underlying98 size5 (by rw [← hsz]; exact heap_alloc_new _ _) rfl hz.symm
    have e : ((⟨#[b0, b1, b2, b3, b4, b5, b6, b7]⟩ : ByteArray).data.map fun b => Value.int .u8 b.toNat) = #[.int .u8 b0.toNat, .int .u8 b1.toNat, .int .u8 b2.toNat, .int .u8 b3.toNat, .int .u8 b4.toNat, .int .u8 b5.toNat, .int .u8 b6.toNat, .int .u8 b7.toNat] := by simp
    rw [this, ← hsz, setRow_alloc, e]
    rfl
  have hcp' := fun w => hcp w #[.int .u8 0, .int .u8 0, .int .u8 0, .int .u8 0, .int .u8 0, .int .u8 0, .int .u8 0, .int .u8 0] rfl
  clear hcp
  go_enter Tryd.func96, Tryd.ntmps96
  go_wp2
  refine bodyPost_ret (v := .agg #[.int .u8 b0.toNat, .int .u8 b1.toNat, .int .u8 b2.toNat, .int .u8 b3.toNat, .int .u8 b4.toNat, .int .u8 b5.toNat, .int .u8 b6.toNat, .int .u8 b7.toNat]) (by simp [results, Tryd.results96, go_sem]) rfl ⟨rfl, ?_⟩
  exact (below_alloc _ _).alloc (by simp) _

set_option maxHeartbeats 400000 in
theorem copyList_any (a : Option Addr) (n cap : Nat) (S : Nat → ByteArray) (w : World) (hn : n ≤ 1048576) (hc : At w a n fun i => .string (S i)) :
    Calls Tryd.prog 95 #[.slice a n cap] w fun e w' => Below w.heap.size w w' ∧ ∃ a' c', e = .returned (.slice a' n c') ∧ Mine w' w.heap.size w'.heap.size 9 n a' (strs n S) := by
  have hmk := make_any (P := Tryd.prog) 22 9 _ 1 16 Tryd.underlying22 info9 .i64 .i64 n (by omega) (by omega)
  have hsrc : n = 0 ∨ ∃ ad, a = some ad ∧ ∀ j v, (strCells n S)[j]? = some v → (w.alloc (.cells (made (.string ⟨#[]⟩) n) 9)).cell? (ad.add j) = some v := by
    by_cases h0 : n = 0
    · exact .inl h0
    · obtain ⟨b, off, rfl, hcell⟩ := (hc.below (below_alloc w (.cells (made (.string ⟨#[]⟩) n) 9))) h0
      exact .inr ⟨_, rfl, strCells_src hcell⟩
  go_enter Tryd.func95, Tryd.ntmps95
  go_wp2_with (refine wpList_copy_mine rfl _ _ 22 22 rfl 9 1 Tryd.underlying22 size9 w.heap.size n n a n cap rfl rfl (made (.string ⟨#[]⟩) n) 9 (strCells n S) (heap_alloc_new w _) (by rw [strCells_len]; omega) (Nat.le_refl _) hsrc (by rw [strCells_len, size_made]; omega) (strCells_one _ _) ?_; intro w1 hB1 ho1)
  go_ret
  refine ⟨(below_alloc w _).trans (ho1.below (by simp)), _, _, rfl, .inr ⟨_, _, Nat.le_refl _, (Array.getElem?_eq_some_iff.1 hB1.out).1, rfl, hB1.out, fun i hi => ?_⟩⟩
  rw [List.getElem?_toArray, List.getElem?_append_left (by rw [strCells_len]; omega)]
  exact strCells_at n S hi
/- QK5d -/
set_option maxHeartbeats 1600000 in
theorem settle_any (a a1 a' : Option Addr) (n m m1 ca ca1 ca' : Nat) (S : Nat → ByteArray) (T : Nat → Int) (U : Nat → ByteArray) (w : World) (hn0 : 1 ≤ n) (hn : n ≤ 32) (hm : m ≤ 1048576)
    (ha : At w a n fun i => .string (S i)) (ha' : At2 w a' m T U) (hs : ∀ i, i < n → (S i).size = 8) (hf : ∀ i, i < m → fitB n (T i) (U i) = true) :
    Calls Tryd.prog 74 #[.agg #[.slice a n ca, .slice a1 m1 ca1], .slice a' m ca'] w fun e w' => Below w.heap.size w w' ∧ ∃ x cx, e = .returned (.agg #[.slice x n cx, .slice none 0 0]) ∧ Mine w' w.heap.size w'.heap.size 9 n x (strs n (doneS S T U m)) := by
  have h0 : ∀ o1 o2, Below w.heap.size w ((w.alloc o1).alloc o2) := fun o1 o2 => (below_alloc _ _).alloc (by simp) _
  have Hf : Hid _ := hf
  have Hs : Hid _ := hs
  clear hf hs
  go_enter Tryd.func74, Tryd.ntmps74
  go_wp2_with fail
  refine (copyList_any a n ca S _ (by omega) (ha.below (h0 _ _))).mono ?_
  rintro e w1 ⟨b1, x, cx, rfl, mx⟩
  rcases mx with mx | ⟨g, cur, hg0, hg1, rfl, hg2, hst0⟩
  · omega
  have g1 := Below.comp (h0 _ _) b1
  have hg0' : w.heap.size + 2 ≤ g := by simp at hg0; omega
  have k0 : w1.cell? ⟨w.heap.size + 1, 0, none⟩ = some (.slice none 0 0) := cell_on (by simp [go_sem]) b1
  have k1 : w1.cell? ⟨w.heap.size + 1, 1, none⟩ = some (.slice none 0 0) := cell_on (by simp [go_sem]) b1
  have kf : ∀ o, w1.frozen? ⟨w.heap.size + 1, o, none⟩ = false := fun o => by rw [b1.frozen (p := ⟨w.heap.size + 1, o, none⟩) (by simp)]; simp [go_sem]
  have Hg : Hid _ := hg2
  clear b1 hg2 ha h0
  go_wp2
  go_loopw [14] (fun i wr => ∃ (k : Nat) (c : Array Value), k ≤ m ∧ i = .int .i64 k ∧ wr.heap[g]? = some (.cells c 9 (0, 0)) ∧ strs n (doneS S T U k) c ∧ Below w.heap.size w wr ∧ Below (w.heap.size + 2) w1 wr) (fun i _ => m - (intOf i).toNat)
  case atStart => exact ⟨0, cur, Nat.zero_le _, rfl, Hg.out, hst0, g1, Below.refl _ _⟩
  case round =>
    obtain ⟨k, c, hk, rfl, hB, hst, hb, hb1⟩ := hrel
    by_cases hlt : k < m
    · obtain ⟨b', off', rfl, hcell⟩ := (ha'.below hb) (by omega)
      obtain ⟨hck, hck2⟩ := hcell k hlt
      obtain ⟨ht0, ht1, ht2⟩ := fitB_spec (Hf.out k hlt)
      obtain ⟨t, ht⟩ : ∃ t : Nat, T k = t := ⟨(T k).toNat, by omega⟩
      have htn : t < n := by omega
      have hold8 := doneS_size Hs.out Hf.out k hk t htn
      have hx0 := hst t htn
      have hold := cell_of_block hB hx0
      have hfree := free_of_block (i := t) hB
      have hgl := lt_of_cell hold
      have HT : Hid (T k = t) := ht
      have HB : Hid _ := hB
      rw [ht] at hck
      clear ht hB hcell ht0 ht1 hx0 ha'
      have hcd : strs n (upd (doneS S T U k) t (U k)) c → strs n (doneS S T U (k + 1)) c := fun h => by show strs n (upd (doneS S T U k) (T k) (U k)) c; rw [HT.out]; exact h
      by_cases heq : U k = doneS S T U k t
      · obtain ⟨b0, b1, b2, b3, b4, b5, b6, b7, hu⟩ := bytes8 ht2
        have hv : doneS S T U k t = ⟨#[b0, b1, b2, b3, b4, b5, b6, b7]⟩ := by rw [← heq]; exact hu
        have hne : ∀ w, (binOp .neq 107 (.agg #[.int .u8 b0.toNat, .int .u8 b1.toNat, .int .u8 b2.toNat, .int .u8 b3.toNat, .int .u8 b4.toNat, .int .u8 b5.toNat, .int .u8 b6.toNat, .int .u8 b7.toNat]) (.agg #[.int .u8 b0.toNat, .int .u8 b1.toNat, .int .u8 b2.toNat, .int .u8 b3.toNat, .int .u8 b4.toNat, .int .u8 b5.toNat, .int .u8 b6.toNat, .int .u8 b7.toNat])).run Tryd.prog w = .ok (.bool false) w := by
          intro w
          rw [run_arr_neq Tryd.underlying107 Tryd.underlying5 size5 _ _ (byte8 (U k)) (byte8 (doneS S T U k t)) (fun i hi => by rw [hu, hv]; exact ⟨cells8 _ _ _ _ _ _ _ _ i hi, cells8 _ _ _ _ _ _ _ _ i hi⟩) w, ← heq, same8_self]
          rfl
        have HU : Hid _ := hu
        rw [hu] at hck2
        rw [hv] at hold
        have HE : Hid _ := heq
        clear heq hu hv ht2 hold8
        go_wp2_with fail
        refine (bos_any b0 b1 b2 b3 b4 b5 b6 b7 _).mono ?_
        rintro e w2 ⟨rfl, b2'⟩
        have j0 := cell_on (cell_new0 wr _ _ _) b2'
        have j1 := cell_on (cell_new1 wr _ _ _) b2'
        have jo := cell_on (hold_on hold) b2'
        have jf : w2.frozen? ⟨g, t, none⟩ = false := by rw [b2'.frozen (p := ⟨g, t, none⟩) (by simp; omega), (below_alloc wr _).frozen (p := ⟨g, t, none⟩) hgl]; exact hfree
        have z2 : wr.heap.size < w2.heap.size := lt_of_cell j0
        have z3 : g < w2.heap.size := by omega
        go_wp2
        obtain ⟨w3, hw3⟩ : ∃ w3, w3 = w2.alloc (.cells #[.int .u8 b0.toNat, .int .u8 b1.toNat, .int .u8 b2.toNat, .int .u8 b3.toNat, .int .u8 b4.toNat, .int .u8 b5.toNat, .int .u8 b6.toNat, .int .u8 b7.toNat] 107) := ⟨_, rfl⟩
        rw [← hw3]
        have b3' : Below wr.heap.size wr w3 := by rw [hw3]; exact Below.comp (Below.comp (below_alloc _ _) b2') (below_alloc _ _)
        have n0 : w3.cell? ⟨w2.heap.size, 0, none⟩ = some (.int .u8 b0.toNat) := by rw [hw3]; simp [go_sem]
        have n1 : w3.cell? ⟨w2.heap.size, 1, none⟩ = some (.int .u8 b1.toNat) := by rw [hw3]; simp [go_sem]
        have n2 : w3.cell? ⟨w2.heap.size, 2, none⟩ = some (.int .u8 b2.toNat) := by rw [hw3]; simp [go_sem]
        have n3 : w3.cell? ⟨w2.heap.size, 3, none⟩ = some (.int .u8 b3.toNat) := by rw [hw3]; simp [go_sem]
        have n4 : w3.cell? ⟨w2.heap.size, 4, none⟩ = some (.int .u8 b4.toNat) := by rw [hw3]; simp [go_sem]
        have n5 : w3.cell? ⟨w2.heap.size, 5, none⟩ = some (.int .u8 b5.toNat) := by rw [hw3]; simp [go_sem]
        have n6 : w3.cell? ⟨w2.heap.size, 6, none⟩ = some (.int .u8 b6.toNat) := by rw [hw3]; simp [go_sem]
        have n7 : w3.cell? ⟨w2.heap.size, 7, none⟩ = some (.int .u8 b7.toNat) := by rw [hw3]; simp [go_sem]
        have j0' : w3.cell? ⟨wr.heap.size, 0, none⟩ = some (.int .i64 t) := by rw [hw3]; exact hold_on j0
        have jo' : w3.cell? ⟨g, t, none⟩ = some (.string ⟨#[b0, b1, b2, b3, b4, b5, b6, b7]⟩) := by rw [hw3]; exact hold_on jo
        have jf' : w3.frozen? ⟨g, t, none⟩ = false := by rw [hw3, (below_alloc w2 _).frozen (p := ⟨g, t, none⟩) z3]; exact jf
        clear hw3 j0 j1 jo jf hck hck2 hold hfree b2'
        have htn' : (t : Int) < (n : Int) := by omega
        have r0 := cell_regrown n0
        have r1 := cell_regrown n1
        have r2 := cell_regrown n2
        have r3 := cell_regrown n3
        have r4 := cell_regrown n4
        have r5 := cell_regrown n5
        have r6 := cell_regrown n6
        have r7 := cell_regrown n7
        have r8 := cell_regrown j0'
        have r9 := cell_regrown jo'
        refine wp_region_quiet_below (by kernel_rfl) (by kernel_rfl) ?_
        repeat (quiet_step (exact Calls.regrown_of (bos_any b0 b1 b2 b3 b4 b5 b6 b7 _)))
        refine wpQuiet_nil ?_
        intro _ hw'
        obtain ⟨⟨dq, osq⟩, hw''⟩ := hw'
        subst hw''
        have b4' := below_regrown w3 dq osq
        generalize Go.Sort.grow (redrawn w3 dq) osq = w4 at b4' ⊢
        clear r0 r1 r2 r3 r4 r5 r6 r7 r8 r9
        replace n0 := cell_on n0 b4'
        replace n1 := cell_on n1 b4'
        replace n2 := cell_on n2 b4'
        replace n3 := cell_on n3 b4'
        replace n4 := cell_on n4 b4'
        replace n5 := cell_on n5 b4'
        replace n6 := cell_on n6 b4'
        replace n7 := cell_on n7 b4'
        replace jf' := (b4'.frozen (p := ⟨g, t, none⟩) (lt_of_cell jo')).trans jf'
        replace j0' := cell_on j0' b4'
        replace jo' := cell_on jo' b4'
        have b5' := Below.comp b3' b4'
        clear b3' b4' hne n0 n1 n2 n3 n4 n5 n6 n7
        go_wp2
        go_roundw
        case rel =>
          refine ⟨k + 1, c, by omega, by go_num, (b5'.block _ hgl).trans HB.out, ?_, Below.comp hb b5', hb1.trans (b5'.mono (by have := hb1.size; have := g1.size; omega))⟩
          apply hcd
          rw [HE.out]
          intro i hi
          have := hst i hi
          unfold upd
          split
          · have e : i = t := by omega
            rw [e] at this
            rw [e]; exact this
          · exact this
        case measure => simp [intOf]; omega
      · have hns : sameIn (byte8 (U k)) (byte8 (doneS S T U k t)) 0 8 = false := by
          cases hq : sameIn (byte8 (U k)) (byte8 (doneS S T U k t)) 0 8
          · rfl
          · exact absurd (same8_eq ht2 hold8 hq) heq
        obtain ⟨b0, b1, b2, b3, b4, b5, b6, b7, hu⟩ := bytes8 ht2
        obtain ⟨c0, c1, c2, c3, c4, c5, c6, c7, hv⟩ := bytes8 hold8
        have hne : ∀ w, (binOp .neq 107 (.agg #[.int .u8 b0.toNat, .int .u8 b1.toNat, .int .u8 b2.toNat, .int .u8 b3.toNat, .int .u8 b4.toNat, .int .u8 b5.toNat, .int .u8 b6.toNat, .int .u8 b7.toNat]) (.agg #[.int .u8 c0.toNat, .int .u8 c1.toNat, .int .u8 c2.toNat, .int .u8 c3.toNat, .int .u8 c4.toNat, .int .u8 c5.toNat, .int .u8 c6.toNat, .int .u8 c7.toNat])).run Tryd.prog w = .ok (.bool true) w := by
          intro w
          rw [run_arr_neq Tryd.underlying107 Tryd.underlying5 size5 _ _ (byte8 (U k)) (byte8 (doneS S T U k t)) (fun i hi => by rw [hu, hv]; exact ⟨cells8 _ _ _ _ _ _ _ _ i hi, cells8 _ _ _ _ _ _ _ _ i hi⟩) w, hns]
          rfl
        have HU : Hid _ := hu
        rw [hu] at hck2
        rw [hv] at hold
        clear hns heq hu hv ht2 hold8
        go_wp2_with fail
        refine (bos_any b0 b1 b2 b3 b4 b5 b6 b7 _).mono ?_
        rintro e w2 ⟨rfl, b2'⟩
        have j0 := cell_on (cell_new0 wr _ _ _) b2'
        have j1 := cell_on (cell_new1 wr _ _ _) b2'
        have jo := cell_on (hold_on hold) b2'
        have jf : w2.frozen? ⟨g, t, none⟩ = false := by rw [b2'.frozen (p := ⟨g, t, none⟩) (by simp; omega), (below_alloc wr _).frozen (p := ⟨g, t, none⟩) hgl]; exact hfree
        have z2 : wr.heap.size < w2.heap.size := lt_of_cell j0
        have z3 : g < w2.heap.size := by omega
        go_wp2
        obtain ⟨w3, hw3⟩ : ∃ w3, w3 = w2.alloc (.cells #[.int .u8 b0.toNat, .int .u8 b1.toNat, .int .u8 b2.toNat, .int .u8 b3.toNat, .int .u8 b4.toNat, .int .u8 b5.toNat, .int .u8 b6.toNat, .int .u8 b7.toNat] 107) := ⟨_, rfl⟩
        rw [← hw3]
        have b3' : Below wr.heap.size wr w3 := by rw [hw3]; exact Below.comp (Below.comp (below_alloc _ _) b2') (below_alloc _ _)
        have n0 : w3.cell? ⟨w2.heap.size, 0, none⟩ = some (.int .u8 b0.toNat) := by rw [hw3]; simp [go_sem]
        have n1 : w3.cell? ⟨w2.heap.size, 1, none⟩ = some (.int .u8 b1.toNat) := by rw [hw3]; simp [go_sem]
        have n2 : w3.cell? ⟨w2.heap.size, 2, none⟩ = some (.int .u8 b2.toNat) := by rw [hw3]; simp [go_sem]
        have n3 : w3.cell? ⟨w2.heap.size, 3, none⟩ = some (.int .u8 b3.toNat) := by rw [hw3]; simp [go_sem]
        have n4 : w3.cell? ⟨w2.heap.size, 4, none⟩ = some (.int .u8 b4.toNat) := by rw [hw3]; simp [go_sem]
        have n5 : w3.cell? ⟨w2.heap.size, 5, none⟩ = some (.int .u8 b5.toNat) := by rw [hw3]; simp [go_sem]
        have n6 : w3.cell? ⟨w2.heap.size, 6, none⟩ = some (.int .u8 b6.toNat) := by rw [hw3]; simp [go_sem]
        have n7 : w3.cell? ⟨w2.heap.size, 7, none⟩ = some (.int .u8 b7.toNat) := by rw [hw3]; simp [go_sem]
        have j0' : w3.cell? ⟨wr.heap.size, 0, none⟩ = some (.int .i64 t) := by rw [hw3]; exact hold_on j0
        have jo' : w3.cell? ⟨g, t, none⟩ = some (.string ⟨#[c0, c1, c2, c3, c4, c5, c6, c7]⟩) := by rw [hw3]; exact hold_on jo
        have jf' : w3.frozen? ⟨g, t, none⟩ = false := by rw [hw3, (below_alloc w2 _).frozen (p := ⟨g, t, none⟩) z3]; exact jf
        clear hw3 j0 j1 jo jf hck hck2 hold hfree b2'
        have htn' : (t : Int) < (n : Int) := by omega
        have r0 := cell_regrown n0
        have r1 := cell_regrown n1
        have r2 := cell_regrown n2
        have r3 := cell_regrown n3
        have r4 := cell_regrown n4
        have r5 := cell_regrown n5
        have r6 := cell_regrown n6
        have r7 := cell_regrown n7
        have r8 := cell_regrown j0'
        have r9 := cell_regrown jo'
        refine wp_region_quiet_below (by kernel_rfl) (by kernel_rfl) ?_
        repeat (quiet_step (exact Calls.regrown_of (bos_any c0 c1 c2 c3 c4 c5 c6 c7 _)))
        refine wpQuiet_nil ?_
        intro _ hw'
        obtain ⟨⟨dq, osq⟩, hw''⟩ := hw'
        subst hw''
        have b4' := below_regrown w3 dq osq
        generalize Go.Sort.grow (redrawn w3 dq) osq = w4 at b4' ⊢
        clear r0 r1 r2 r3 r4 r5 r6 r7 r8 r9
        replace n0 := cell_on n0 b4'
        replace n1 := cell_on n1 b4'
        replace n2 := cell_on n2 b4'
        replace n3 := cell_on n3 b4'
        replace n4 := cell_on n4 b4'
        replace n5 := cell_on n5 b4'
        replace n6 := cell_on n6 b4'
        replace n7 := cell_on n7 b4'
        replace jf' := (b4'.frozen (p := ⟨g, t, none⟩) (lt_of_cell jo')).trans jf'
        replace j0' := cell_on j0' b4'
        replace jo' := cell_on jo' b4'
        have b5' := Below.comp b3' b4'
        have hconv : (convert 98 9 (.slice (some ⟨w2.heap.size, 0, none⟩) 8 8)).run Tryd.prog w4.drew = .ok (.string ⟨#[b0, b1, b2, b3, b4, b5, b6, b7]⟩) w4.drew :=
          run_convert_bytes_back (P := Tryd.prog) w4.drew 98 9 5 ⟨w2.heap.size, 0, none⟩ 8 [b0, b1, b2, b3, b4, b5, b6, b7] Tryd.underlying98 Tryd.underlying5 Tryd.underlying9 (fun j hj => by
            match j, hj with
            | 0, _ => exact n0
            | 1, _ => exact n1
            | 2, _ => exact n2
            | 3, _ => exact n3
            | 4, _ => exact n4
            | 5, _ => exact n5
            | 6, _ => exact n6
            | 7, _ => exact n7)
        clear b3' b4' hne n0 n1 n2 n3 n4 n5 n6 n7
        go_wp2
        go_region
        go_wp2
        go_roundw
        case rel =>
          refine ⟨k + 1, c.setIfInBounds t (.string ⟨#[b0, b1, b2, b3, b4, b5, b6, b7]⟩), by omega, by go_num, block_set ((b5'.block _ hgl).trans HB.out), ?_, ((Below.comp hb b5').setCell (p := ⟨g, t, none⟩) (by simp; omega) _).drew, ((hb1.trans (b5'.mono (by have := hb1.size; have := g1.size; omega))).setCell (p := ⟨g, t, none⟩) hg0' _).drew⟩
          show strs n (upd (doneS S T U k) (T k) (U k)) _
          rw [HT.out, HU.out]
          exact strs_set hst (strs_size hst) htn _
        case measure => simp [intOf]; omega
    · have q0 := (hb1.cell (p := ⟨w.heap.size + 1, 0, none⟩) (by simp)).trans k0
      have q1 := (hb1.cell (p := ⟨w.heap.size + 1, 1, none⟩) (by simp)).trans k1
      have qf0 := (hb1.frozen (p := ⟨w.heap.size + 1, 0, none⟩) (by simp)).trans (kf 0)
      have qf1 := (hb1.frozen (p := ⟨w.heap.size + 1, 1, none⟩) (by simp)).trans (kf 1)
      have HB : Hid _ := hB
      clear k0 k1 kf hB
      have hkn : k = m := by omega
      subst hkn
      go_wp2
      refine bodyPost_ret (v := .agg #[.slice (some ⟨g, 0, none⟩) n cx, .slice none 0 0]) (by simp [results, Tryd.results74, go_sem, q0, q1]) rfl ⟨?_, _, _, rfl, ?_⟩
      · exact (hb.setCell (p := ⟨w.heap.size + 1, 0, none⟩) (by simp) _).setCell (p := ⟨w.heap.size + 1, 1, none⟩) (by simp) _
      · exact .inr ⟨g, c, by omega, by have := (Array.getElem?_eq_some_iff.1 HB.out).1; simpa using this, rfl, (((Out.refl (w.heap.size + 1) (w.heap.size + 2) wr).setCell (by omega) (by omega) _ _).setCell (by omega) (by omega) _ _).block g (Array.getElem?_eq_some_iff.1 HB.out).1 (by omega) |>.trans HB.out, hst⟩
/- QK6d -/
set_option maxHeartbeats 800000 in
theorem specFlush_any (a a' : Option Addr) (n m ca ca' : Nat) (S : Nat → ByteArray) (T : Nat → Int) (U : Nat → ByteArray) (w : World) (hn : n ≤ 1048576) (hm : m ≤ 1048576)
    (ha : At w a n fun i => .string (S i)) (ha' : At2 w a' m T U) (hs : ∀ i, i < n → (S i).size ≤ 9223372036854775807) (hs' : ∀ i, i < m → (U i).size ≤ 9223372036854775807) :
    Calls Tryd.prog 69 #[.agg #[.slice a n ca, .slice a' m ca']] w fun e w' => Below w.heap.size w w' ∧ ∃ x cx y cy, e = .returned (.tuple #[.agg #[.slice x (flushN n m S T U) cx, .slice y 0 cy], .bool (goodB n m S T U)]) ∧
      MineD w' w.heap.size w'.heap.size x y (flushN n m S T U) 0 (doneS S T U m) T U := by
  have h0 : ∀ o1 o2, Below w.heap.size w ((w.alloc o1).alloc o2) := fun o1 o2 => (below_alloc _ _).alloc (by simp) _
  cases hg : goodB n m S T U
  · have e0 : flushN n m S T U = 0 := by simp [flushN, hg]
    rw [e0]
    go_enter Tryd.func69, Tryd.ntmps69
    go_wp2_with (go_at_call 44; refine (specGood_any a a' n m ca ca' S T U _ hn hm (ha.below (h0 _ _)) (ha'.below (h0 _ _)) hs hs').mono ?_; rintro e w1 ⟨rfl, b1⟩; obtain ⟨c1, f1⟩ := bcell b1)
    refine bodyPost_ret (v := .tuple #[.agg #[.slice none 0 0, .slice none 0 0], .bool false]) (by simp [results, Tryd.results69, go_sem, c1]) rfl ⟨?_, none, 0, none, 0, rfl, mine_none _ _ _ _ _ _, mine_none _ _ _ _ _ _⟩
    have g1 := Below.comp (h0 _ _) b1
    refine (g1.setCell ?_ _).setCell ?_ _ <;> simp
  · have e0 : flushN n m S T U = n := by simp [flushN, hg]
    rw [e0]
    obtain ⟨q1, q2, q3, q4, q5⟩ := goodB_spec hg
    go_enter Tryd.func69, Tryd.ntmps69
    go_wp2_with fail
    refine (specGood_any a a' n m ca ca' S T U _ hn hm (ha.below (h0 _ _)) (ha'.below (h0 _ _)) hs hs').mono ?_
    rintro e w1 ⟨rfl, b1⟩
    have g1 := Below.comp (h0 _ _) b1
    obtain ⟨c1, f1⟩ := bcell b1
    obtain ⟨z0, z1⟩ : w.heap.size < w1.heap.size ∧ w.heap.size + 1 < w1.heap.size := by have := b1.size; simp at this; omega
    clear b1 h0
    go_wp2_with fail
    refine (l1Done_any a a' n m ca ca' S T U _ q1 q2 (by omega) (ha.below g1) (ha'.below g1) q5).mono ?_
    rintro e w2 ⟨b2, x, cx, rfl, mx⟩
    have g2 := Below.comp g1 b2
    obtain ⟨c2, f2⟩ := bcell b2
    go_wp2
    refine bodyPost_ret (v := .tuple #[.agg #[.slice x n cx, .slice none 0 0], .bool true]) (by simp [results, Tryd.results69, go_sem, c1, c2, z1]) rfl ⟨?_, x, cx, none, 0, rfl, ?_, mine_none _ _ _ _ _ _⟩
    · refine (g2.setCell ?_ _).setCell ?_ _ <;> simp
    · exact (mx.out (((Out.refl (w.heap.size + 1) (w.heap.size + 2) w2).setCell (by omega) (by omega) _ _).setCell (by omega) (by omega) _ _) (.inr (by omega))).mono g1.size (by simp)
set_option maxHeartbeats 800000 in
theorem implFlush_any (a a' : Option Addr) (n m ca ca' : Nat) (S : Nat → ByteArray) (T : Nat → Int) (U : Nat → ByteArray) (w : World) (hn : n ≤ 1048576) (hm : m ≤ 1048576)
    (ha : At w a n fun i => .string (S i)) (ha' : At2 w a' m T U) (hs : ∀ i, i < n → (S i).size ≤ 9223372036854775807) (hs' : ∀ i, i < m → (U i).size ≤ 9223372036854775807) :
    Calls Tryd.prog 94 #[.agg #[.slice a n ca, .slice a' m ca']] w fun e w' => Below w.heap.size w w' ∧ ∃ x cx y cy, e = .returned (.tuple #[.agg #[.slice x (flushN n m S T U) cx, .slice y 0 cy], .bool (goodB n m S T U)]) ∧
      MineD w' w.heap.size w'.heap.size x y (flushN n m S T U) 0 (doneS S T U m) T U := by
  have h0 : ∀ o1 o2, Below w.heap.size w ((w.alloc o1).alloc o2) := fun o1 o2 => (below_alloc _ _).alloc (by simp) _
  cases hg : goodB n m S T U
  · have e0 : flushN n m S T U = 0 := by simp [flushN, hg]
    rw [e0]
    go_enter Tryd.func94, Tryd.ntmps94
    go_wp2_with (go_at_call 99; refine (implGood_any a a' n m ca ca' S T U _ hn hm (ha.below (h0 _ _)) (ha'.below (h0 _ _)) hs hs').mono ?_; rintro e w1 ⟨rfl, b1⟩; obtain ⟨c1, f1⟩ := bcell b1)
    refine bodyPost_ret (v := .tuple #[.agg #[.slice none 0 0, .slice none 0 0], .bool false]) (by simp [results, Tryd.results94, go_sem, c1]) rfl ⟨?_, none, 0, none, 0, rfl, mine_none _ _ _ _ _ _, mine_none _ _ _ _ _ _⟩
    have g1 := Below.comp (h0 _ _) b1
    refine (g1.setCell ?_ _).setCell ?_ _ <;> simp
  · have e0 : flushN n m S T U = n := by simp [flushN, hg]
    rw [e0]
    obtain ⟨q1, q2, q3, q4, q5⟩ := goodB_spec hg
    go_enter Tryd.func94, Tryd.ntmps94
    go_wp2_with fail
    refine (implGood_any a a' n m ca ca' S T U _ hn hm (ha.below (h0 _ _)) (ha'.below (h0 _ _)) hs hs').mono ?_
    rintro e w1 ⟨rfl, b1⟩
    have g1 := Below.comp (h0 _ _) b1
    obtain ⟨c1, f1⟩ := bcell b1
    obtain ⟨z0, z1⟩ : w.heap.size < w1.heap.size ∧ w.heap.size + 1 < w1.heap.size := by have := b1.size; simp at this; omega
    clear b1 h0
    go_wp2_with fail
    refine (settle_any a a' a' n m m ca ca' ca' S T U _ q1 q2 (by omega) (ha.below g1) (ha'.below g1) q4 q5).mono ?_
    rintro e w2 ⟨b2, x, cx, rfl, mx⟩
    have g2 := Below.comp g1 b2
    obtain ⟨c2, f2⟩ := bcell b2
    go_wp2
    refine bodyPost_ret (v := .tuple #[.agg #[.slice x n cx, .slice none 0 0], .bool true]) (by simp [results, Tryd.results94, go_sem, c1, c2, z1]) rfl ⟨?_, x, cx, none, 0, rfl, ?_, mine_none _ _ _ _ _ _⟩
    · refine (g2.setCell ?_ _).setCell ?_ _ <;> simp
    · exact (mx.out (((Out.refl (w.heap.size + 1) (w.heap.size + 2) w2).setCell (by omega) (by omega) _ _).setCell (by omega) (by omega) _ _) (.inr (by omega))).mono g1.size (by simp)
/- QW2d -/
set_option maxHeartbeats 1600000 in
theorem l1Own_any (a a' : Option Addr) (n m ca ca' : Nat) (S : Nat → ByteArray) (T : Nat → Int) (U : Nat → ByteArray) (w : World) (hn : n ≤ 1048576) (hm : m ≤ 1048576)
    (ha : At w a n fun i => .string (S i)) (ha' : At2 w a' m T U) :
    Calls Tryd.prog 87 #[.agg #[.slice a n ca, .slice a' m ca']] w fun e w' => Below w.heap.size w w' ∧ ∃ x cx y cy, e = .returned (.agg #[.slice x n cx, .slice y m cy]) ∧
      w'.ownsRow w.heap.size 9 1 (.slice x n cx) n (strCells n S) ∧ w'.ownsRow w.heap.size 63 2 (.slice y m cy) m (wrtCells m T U) := by
  have g0 : ∀ o1 o2 o3, Below w.heap.size w (((w.alloc o1).alloc o2).alloc o3) := fun o1 o2 o3 => ((below_alloc _ _).alloc (by simp) _).alloc (by simp <;> omega) _
  go_enter Tryd.func87, Tryd.ntmps87
  go_wp2_with (first | (at_builtin; (refine wpList_append_src rfl (.tmp 3) (.tmp 5) 22 rfl (w.heap.size + 2) 9 _ 1 16 Tryd.underlying22 info9 rfl (by decide) (.slice (some ⟨w.heap.size + 1 + 1, 0, none⟩) 0 0) 0 [] rfl (owns_made 9 1 (by simp) (by simp)) a n ca (strCells n S) rfl (by rw [strCells_len]; omega) (src1 (ha.below (g0 _ _ _))) (strCells_one _ _) (by omega) (by omega) (by simp <;> omega) ?_); intro v1 w1 hown1 hgrow1; simp only [Nat.zero_add, List.nil_append] at hown1; obtain ⟨x, cx, hv1⟩ := owns_form hown1; subst hv1; have hd1 : w1.heap[w.heap.size]? = some (.cells #[.slice a n ca, .slice a' m ca'] 32 (0, 0)) := block_grown hgrow1 (block_old (block_old (block_new rfl))) (by simp [Value.ownBlock] <;> omega); have hr1 : w1.heap[w.heap.size + 1]? = some (.cells #[.slice none 0 0, .slice none 0 0] 32 (0, 0)) := block_grown hgrow1 (block_old (block_new (by simp))) (by simp [Value.ownBlock]); have z1 : w.heap.size + 3 ≤ w1.heap.size := (by have := hgrow1.size; simp at this; omega); have bl1 : Below (w.heap.size + 2) (((w.alloc (.cells #[.slice a n ca, .slice a' m ca'] 32)).alloc (.cells #[.slice none 0 0, .slice none 0 0] 32)).alloc (.cells #[] 9)) w1 := Grown.below hgrow1 (by simp) (by intro k hk; simp [Value.ownBlock] at hk; omega); have cc0 : w1.cell? ⟨w.heap.size, 0, none⟩ = some (.slice a n ca) := cell_of_block hd1 rfl; have cc1 : w1.cell? ⟨w.heap.size, 1, none⟩ = some (.slice a' m ca') := cell_of_block hd1 rfl; have ff0 := free_of_block (i := 0) hd1; have zz : w.heap.size < w1.heap.size := (by omega); have HD1 : Hid _ := hd1; have HR1 : Hid _ := hr1; have HG1 : Hid _ := hgrow1; clear hd1 hr1 hgrow1) | (at_builtin; (refine wpList_append_src rfl (.tmp 8) (.tmp 10) 30 rfl (w.heap.size + 2) 63 _ 2 24 Tryd.underlying30 info42 rfl (by decide) (.slice (some ⟨w1.heap.size, 0, none⟩) 0 0) 0 [] rfl (owns_made 63 2 (by simp <;> omega) (by simp)) a' m ca' (wrtCells m T U) rfl (by rw [wrtCells_len]) (src2 (ha'.below ((((g0 _ _ _).trans (bl1.mono (by omega))).setCell (p := ⟨w.heap.size, 0, none⟩) (by simp) _).alloc (by simp <;> omega) _))) (wrtCells_one _ _ _) (by omega) (by omega) (by simp <;> omega) ?_; intro v2 w2 hown2 hgrow2; simp only [Nat.zero_add, List.nil_append] at hown2; obtain ⟨y, cy, hv2⟩ := owns_form hown2; subst hv2; have hd2 : w2.heap[w.heap.size]? = some (.cells #[.slice x n cx, .slice a' m ca'] 32 (0, 0)) := block_grown hgrow2 (block_old (block_set HD1.out)) (by simp [Value.ownBlock] <;> omega); have hr2 : w2.heap[w.heap.size + 1]? = some (.cells #[.slice none 0 0, .slice none 0 0] 32 (0, 0)) := block_grown hgrow2 (block_old (block_else (by omega) HR1.out)) (by simp [Value.ownBlock] <;> omega); have hx2 : w2.ownsRow (w.heap.size + 2) 9 1 (.slice x n cx) n (strCells n S) := owns_past (ownsRow_setCell_below hown1 (a := ⟨w.heap.size, 0, none⟩) (by simp) _) hgrow2 (by simp [Value.ownBlock]); have bl2 : Below (w.heap.size + 2) ((w1.setCell ⟨w.heap.size, 0, none⟩ (.slice x n cx)).alloc (.cells #[] 63)) w2 := Grown.below hgrow2 (by simp <;> omega) (by intro k hk; simp [Value.ownBlock] at hk; omega); have dd0 : w2.cell? ⟨w.heap.size, 0, none⟩ = some (.slice x n cx) := cell_of_block hd2 rfl; have dd1 : w2.cell? ⟨w.heap.size, 1, none⟩ = some (.slice a' m ca') := cell_of_block hd2 rfl; have gf1 := free_of_block (i := 1) hd2; have rr0 : w2.cell? ⟨w.heap.size + 1, 0, none⟩ = some (.slice none 0 0) := cell_of_block hr2 rfl; have rr1 : w2.cell? ⟨w.heap.size + 1, 1, none⟩ = some (.slice none 0 0) := cell_of_block hr2 rfl; have rf0 := free_of_block (i := 0) hr2; have rf1 := free_of_block (i := 1) hr2; clear hd2 hr2 hgrow2 cc0 cc1 ff0)))
  refine bodyPost_ret (v := .agg #[.slice x n cx, .slice y m cy]) (by simp [results, Tryd.results87, go_sem, rr0, rr1]) rfl ⟨?_, x, cx, y, cy, rfl, ?_, ?_⟩
  · have hb2 : Below w.heap.size w w2 := ((((g0 _ _ _).trans (bl1.mono (by omega))).setCell (p := ⟨w.heap.size, 0, none⟩) (by simp) _).alloc (by simp <;> omega) _).trans (bl2.mono (by omega))
    refine ((hb2.setCell ?_ _).setCell ?_ _).setCell ?_ _ <;> simp
  · have h3 := ownsRow_setCell_below (ownsRow_setCell_below (ownsRow_setCell_below hx2 (a := ⟨w.heap.size, 1, none⟩) (by simp) (.slice y m cy)) (a := ⟨w.heap.size + 1, 0, none⟩) (by simp) (.slice x n cx)) (a := ⟨w.heap.size + 1, 1, none⟩) (by simp) (.slice y m cy)
    exact owns_mono h3 (by omega)
  · have h3 := ownsRow_setCell_below (ownsRow_setCell_below (ownsRow_setCell_below hown2 (a := ⟨w.heap.size, 1, none⟩) (by simp) (.slice y m cy)) (a := ⟨w.heap.size + 1, 0, none⟩) (by simp) (.slice x n cx)) (a := ⟨w.heap.size + 1, 1, none⟩) (by simp) (.slice y m cy)
    exact owns_mono h3 (by omega)
/- QW3d -/
set_option maxHeartbeats 1600000 in
theorem specWrite_any (a a' : Option Addr) (n m ca ca' : Nat) (S : Nat → ByteArray) (T : Nat → Int) (U : Nat → ByteArray) (t : Int) (u : ByteArray) (w : World) (hn : n ≤ 1048576) (hm : m ≤ 1048576)
    (ha : At w a n fun i => .string (S i)) (ha' : At2 w a' m T U) (hs : ∀ i, i < n → (S i).size ≤ 9223372036854775807) (hs' : ∀ i, i < m → (U i).size ≤ 9223372036854775807) (hu : u.size ≤ 9223372036854775807) :
    Calls Tryd.prog 90 #[.agg #[.slice a n ca, .slice a' m ca'], .agg #[.int .i64 t, .string u]] w fun e w' => DevRes w w' e (wrN n m S T U t u) (wrM n m S T U t u) (wrOK n m S T U t u) S (setT T m t) (setU U m u) := by
  have h0 : ∀ o1 o2 o3, Below w.heap.size w (((w.alloc o1).alloc o2).alloc o3) := fun o1 o2 o3 => ((below_alloc _ _).alloc (by simp) _).alloc (by simp; omega) _
  cases hok : wrOK n m S T U t u
  · have e1 : wrN n m S T U t u = 0 := by simp [wrN, hok]
    have e2 : wrM n m S T U t u = 0 := by simp [wrM, hok]
    rw [e1, e2]
    have hno := of_decide_eq_false hok
    clear hok e1 e2
    cases hg : goodB n m S T U
    · go_enter Tryd.func90, Tryd.ntmps90
      go_wp2_with (go_at_call 44; refine (specGood_any a a' n m ca ca' S T U _ hn hm (ha.below (h0 _ _ _)) (ha'.below (h0 _ _ _)) hs hs').mono ?_; rintro e w1 ⟨rfl, b1⟩; obtain ⟨c1, f1⟩ := bcell b1)
      refine bodyPost_ret (v := .tuple #[.agg #[.slice none 0 0, .slice none 0 0], .bool false]) (by simp [results, Tryd.results90, go_sem, c1]) rfl (DevRes.none ?_ _ _ _)
      refine ((Below.comp (h0 _ _ _) b1).setCell ?_ _).setCell ?_ _ <;> simp <;> omega
    · cases hf : fitB n t u
      · go_enter Tryd.func90, Tryd.ntmps90
        go_wp2_with (first | (go_at_call 44; refine (specGood_any a a' n m ca ca' S T U _ hn hm (ha.below (h0 _ _ _)) (ha'.below (h0 _ _ _)) hs hs').mono ?_; rintro e w1 ⟨rfl, b1⟩; obtain ⟨c1, f1⟩ := bcell b1; obtain ⟨z0, z1, z2⟩ : w.heap.size < w1.heap.size ∧ w.heap.size + 1 < w1.heap.size ∧ w.heap.size + 1 + 1 < w1.heap.size := (by have := b1.size; simp at this; omega)) | (go_at_call 82; refine (l1Write_any _ _ _ _ (by omega) hu).mono ?_; rintro e w2 ⟨rfl, b2⟩; obtain ⟨c2, f2⟩ := bcell b2))
        refine bodyPost_ret (v := .tuple #[.agg #[.slice none 0 0, .slice none 0 0], .bool false]) (by simp [results, Tryd.results90, go_sem, c1, c2, z2]) rfl (DevRes.none ?_ _ _ _)
        refine ((Below.comp (Below.comp (h0 _ _ _) b1) b2).setCell ?_ _).setCell ?_ _ <;> simp <;> omega
      · have h60 : ((m : Int) == 60) = true := by
          have hm60 : m = 60 := Decidable.byContradiction fun h => hno ⟨hg, hf, h⟩
          simp [hm60]
        go_enter Tryd.func90, Tryd.ntmps90
        go_wp2_with (first | (go_at_call 44; refine (specGood_any a a' n m ca ca' S T U _ hn hm (ha.below (h0 _ _ _)) (ha'.below (h0 _ _ _)) hs hs').mono ?_; rintro e w1 ⟨rfl, b1⟩; obtain ⟨c1, f1⟩ := bcell b1; obtain ⟨z0, z1, z2⟩ : w.heap.size < w1.heap.size ∧ w.heap.size + 1 < w1.heap.size ∧ w.heap.size + 1 + 1 < w1.heap.size := (by have := b1.size; simp at this; omega)) | (go_at_call 82; refine (l1Write_any _ _ _ _ (by omega) hu).mono ?_; rintro e w2 ⟨rfl, b2⟩; obtain ⟨c2, f2⟩ := bcell b2))
        refine bodyPost_ret (v := .tuple #[.agg #[.slice none 0 0, .slice none 0 0], .bool false]) (by simp [results, Tryd.results90, go_sem, c1, c2, z2]) rfl (DevRes.none ?_ _ _ _)
        refine ((Below.comp (Below.comp (h0 _ _ _) b1) b2).setCell ?_ _).setCell ?_ _ <;> simp <;> omega
  · have e1 : wrN n m S T U t u = n := by simp [wrN, hok]
    have e2 : wrM n m S T U t u = m + 1 := by simp [wrM, hok]
    rw [e1, e2]
    obtain ⟨hg, hf, h60'⟩ := of_decide_eq_true hok
    obtain ⟨q1, q2, q3, q4, q5⟩ := goodB_spec hg
    have h60 : ((m : Int) == 60) = false := by simp; omega
    clear hok e1 e2 q4 q5 h60'
    go_enter Tryd.func90, Tryd.ntmps90
    go_wp2_with fail
    refine (specGood_any a a' n m ca ca' S T U _ hn hm (ha.below (h0 _ _ _)) (ha'.below (h0 _ _ _)) hs hs').mono ?_
    rintro e w1 ⟨rfl, b1⟩
    have g := Below.comp (h0 _ _ _) b1
    have d1 : w1.heap[w.heap.size]? = some (.cells #[.slice a n ca, .slice a' m ca'] 32 (0, 0)) := (b1.block _ (by simp; omega)).trans (block_old (block_old (block_new rfl)))
    have v1 : w1.heap[w.heap.size + 1]? = some (.cells #[.int .i64 t, .string u] 63 (0, 0)) := (b1.block _ (by simp)).trans (block_old (block_new (by simp)))
    have r1 : w1.heap[w.heap.size + 2]? = some (.cells #[.slice none 0 0, .slice none 0 0] 32 (0, 0)) := (b1.block _ (by simp)).trans (block_new (by simp))
    have z : w.heap.size + 3 ≤ w1.heap.size := by have := b1.size; simp at this; omega
    have c0 : w1.cell? ⟨w.heap.size, 0, none⟩ = some (.slice a n ca) := cell_of_block d1 rfl
    have c1 : w1.cell? ⟨w.heap.size, 1, none⟩ = some (.slice a' m ca') := cell_of_block d1 rfl
    have c2 : w1.cell? ⟨w.heap.size + 1, 0, none⟩ = some (.int .i64 t) := cell_of_block v1 rfl
    have c3 : w1.cell? ⟨w.heap.size + 1, 1, none⟩ = some (.string u) := cell_of_block v1 rfl
    have D1 : Hid _ := d1
    have V1 : Hid _ := v1
    have R1 : Hid _ := r1
    clear d1 v1 r1 b1 h0
    go_wp2_with fail
    refine (l1Write_any _ _ _ _ (by omega) hu).mono ?_
    rintro e w2 ⟨rfl, b2⟩
    replace g := Below.comp g b2
    replace c0 := cell_on c0 b2
    replace c1 := cell_on c1 b2
    replace c2 := cell_on c2 b2
    replace c3 := cell_on c3 b2
    have D2 : Hid _ := (b2.block _ (by omega)).trans D1.out
    have V2 : Hid _ := (b2.block _ (by omega)).trans V1.out
    have R2 : Hid _ := (b2.block _ (by omega)).trans R1.out
    have s2 := b2.size
    clear b2 D1 V1 R1
    go_wp2_with fail
    refine (l1Own_any a a' n m ca ca' S T U _ hn hm (ha.below g) (ha'.below g)).mono ?_
    rintro e w3 ⟨b3, x, cx, y, cy, rfl, hox, hoy⟩
    replace g := Below.comp g b3
    have d3 : w3.heap[w.heap.size]? = some (.cells #[.slice a n ca, .slice a' m ca'] 32 (0, 0)) := (b3.block _ (by omega)).trans D2.out
    have v3 : w3.heap[w.heap.size + 1]? = some (.cells #[.int .i64 t, .string u] 63 (0, 0)) := (b3.block _ (by omega)).trans V2.out
    have r3 : w3.heap[w.heap.size + 2]? = some (.cells #[.slice none 0 0, .slice none 0 0] 32 (0, 0)) := (b3.block _ (by omega)).trans R2.out
    replace c0 := cell_on c0 b3
    replace c1 := cell_on c1 b3
    replace c2 := cell_on c2 b3
    replace c3 := cell_on c3 b3
    have f0 := free_of_block (i := 0) d3
    have f1 := free_of_block (i := 1) d3
    have s3 := b3.size
    have s3' : w.heap.size + 1 < w3.heap.size := by omega
    have s3'' : w.heap.size < w3.heap.size := by omega
    have D3 : Hid _ := d3
    have V3 : Hid _ := v3
    have R3 : Hid _ := r3
    have OX : Hid _ := hox
    have OY : Hid _ := hoy
    clear b3 D2 V2 R2 d3 v3 r3 hox hoy
    go_wp2_with (at_builtin; (refine wpList_append_src rfl (.tmp 27) (.tmp 29) 30 rfl (w.heap.size + 3) 63 _ 2 24 Tryd.underlying30 info42 rfl (by decide) (.slice y m cy) m (wrtCells m T U) rfl (World.ownsRow.alloc (ownsRow_setCell_below (ownsRow_setCell_below (owns_mono OY.out (show w.heap.size + 3 ≤ w2.heap.size by omega)) (a := ⟨w.heap.size, 0, none⟩) (by simp <;> omega) _) (a := ⟨w.heap.size, 1, none⟩) (by simp <;> omega) _) _) (some ⟨w3.heap.size, 0, none⟩) 1 1 [.int .i64 t, .string u] rfl rfl (.inr ⟨_, rfl, by simpa using new_two ((w3.setCell ⟨w.heap.size, 0, none⟩ (.slice x n cx)).setCell ⟨w.heap.size, 1, none⟩ (.slice y m cy)) (.int .i64 t) (.string u) 63⟩) (by intro q hq; simp at hq; rcases hq with rfl | rfl <;> rfl) (by omega) (by omega) (by simp <;> omega) ?_); intro v4 w4 hown4 hgrow4; obtain ⟨y4, cy4, hv4⟩ := owns_form hown4; subst hv4; have d4 : w4.heap[w.heap.size]? = some (.cells #[.slice x n cx, .slice y m cy] 32 (0, 0)) := block_grown hgrow4 (block_old (block_set (block_set D3.out))) (owns_off OY.out (by omega)); have r4 : w4.heap[w.heap.size + 2]? = some (.cells #[.slice none 0 0, .slice none 0 0] 32 (0, 0)) := block_grown hgrow4 (block_old (block_else (by omega) (block_else (by omega) R3.out))) (owns_off OY.out (by omega)); have e0 : w4.cell? ⟨w.heap.size, 0, none⟩ = some (.slice x n cx) := cell_of_block d4 rfl; have e1 : w4.cell? ⟨w.heap.size, 1, none⟩ = some (.slice y m cy) := cell_of_block d4 rfl; have ef := free_of_block (i := 1) d4; have e2 : w4.cell? ⟨w.heap.size + 2, 0, none⟩ = some (.slice none 0 0) := cell_of_block r4 rfl; have e3 : w4.cell? ⟨w.heap.size + 2, 1, none⟩ = some (.slice none 0 0) := cell_of_block r4 rfl; have eg0 := free_of_block (i := 0) r4; have eg1 := free_of_block (i := 1) r4; have ox4 : Hid (w4.ownsRow (w.heap.size + 3) 9 1 (.slice x n cx) n (strCells n S)) := owns_keep (World.ownsRow.alloc (ownsRow_setCell_below (ownsRow_setCell_below (owns_mono OX.out (show w.heap.size + 3 ≤ w2.heap.size by omega)) (a := ⟨w.heap.size, 0, none⟩) (by simp <;> omega) _) (a := ⟨w.heap.size, 1, none⟩) (by simp <;> omega) _) _) hgrow4 (owns_apart (e := 9) (f := 63) (by decide) OX.out OY.out); have bl4 : Hid (Below (w.heap.size + 3) _ w4) := Grown.below hgrow4 (by simp <;> omega) (by intro k hk; have := (World.ownsRow.lt OY.out k hk).1; omega); clear d4 r4 hgrow4 c0 c1 c2 c3 f0 f1)
    have hb4 : Below w.heap.size w w4 := (((g.setCell (p := ⟨w.heap.size, 0, none⟩) (by simp) _).setCell (p := ⟨w.heap.size, 1, none⟩) (by simp) _).alloc (by simp <;> omega) _).trans (bl4.out.mono (by omega))
    refine bodyPost_ret (v := .tuple #[.agg #[.slice x n cx, .slice y4 (m + 1) cy4], .bool true]) (by simp [results, Tryd.results90, go_sem, e2, e3]) rfl ⟨?_, x, cx, y4, cy4, rfl, ?_, ?_⟩
    · refine ((hb4.setCell ?_ _).setCell ?_ _).setCell ?_ _ <;> simp <;> omega
    · have h3 := ownsRow_setCell_below (ownsRow_setCell_below (ownsRow_setCell_below ox4.out (a := ⟨w.heap.size, 1, none⟩) (by simp <;> omega) (.slice y4 (m + 1) cy4)) (a := ⟨w.heap.size + 2, 0, none⟩) (by simp) (.slice x n cx)) (a := ⟨w.heap.size + 2, 1, none⟩) (by simp) (.slice y4 (m + 1) cy4)
      exact owns_strs (owns_mono h3 (by omega))
    · have h3 := ownsRow_setCell_below (ownsRow_setCell_below (ownsRow_setCell_below hown4 (a := ⟨w.heap.size, 1, none⟩) (by simp <;> omega) (.slice y4 (m + 1) cy4)) (a := ⟨w.heap.size + 2, 0, none⟩) (by simp) (.slice x n cx)) (a := ⟨w.heap.size + 2, 1, none⟩) (by simp) (.slice y4 (m + 1) cy4)
      rw [wrtCells_set] at h3
      exact owns_wrts (owns_mono h3 (by omega))
/- QW4d -/
set_option maxHeartbeats 1600000 in
theorem implWrite_any (a a' : Option Addr) (n m ca ca' : Nat) (S : Nat → ByteArray) (T : Nat → Int) (U : Nat → ByteArray) (t : Int) (u : ByteArray) (w : World) (hn : n ≤ 1048576) (hm : m ≤ 1048576)
    (ha : At w a n fun i => .string (S i)) (ha' : At2 w a' m T U) (hs : ∀ i, i < n → (S i).size ≤ 9223372036854775807) (hs' : ∀ i, i < m → (U i).size ≤ 9223372036854775807) (hu : u.size ≤ 9223372036854775807) :
    Calls Tryd.prog 93 #[.agg #[.slice a n ca, .slice a' m ca'], .agg #[.int .i64 t, .string u]] w fun e w' => DevRes w w' e (wrN n m S T U t u) (wrM n m S T U t u) (wrOK n m S T U t u) S (setT T m t) (setU U m u) := by
  have h0 : ∀ o1 o2 o3, Below w.heap.size w (((w.alloc o1).alloc o2).alloc o3) := fun o1 o2 o3 => ((below_alloc _ _).alloc (by simp) _).alloc (by simp; omega) _
  cases hok : wrOK n m S T U t u
  · have e1 : wrN n m S T U t u = 0 := by simp [wrN, hok]
    have e2 : wrM n m S T U t u = 0 := by simp [wrM, hok]
    rw [e1, e2]
    have hno := of_decide_eq_false hok
    clear hok e1 e2
    cases hg : goodB n m S T U
    · go_enter Tryd.func93, Tryd.ntmps93
      go_wp2_with (go_at_call 99; refine (implGood_any a a' n m ca ca' S T U _ hn hm (ha.below (h0 _ _ _)) (ha'.below (h0 _ _ _)) hs hs').mono ?_; rintro e w1 ⟨rfl, b1⟩; obtain ⟨c1, f1⟩ := bcell b1)
      refine bodyPost_ret (v := .tuple #[.agg #[.slice none 0 0, .slice none 0 0], .bool false]) (by simp [results, Tryd.results93, go_sem, c1]) rfl (DevRes.none ?_ _ _ _)
      refine ((Below.comp (h0 _ _ _) b1).setCell ?_ _).setCell ?_ _ <;> simp <;> omega
    · cases hf : fitB n t u
      · go_enter Tryd.func93, Tryd.ntmps93
        go_wp2_with (first | (go_at_call 99; refine (implGood_any a a' n m ca ca' S T U _ hn hm (ha.below (h0 _ _ _)) (ha'.below (h0 _ _ _)) hs hs').mono ?_; rintro e w1 ⟨rfl, b1⟩; obtain ⟨c1, f1⟩ := bcell b1; obtain ⟨z0, z1, z2⟩ : w.heap.size < w1.heap.size ∧ w.heap.size + 1 < w1.heap.size ∧ w.heap.size + 1 + 1 < w1.heap.size := (by have := b1.size; simp at this; omega)) | (go_at_call 88; refine (fits_any _ _ _ _ (by omega) hu).mono ?_; rintro e w2 ⟨rfl, b2⟩; obtain ⟨c2, f2⟩ := bcell b2))
        refine bodyPost_ret (v := .tuple #[.agg #[.slice none 0 0, .slice none 0 0], .bool false]) (by simp [results, Tryd.results93, go_sem, c1, c2, z2]) rfl (DevRes.none ?_ _ _ _)
        refine ((Below.comp (Below.comp (h0 _ _ _) b1) b2).setCell ?_ _).setCell ?_ _ <;> simp <;> omega
      · have h60 : ((m : Int) == 60) = true := by
          have hm60 : m = 60 := Decidable.byContradiction fun h => hno ⟨hg, hf, h⟩
          simp [hm60]
        go_enter Tryd.func93, Tryd.ntmps93
        go_wp2_with (first | (go_at_call 99; refine (implGood_any a a' n m ca ca' S T U _ hn hm (ha.below (h0 _ _ _)) (ha'.below (h0 _ _ _)) hs hs').mono ?_; rintro e w1 ⟨rfl, b1⟩; obtain ⟨c1, f1⟩ := bcell b1; obtain ⟨z0, z1, z2⟩ : w.heap.size < w1.heap.size ∧ w.heap.size + 1 < w1.heap.size ∧ w.heap.size + 1 + 1 < w1.heap.size := (by have := b1.size; simp at this; omega)) | (go_at_call 88; refine (fits_any _ _ _ _ (by omega) hu).mono ?_; rintro e w2 ⟨rfl, b2⟩; obtain ⟨c2, f2⟩ := bcell b2))
        refine bodyPost_ret (v := .tuple #[.agg #[.slice none 0 0, .slice none 0 0], .bool false]) (by simp [results, Tryd.results93, go_sem, c1, c2, z2]) rfl (DevRes.none ?_ _ _ _)
        refine ((Below.comp (Below.comp (h0 _ _ _) b1) b2).setCell ?_ _).setCell ?_ _ <;> simp <;> omega
  · have e1 : wrN n m S T U t u = n := by simp [wrN, hok]
    have e2 : wrM n m S T U t u = m + 1 := by simp [wrM, hok]
    rw [e1, e2]
    obtain ⟨hg, hf, h60'⟩ := of_decide_eq_true hok
    obtain ⟨q1, q2, q3, q4, q5⟩ := goodB_spec hg
    have h60 : ((m : Int) == 60) = false := by simp; omega
    clear hok e1 e2 q4 q5 h60'
    go_enter Tryd.func93, Tryd.ntmps93
    go_wp2_with fail
    refine (implGood_any a a' n m ca ca' S T U _ hn hm (ha.below (h0 _ _ _)) (ha'.below (h0 _ _ _)) hs hs').mono ?_
    rintro e w1 ⟨rfl, b1⟩
    have g := Below.comp (h0 _ _ _) b1
    have d1 : w1.heap[w.heap.size]? = some (.cells #[.slice a n ca, .slice a' m ca'] 32 (0, 0)) := (b1.block _ (by simp; omega)).trans (block_old (block_old (block_new rfl)))
    have v1 : w1.heap[w.heap.size + 1]? = some (.cells #[.int .i64 t, .string u] 63 (0, 0)) := (b1.block _ (by simp)).trans (block_old (block_new (by simp)))
    have r1 : w1.heap[w.heap.size + 2]? = some (.cells #[.slice none 0 0, .slice none 0 0] 32 (0, 0)) := (b1.block _ (by simp)).trans (block_new (by simp))
    have hmk := make_any (P := Tryd.prog) 30 63 _ 2 24 Tryd.underlying30 info42 .i64 .i64 (m + 1) (by omega) (by omega)
    have ec : ((m + 1 : Nat) : Int) = (m : Int) + 1 := by omega
    rw [ec] at hmk
    clear ec
    have z : w.heap.size + 3 ≤ w1.heap.size := by have := b1.size; simp at this; omega
    have c0 : w1.cell? ⟨w.heap.size, 0, none⟩ = some (.slice a n ca) := cell_of_block d1 rfl
    have c1 : w1.cell? ⟨w.heap.size, 1, none⟩ = some (.slice a' m ca') := cell_of_block d1 rfl
    have c2 : w1.cell? ⟨w.heap.size + 1, 0, none⟩ = some (.int .i64 t) := cell_of_block v1 rfl
    have c3 : w1.cell? ⟨w.heap.size + 1, 1, none⟩ = some (.string u) := cell_of_block v1 rfl
    have D1 : Hid _ := d1
    have V1 : Hid _ := v1
    have R1 : Hid _ := r1
    clear d1 v1 r1 b1 h0
    go_wp2_with fail
    refine (fits_any _ _ _ _ (by omega) hu).mono ?_
    rintro e w2 ⟨rfl, b2⟩
    replace g := Below.comp g b2
    replace c0 := cell_on c0 b2
    replace c1 := cell_on c1 b2
    replace c2 := cell_on c2 b2
    replace c3 := cell_on c3 b2
    have D2 : Hid _ := (b2.block _ (by omega)).trans D1.out
    have V2 : Hid _ := (b2.block _ (by omega)).trans V1.out
    have R2 : Hid _ := (b2.block _ (by omega)).trans R1.out
    have s2 := b2.size
    clear b2 D1 V1 R1
    obtain ⟨s2', s2'', s2'''⟩ : w.heap.size < w2.heap.size ∧ w.heap.size + 1 < w2.heap.size ∧ w.heap.size + 2 < w2.heap.size := by omega
    have hmd : (made (.agg #[.int .i64 0, .string ⟨#[]⟩]) ((m + 1) * 2)).size = (m + 1) * 2 := size_made _ _
    generalize made (.agg #[.int .i64 0, .string ⟨#[]⟩]) ((m + 1) * 2) = md at hmk hmd
    have HM : Hid _ := hmd
    clear hmd
    go_wp2_with ((refine wpList_copy_mine rfl (.tmp 30) (.tmp 32) 30 30 rfl 63 2 Tryd.underlying30 size42 w2.heap.size (m + 1) (m + 1) a' m ca' rfl rfl md 63 (wrtCells m T U) (block_new rfl) (by rw [wrtCells_len]) (by omega) (src2 (ha'.below (Below.comp g (below_alloc _ _)))) (by rw [wrtCells_len, HM.out]; omega) (wrtCells_one _ _ _) ?_); intro w3 hB3 ho3; obtain ⟨c, x0, x1, hB, hcs, hst, hx0, hx1⟩ := copied HM.out hB3; have k0 := Out.cell ho3 (hold_on c0) (.inl s2'); have k1 := Out.cell ho3 (hold_on c1) (.inl s2'); have k2 := Out.cell ho3 (hold_on c2) (.inl s2''); have k3 := Out.cell ho3 (hold_on c3) (.inl s2''); have r3 : Hid _ := (ho3.block _ (by simp <;> omega) (.inl s2''')).trans (block_old R2.out); have g3 : Hid (Below w.heap.size w w3) := (Below.comp g (below_alloc _ _)).trans (Below.mono (ho3.below (by simp)) g.size); have p0 := cell_of_block hB.out hx0.out; have p1 := cell_of_block hB.out hx1.out; have pf0 := free_of_block (i := m * 2) hB.out; have pf1 := free_of_block (i := m * 2 + 1) hB.out; have s3 : w2.heap.size < w3.heap.size := lt_of_cell p0; clear ho3 hB3 c0 c1 c2 c3)
    have g4 := (g3.out.setCell (p := ⟨w2.heap.size, m * 2, none⟩) g.size (.int .i64 t)).setCell (p := ⟨w2.heap.size, m * 2 + 1, none⟩) g.size (.string u)
    have B4 := block_set (i := m * 2 + 1) (v := .string u) (block_set (i := m * 2) (v := .int .i64 t) hB.out)
    have R4 := block_else (b := w2.heap.size) (o := m * 2 + 1) (v := .string u) (Nat.ne_of_lt s2''') (block_else (b := w2.heap.size) (o := m * 2) (v := .int .i64 t) (Nat.ne_of_lt s2''') r3.out)
    refine (copyList_any a n ca S _ (by omega) (ha.below g4)).mono ?_
    rintro e w5 ⟨b5, x, cx, rfl, mx⟩
    have g5 := Below.comp g4 b5
    have HB5 : Hid _ := (b5.block _ (Array.getElem?_eq_some_iff.1 B4).1).trans B4
    have hr5 : w5.heap[w.heap.size + 2]? = some (.cells #[.slice none 0 0, .slice none 0 0] 32 (0, 0)) := (b5.block _ (Array.getElem?_eq_some_iff.1 R4).1).trans R4
    have e2 : w5.cell? ⟨w.heap.size + 2, 0, none⟩ = some (.slice none 0 0) := cell_of_block hr5 rfl
    have e3 : w5.cell? ⟨w.heap.size + 2, 1, none⟩ = some (.slice none 0 0) := cell_of_block hr5 rfl
    have eg0 := free_of_block (i := 0) hr5
    have eg1 := free_of_block (i := 1) hr5
    have s5 := b5.size
    clear k0 k1 k2 k3 p0 p1 pf0 pf1 hr5 B4 R4 b5 g3 g4
    go_wp2
    refine bodyPost_ret (v := .tuple #[.agg #[.slice x n cx, .slice (some ⟨w2.heap.size, 0, none⟩) (m + 1) (m + 1)], .bool true]) (by simp [results, Tryd.results93, go_sem, e2, e3]) rfl ⟨?_, x, cx, _, _, rfl, ?_, ?_⟩
    · refine (g5.setCell ?_ _).setCell ?_ _ <;> simp <;> omega
    · exact (mx.out (((Out.refl (w.heap.size + 2) (w.heap.size + 3) w5).setCell (by omega) (by omega) _ _).setCell (by omega) (by omega) _ _) (.inr (by simp <;> omega))).mono (by simp <;> omega) (by simp)
    · refine .inr ⟨w2.heap.size, _, g.size, by have := (Array.getElem?_eq_some_iff.1 HB5.out).1; simpa using this, rfl, block_else (by omega) (block_else (by omega) HB5.out), ?_⟩
      have hcs' := hcs.out
      intro i hi
      by_cases e : i = m
      · subst e
        exact ⟨by rw [set_ne (by omega), set_at (by omega)]; simp [setT], by rw [set_at (by simp; omega)]; simp [setU]⟩
      · have := hst i (by omega)
        rw [set_ne (by omega), set_ne (by omega), set_ne (by omega), set_ne (by omega)]
        simpa [setT, setU, e] using this
/- QX1d -/
set_option maxHeartbeats 400000 in
theorem toBoolS_any (a : Option Addr) (n cap : Nat) (K : Nat → Bool) (w : World) (hn : n ≤ 1048576) (hc : At w a n fun i => .bool (K i)) :
    Calls Tryd.prog 31 #[.slice a n cap] w fun e w' => Below w.heap.size w w' ∧ ∃ a' c', e = .returned (.slice a' n c') ∧ Mine w' w.heap.size w'.heap.size 4 n a' (bools n K) := by
  have hmk := make_any (P := Tryd.prog) 47 4 _ 1 1 Tryd.underlying47 info4 .i64 .i64 n (by omega) (by omega)
  go_enter Tryd.func31, Tryd.ntmps31
  go_wp2
  go_loopw [4] (fun i wr => ∃ (k : Nat) (c : Array Value), k ≤ n ∧ i = .int .i64 k ∧ wr.heap[w.heap.size]? = some (.cells c 4 (0, 0)) ∧ c.size = n ∧ bools k K c ∧ Below w.heap.size w wr) (fun i _ => n - (intOf i).toNat)
  case atStart => exact ⟨0, _, Nat.zero_le _, rfl, heap_alloc_new w _, by simp [size_made], fun i hi => absurd hi (by omega), below_alloc _ _⟩
  case round =>
    obtain ⟨k, c, hk, rfl, hB, hcs, hst, hb⟩ := hrel
    by_cases hlt : k < n
    · obtain ⟨b, off, rfl, hcell⟩ := (hc.below hb) (by omega)
      have hck := hcell k hlt
      have hold : wr.cell? ⟨w.heap.size, k, none⟩ = some c[k] := cell_of_block hB (by simp)
      have hfree := free_of_block (i := k) hB
      clear hcell hc
      have HB : Hid (wr.heap[w.heap.size]? = some (.cells c 4 (0, 0))) := hB
      clear hB
      go_wp2
      go_roundw
      case rel =>
        refine ⟨k + 1, _, by omega, by go_num, block_set HB.out, by simpa using hcs, ?_, hb.setCell (Nat.le_refl _) _⟩
        intro i hi
        by_cases e : i = k
        · rw [e]; exact set_at (by omega) _
        · rw [set_ne e]; exact hst i (by omega)
      case measure => simp [intOf]; omega
    · go_wp2
      go_ret
      have hkn : k = n := by omega
      subst hkn
      exact ⟨hb, _, _, rfl, .inr ⟨_, c, Nat.le_refl _, (Array.getElem?_eq_some_iff.1 hB).1, rfl, hB, hst⟩⟩

set_option maxHeartbeats 400000 in
theorem eqBoolS_any (a a' : Option Addr) (n cap cap' : Nat) (K : Nat → Bool) (w : World) (hn : n ≤ 9223372036854775807) (hc : At w a n fun i => .bool (K i)) (hc' : At w a' n fun i => .bool (K i)) :
    Calls Tryd.prog 33 #[.slice a n cap, .slice a' n cap'] w fun e w' => e = .returned (.bool true) ∧ Below w.heap.size w w' := by
  go_enter Tryd.func33, Tryd.ntmps33
  go_wp2
  go_loopw [5] (fun i wr => ∃ (k : Nat), k ≤ n ∧ i = .int .i64 k ∧ Below w.heap.size w wr) (fun i _ => n - (intOf i).toNat)
  case atStart => exact ⟨0, Nat.zero_le _, rfl, Below.refl _ _⟩
  case round =>
    obtain ⟨k, hk, rfl, hb⟩ := hrel
    by_cases hlt : k < n
    · obtain ⟨b, off, rfl, hcell⟩ := (hc.below hb) (by omega)
      obtain ⟨b', off', rfl, hcell'⟩ := (hc'.below hb) (by omega)
      have hck := hcell k hlt
      have hck' := hcell' k hlt
      have hlt' : (k : Int) < (n : Int) := by omega
      clear hcell hc hcell' hc'
      go_wp2
      go_quiet (fail)
      go_wp2
      go_roundw
      case rel => exact ⟨k + 1, by omega, by go_num, below_drewN hb _⟩
      case measure => simp [intOf]; omega
    · go_wp2
      go_ret
      exact ⟨rfl, hb⟩

set_option maxHeartbeats 800000 in
theorem markBoolS_any (B C : Nat) (a : Option Addr) (n cap : Nat) (K : Nat → Bool) (k : Nat) (w : World) (hk : 1 ≤ k) (hkn : k + n ≤ 100000000) (hm : Mine w B C 4 n a (bools n K)) :
    Calls Tryd.prog 34 #[.slice a n cap, .int .i64 k] w fun e w' => e = .returned (.int .i64 ((k + n : Nat) : Int)) ∧ Out B C w w' := by
  rcases hm with h0 | ⟨b, c0, hb1, hb2, rfl, hB0, hS0⟩
  · subst h0
    go_enter Tryd.func34, Tryd.ntmps34
    go_wp2
    refine wp_loop_rounds 1 ?_
    rw [rounds_succ]
    go_wp2
    go_ret
    exact ⟨rfl, Out.refl _ _ _⟩
  · have hsz : n ≤ c0.size := by
      by_cases h0 : n = 0
      · omega
      · have := (Array.getElem?_eq_some_iff.1 (hS0 (n - 1) (by omega))).1
        omega
    have HB0 : Hid _ := hB0
    clear hB0
    go_enter Tryd.func34, Tryd.ntmps34
    go_wp2
    go_loopw [1, 5] (fun kk i wr => ∃ (q : Nat) (c : Array Value), q ≤ n ∧ kk = .int .i64 ((k + q : Nat) : Int) ∧ i = .int .i64 q ∧ wr.heap[b]? = some (.cells c 4 (0, 0)) ∧ n ≤ c.size ∧ Out B C w wr) (fun _ i _ => n - (intOf i).toNat)
    case atStart => exact ⟨0, c0, Nat.zero_le _, rfl, rfl, HB0.out, hsz, Out.refl _ _ _⟩
    case round =>
      obtain ⟨q, c, hq, rfl, rfl, hB, hcs, ho⟩ := hrel
      by_cases hlt : q < n
      · obtain ⟨x0, hx0⟩ : ∃ v, c[q]? = some v := ⟨c[q]'(by omega), by simp⟩
        have g0 := cell_of_block hB hx0
        have f0 := free_of_block (i := q) hB
        have HB : Hid _ := hB
        clear hB hx0
        go_wp2
        go_roundw
        case rel => exact ⟨q + 1, _, by omega, by go_num, by go_num, block_set HB.out, by simpa using hcs, ho.setCell hb1 hb2 _ _⟩
        case measure => simp [intOf]; omega
      · have hqn : q = n := by omega
        subst hqn
        go_wp2
        go_ret
        exact ⟨rfl, ho⟩

set_option maxHeartbeats 1600000 in
theorem l1Kept_any (a ak : Option Addr) (m ca ck : Nat) (T : Nat → Int) (U : Nat → ByteArray) (K : Nat → Bool) (w : World) (hm : m ≤ 60) (ha : At2 w a m T U) (hk : At w ak m fun i => .bool (K i)) :
    Calls Tryd.prog 97 #[.slice a m ca, .slice ak m ck] w fun e w' => Below w.heap.size w w' ∧ ∃ x cx, e = .returned (.slice x (kidx K m).length cx) ∧ Mine w' w.heap.size w'.heap.size 63 (kidx K m).length x (wrts (kidx K m).length (kT K m T) (kU K m U)) := by
  go_enter Tryd.func97, Tryd.ntmps97
  go_wp2
  go_loopw [5, 10] (fun v i wr => ∃ (k : Nat), k ≤ m ∧ i = .int .i64 k ∧ wr.ownsRow w.heap.size 63 2 v (kidx K k).length (wrtL (kidx K k) T U) ∧ Below w.heap.size w wr) (fun _ i _ => m - (intOf i).toNat)
  case atStart => exact ⟨0, Nat.zero_le _, rfl, World.ownsRow_nil _ _ _ _, Below.refl _ _⟩
  case round =>
    obtain ⟨k, hkm, rfl, hown, hb⟩ := hrel
    obtain ⟨x, cx, hv⟩ := owns_form hown
    subst hv
    by_cases hlt : k < m
    · obtain ⟨b, off, rfl, hcell⟩ := (ha.below hb) (by omega)
      obtain ⟨hck, hck2⟩ := hcell k hlt
      obtain ⟨b', off', rfl, hcell'⟩ := (hk.below hb) (by omega)
      have hkk : wr.cell? ⟨b', off' + k, none⟩ = some (.bool (K k)) := hcell' k hlt
      have hlt' : (k : Int) < (m : Int) := by omega
      have hlen := kidx_len K k
      have hbl := lt_of_cell hkk
      have HO : Hid _ := hown
      clear hcell hcell' hown
      cases hK : K k
      · rw [hK] at hkk
        go_wp2
        go_roundw
        case rel => exact ⟨k + 1, by omega, by go_num, by rw [kidx_same K k hK]; exact World.ownsRow.alloc HO.out _, Below.comp hb (below_alloc _ _)⟩
        case measure => simp [intOf]; omega
      · rw [hK] at hkk
        have HK : Hid _ := hK
        clear hK
        have hsz := hb.size
        go_wp2_with (at_builtin; (refine wpList_append_src rfl (.tmp 19) (.tmp 21) 30 rfl w.heap.size 63 _ 2 24 Tryd.underlying30 info42 rfl (by decide) (.slice x (kidx K k).length cx) (kidx K k).length (wrtL (kidx K k) T U) rfl (World.ownsRow.alloc (World.ownsRow.alloc HO.out _) _) (some ⟨wr.heap.size + 1, 0, none⟩) 1 1 [.int .i64 (T k), .string (U k)] rfl rfl (.inr ⟨_, rfl, by simpa using new_two (wr.alloc (.cells #[.int .i64 (T k), .string (U k)] 63)) (.int .i64 (T k)) (.string (U k)) 63⟩) (by intro q hq; simp at hq; rcases hq with rfl | rfl <;> rfl) (by omega) (by omega) (by simp <;> omega) ?_); intro v2 w2 hown2 hgrow2; have bl2 : Below w.heap.size ((wr.alloc (.cells #[.int .i64 (T k), .string (U k)] 63)).alloc (.cells #[.int .i64 (T k), .string (U k)] 63)) w2 := Grown.below hgrow2 (by simp <;> omega) (fun q hq => (World.ownsRow.lt HO.out q hq).1))
        go_roundw
        case rel => exact ⟨k + 1, by omega, by go_num, by rw [kidx_more K k HK.out, ← wrtL_succ K k T U HK.out]; exact hown2, ((hb.alloc hsz _).alloc (by simp <;> omega) _).trans bl2⟩
        case measure => simp [intOf]; omega
    · have hkn : k = m := by omega
      subst hkn
      go_wp2
      go_ret
      rw [wrtL_cells] at hown
      exact ⟨hb, x, cx, rfl, (owns_wrts hown).mono (Nat.le_refl _) (Nat.le_refl _)⟩
/- QX2d -/
set_option maxHeartbeats 1600000 in
theorem specCrash_any (a a' ak : Option Addr) (n m nk ca ca' ck : Nat) (S : Nat → ByteArray) (T : Nat → Int) (U : Nat → ByteArray) (K : Nat → Bool) (w : World) (hn : n ≤ 1048576) (hm : m ≤ 1048576) (hnk : nk ≤ 1048576)
    (ha : At w a n fun i => .string (S i)) (ha' : At2 w a' m T U) (hk : At w ak nk fun i => .bool (K i)) (hs : ∀ i, i < n → (S i).size ≤ 9223372036854775807) (hs' : ∀ i, i < m → (U i).size ≤ 9223372036854775807) :
    Calls Tryd.prog 76 #[.agg #[.slice a n ca, .slice a' m ca'], .slice ak nk ck] w fun e w' => DevRes w w' e (crN n m nk S T U) 0 (crOK n m nk S T U) (crS m S T U K) T U := by
  have h0 : ∀ o1 o2, Below w.heap.size w ((w.alloc o1).alloc o2) := fun o1 o2 => (below_alloc _ _).alloc (by simp) _
  cases hok : crOK n m nk S T U
  · have e1 : crN n m nk S T U = 0 := by simp [crN, hok]
    rw [e1]
    have hno := of_decide_eq_false hok
    clear hok e1
    cases hg : goodB n m S T U
    · go_enter Tryd.func76, Tryd.ntmps76
      go_wp2_with (go_at_call 44; refine (specGood_any a a' n m ca ca' S T U _ hn hm (ha.below (h0 _ _)) (ha'.below (h0 _ _)) hs hs').mono ?_; rintro e w1 ⟨rfl, b1⟩; obtain ⟨c1, f1⟩ := bcell b1)
      refine bodyPost_ret (v := .tuple #[.agg #[.slice none 0 0, .slice none 0 0], .bool false]) (by simp [results, Tryd.results76, go_sem, c1]) rfl (DevRes.none ?_ _ _ _)
      refine ((Below.comp (h0 _ _) b1).setCell ?_ _).setCell ?_ _ <;> simp
    · have hne : ((nk : Int) != (m : Int)) = true := by
        have : nk ≠ m := fun h => hno ⟨hg, h⟩
        simp; omega
      go_enter Tryd.func76, Tryd.ntmps76
      go_wp2_with (go_at_call 44; refine (specGood_any a a' n m ca ca' S T U _ hn hm (ha.below (h0 _ _)) (ha'.below (h0 _ _)) hs hs').mono ?_; rintro e w1 ⟨rfl, b1⟩; obtain ⟨c1, f1⟩ := bcell b1)
      refine bodyPost_ret (v := .tuple #[.agg #[.slice none 0 0, .slice none 0 0], .bool false]) (by simp [results, Tryd.results76, go_sem, c1]) rfl (DevRes.none ?_ _ _ _)
      refine ((Below.comp (h0 _ _) b1).setCell ?_ _).setCell ?_ _ <;> simp
  · have e1 : crN n m nk S T U = n := by simp [crN, hok]
    rw [e1]
    obtain ⟨hg, hnm⟩ := of_decide_eq_true hok
    subst hnm
    obtain ⟨q1, q2, q3, q4, q5⟩ := goodB_spec hg
    have Q5 : Hid _ := q5
    have hne : ((nk : Int) != (nk : Int)) = false := by simp
    clear hok e1 q4 q5
    go_enter Tryd.func76, Tryd.ntmps76
    go_wp2_with fail
    refine (specGood_any a a' n nk ca ca' S T U _ hn hm (ha.below (h0 _ _)) (ha'.below (h0 _ _)) hs hs').mono ?_
    rintro e w1 ⟨rfl, b1⟩
    have g := Below.comp (h0 _ _) b1
    have c0 : w1.cell? ⟨w.heap.size, 0, none⟩ = some (.slice a n ca) := cell_on (hold_on (cell_new0 w _ _ _)) b1
    have c1 : w1.cell? ⟨w.heap.size, 1, none⟩ = some (.slice a' nk ca') := cell_on (hold_on (cell_new1 w _ _ _)) b1
    have hr1 : w1.heap[w.heap.size + 1]? = some (.cells #[.slice none 0 0, .slice none 0 0] 32 (0, 0)) := (b1.block _ (by simp)).trans (block_new (by simp))
    have HR1 : Hid _ := hr1
    have s1 : w.heap.size + 2 ≤ w1.heap.size := by have := b1.size; simpa using this
    clear b1 h0 hr1
    go_wp2
    go_region_held3 (fun W => W.cell? ⟨w.heap.size, 0, none⟩ = some (.slice a n ca) ∧ W.cell? ⟨w.heap.size, 1, none⟩ = some (.slice a' nk ca'))
      ((first | exact ⟨c0, c1⟩ | exact ⟨nd0, nd1⟩ | exact ⟨nc0, nc1⟩ | exact ⟨Out.cell (Out.setCell (out_setCell w4 (w.heap.size + 1) 0 _) (Nat.le_refl _) (Nat.lt_succ_self _) 1 _) nd0 (.inl (Nat.lt_succ_self _)), Out.cell (Out.setCell (out_setCell w4 (w.heap.size + 1) 0 _) (Nat.le_refl _) (Nat.lt_succ_self _) 1 _) nd1 (.inl (Nat.lt_succ_self _))⟩))
      (first
      | (go_at_call 97; refine (l1Kept_any a' ak nk ca' ck T U K _ q3 (ha'.below g.drew) (hk.below g.drew)).mono ?_; rintro e w3 ⟨b3, x3, cx3, rfl, mx3⟩; have nc0 := cell_on (w := w1.drew) c0 b3; have nc1 := cell_on (w := w1.drew) c1 b3)
      | (go_at_call 71; refine (l1Done_any a x3 n (kidx K nk).length ca cx3 S (kT K nk T) (kU K nk U) _ q1 q2 (Nat.le_trans (kidx_len K nk) (Nat.le_trans q3 (by decide))) (ha.below (Below.comp g.drew b3)) mx3.wrts (kept_fits Q5.out)).mono ?_; rintro e w4 ⟨b4, x, cx, rfl, mx⟩; have nd0 := cell_on nc0 b4; have nd1 := cell_on nc1 b4; have hr4 : w4.heap[w.heap.size + 1]? = some (.cells #[.slice none 0 0, .slice none 0 0] 32 (0, 0)) := (b4.block _ (by have := b3.size; simp at this; omega)).trans ((b3.block _ (by simp; omega)).trans HR1.out); have e2 : w4.cell? ⟨w.heap.size + 1, 0, none⟩ = some (.slice none 0 0) := cell_of_block hr4 rfl; have e3 : w4.cell? ⟨w.heap.size + 1, 1, none⟩ = some (.slice none 0 0) := cell_of_block hr4 rfl; have eg0 := free_of_block (i := 0) hr4; have eg1 := free_of_block (i := 1) hr4; clear hr4))
    go_wp2
    have g4 := Below.comp (Below.comp g.drew b3) b4
    have s4 : w1.heap.size ≤ w3.heap.size := b3.size
    refine bodyPost_ret (v := .tuple #[.agg #[.slice x n cx, .slice none 0 0], .bool true]) (by simp [results, Tryd.results76, go_sem, e2, e3]) rfl ⟨?_, x, cx, none, 0, rfl, ?_, mine_none _ _ _ _ _ _⟩
    · refine (g4.setCell ?_ _).setCell ?_ _ <;> simp
    · exact (mx.out (((Out.refl (w.heap.size + 1) (w.heap.size + 2) w4).setCell (by omega) (by omega) _ _).setCell (by omega) (by omega) _ _) (.inr (by omega))).mono (by omega) (by simp)

set_option maxHeartbeats 1600000 in
theorem implCrash_any (a a' ak : Option Addr) (n m nk ca ca' ck : Nat) (S : Nat → ByteArray) (T : Nat → Int) (U : Nat → ByteArray) (K : Nat → Bool) (w : World) (hn : n ≤ 1048576) (hm : m ≤ 1048576) (hnk : nk ≤ 1048576)
    (ha : At w a n fun i => .string (S i)) (ha' : At2 w a' m T U) (hk : At w ak nk fun i => .bool (K i)) (hs : ∀ i, i < n → (S i).size ≤ 9223372036854775807) (hs' : ∀ i, i < m → (U i).size ≤ 9223372036854775807) :
    Calls Tryd.prog 98 #[.agg #[.slice a n ca, .slice a' m ca'], .slice ak nk ck] w fun e w' => DevRes w w' e (crN n m nk S T U) 0 (crOK n m nk S T U) (crS m S T U K) T U := by
  have h0 : ∀ o1 o2, Below w.heap.size w ((w.alloc o1).alloc o2) := fun o1 o2 => (below_alloc _ _).alloc (by simp) _
  cases hok : crOK n m nk S T U
  · have e1 : crN n m nk S T U = 0 := by simp [crN, hok]
    rw [e1]
    have hno := of_decide_eq_false hok
    clear hok e1
    cases hg : goodB n m S T U
    · go_enter Tryd.func98, Tryd.ntmps98
      go_wp2_with (go_at_call 99; refine (implGood_any a a' n m ca ca' S T U _ hn hm (ha.below (h0 _ _)) (ha'.below (h0 _ _)) hs hs').mono ?_; rintro e w1 ⟨rfl, b1⟩; obtain ⟨c1, f1⟩ := bcell b1)
      refine bodyPost_ret (v := .tuple #[.agg #[.slice none 0 0, .slice none 0 0], .bool false]) (by simp [results, Tryd.results98, go_sem, c1]) rfl (DevRes.none ?_ _ _ _)
      refine ((Below.comp (h0 _ _) b1).setCell ?_ _).setCell ?_ _ <;> simp
    · have hne : ((nk : Int) != (m : Int)) = true := by
        have : nk ≠ m := fun h => hno ⟨hg, h⟩
        simp; omega
      go_enter Tryd.func98, Tryd.ntmps98
      go_wp2_with (go_at_call 99; refine (implGood_any a a' n m ca ca' S T U _ hn hm (ha.below (h0 _ _)) (ha'.below (h0 _ _)) hs hs').mono ?_; rintro e w1 ⟨rfl, b1⟩; obtain ⟨c1, f1⟩ := bcell b1)
      refine bodyPost_ret (v := .tuple #[.agg #[.slice none 0 0, .slice none 0 0], .bool false]) (by simp [results, Tryd.results98, go_sem, c1]) rfl (DevRes.none ?_ _ _ _)
      refine ((Below.comp (h0 _ _) b1).setCell ?_ _).setCell ?_ _ <;> simp
  · have e1 : crN n m nk S T U = n := by simp [crN, hok]
    rw [e1]
    obtain ⟨hg, hnm⟩ := of_decide_eq_true hok
    subst hnm
    obtain ⟨q1, q2, q3, q4, q5⟩ := goodB_spec hg
    have Q5 : Hid _ := q5
    have hne : ((nk : Int) != (nk : Int)) = false := by simp
    have Q4 : Hid _ := q4
    clear hok e1 q4 q5
    go_enter Tryd.func98, Tryd.ntmps98
    go_wp2_with fail
    refine (implGood_any a a' n nk ca ca' S T U _ hn hm (ha.below (h0 _ _)) (ha'.below (h0 _ _)) hs hs').mono ?_
    rintro e w1 ⟨rfl, b1⟩
    have g := Below.comp (h0 _ _) b1
    have c0 : w1.cell? ⟨w.heap.size, 0, none⟩ = some (.slice a n ca) := cell_on (hold_on (cell_new0 w _ _ _)) b1
    have c1 : w1.cell? ⟨w.heap.size, 1, none⟩ = some (.slice a' nk ca') := cell_on (hold_on (cell_new1 w _ _ _)) b1
    have hr1 : w1.heap[w.heap.size + 1]? = some (.cells #[.slice none 0 0, .slice none 0 0] 32 (0, 0)) := (b1.block _ (by simp)).trans (block_new (by simp))
    have HR1 : Hid _ := hr1
    have s1 : w.heap.size + 2 ≤ w1.heap.size := by have := b1.size; simpa using this
    clear b1 h0 hr1
    go_wp2
    go_loopw [6, 24] (fun v i wr => ∃ (k : Nat), k ≤ nk ∧ i = .int .i64 k ∧ wr.ownsRow w1.heap.size 63 2 v (kidx K k).length (wrtL (kidx K k) T U) ∧ Below w1.heap.size w1 wr) (fun _ i _ => nk - (intOf i).toNat)
    case atStart => exact ⟨0, Nat.zero_le _, rfl, World.ownsRow_nil _ _ _ _, Below.refl _ _⟩
    case round =>
      obtain ⟨k, hkm, rfl, hown, hb⟩ := hrel
      obtain ⟨x, cx, hv⟩ := owns_form hown
      subst hv
      replace c0 := cell_on c0 hb
      replace c1 := cell_on c1 hb
      by_cases hlt : k < nk
      · obtain ⟨b, off, rfl, hcell⟩ := (ha'.below (Below.comp g hb)) (by omega)
        obtain ⟨hck, hck2⟩ := hcell k hlt
        obtain ⟨b', off', rfl, hcell'⟩ := (hk.below (Below.comp g hb)) (by omega)
        have hkk : wr.cell? ⟨b', off' + k, none⟩ = some (.bool (K k)) := hcell' k hlt
        have hlt' : (k : Int) < (nk : Int) := by omega
        have hlen := kidx_len K k
        have hbl := lt_of_cell hkk
        have HO : Hid _ := hown
        clear hcell hcell' hown
        cases hK : K k
        · rw [hK] at hkk
          go_wp2
          go_roundw
          case rel => exact ⟨k + 1, by omega, by go_num, by rw [kidx_same K k hK]; exact World.ownsRow.alloc HO.out _, Below.comp hb (below_alloc _ _)⟩
          case measure => simp [intOf]; omega
        · rw [hK] at hkk
          have HK : Hid _ := hK
          clear hK
          have hsz := hb.size
          go_wp2_with (at_builtin; (refine wpList_append_src rfl (.tmp 33) (.tmp 35) 30 rfl w1.heap.size 63 _ 2 24 Tryd.underlying30 info42 rfl (by decide) (.slice x (kidx K k).length cx) (kidx K k).length (wrtL (kidx K k) T U) rfl (World.ownsRow.alloc (World.ownsRow.alloc HO.out _) _) (some ⟨wr.heap.size + 1, 0, none⟩) 1 1 [.int .i64 (T k), .string (U k)] rfl rfl (.inr ⟨_, rfl, by simpa using new_two (wr.alloc (.cells #[.int .i64 (T k), .string (U k)] 63)) (.int .i64 (T k)) (.string (U k)) 63⟩) (by intro q hq; simp at hq; rcases hq with rfl | rfl <;> rfl) (by omega) (by omega) (by simp <;> omega) ?_); intro v2 w2 hown2 hgrow2; have bl2 : Below w1.heap.size ((wr.alloc (.cells #[.int .i64 (T k), .string (U k)] 63)).alloc (.cells #[.int .i64 (T k), .string (U k)] 63)) w2 := Grown.below hgrow2 (by simp <;> omega) (fun q hq => (World.ownsRow.lt HO.out q hq).1))
          go_roundw
          case rel => exact ⟨k + 1, by omega, by go_num, by rw [kidx_more K k HK.out, ← wrtL_succ K k T U HK.out]; exact hown2, ((hb.alloc hsz _).alloc (by simp <;> omega) _).trans bl2⟩
          case measure => simp [intOf]; omega
      · have hkn : k = nk := by omega
        subst hkn
        have hr1 : wr.heap[w.heap.size + 1]? = some (.cells #[.slice none 0 0, .slice none 0 0] 32 (0, 0)) := (hb.block _ (by omega)).trans HR1.out
        have HR2 : Hid _ := hr1
        have s2 := hb.size
        clear hr1
        rw [wrtL_cells] at hown
        have mk := owns_wrts hown
        go_wp2_with fail
        refine (settle_any a a' x n (kidx K k).length k ca ca' cx S (kT K k T) (kU K k U) _ q1 q2 (Nat.le_trans (kidx_len K k) (Nat.le_trans q3 (by decide))) (ha.below (Below.comp g hb)) mk.wrts Q4.out (kept_fits Q5.out)).mono ?_
        rintro e w4 ⟨b4, y, cy, rfl, mx⟩
        have hr4 : w4.heap[w.heap.size + 1]? = some (.cells #[.slice none 0 0, .slice none 0 0] 32 (0, 0)) := (b4.block _ (by omega)).trans HR2.out
        have e2 : w4.cell? ⟨w.heap.size + 1, 0, none⟩ = some (.slice none 0 0) := cell_of_block hr4 rfl
        have e3 : w4.cell? ⟨w.heap.size + 1, 1, none⟩ = some (.slice none 0 0) := cell_of_block hr4 rfl
        have eg0 := free_of_block (i := 0) hr4
        have eg1 := free_of_block (i := 1) hr4
        clear hr4 c0 c1
        have g4 := Below.comp (Below.comp g hb) b4
        go_wp2
        refine bodyPost_ret (v := .tuple #[.agg #[.slice y n cy, .slice none 0 0], .bool true]) (by simp [results, Tryd.results98, go_sem, e2, e3]) rfl ⟨?_, y, cy, none, 0, rfl, ?_, mine_none _ _ _ _ _ _⟩
        · refine (g4.setCell ?_ _).setCell ?_ _ <;> simp
        · exact (mx.out (((Out.refl (w.heap.size + 1) (w.heap.size + 2) w4).setCell (by omega) (by omega) _ _).setCell (by omega) (by omega) _ _) (.inr (by omega))).mono (by omega) (by simp)
end Go.Proofs.YtmijalmihfgolaaDoor
