import Derived.Test.YtmijalmihfgolaaDoorT1
/- Parts of rows; the specification's side of whether a list is a transaction. -/
namespace Go.Proofs.YtmijalmihfgolaaDoor
open Go.ChangeShapes Go.WideShapes Go.ChangeAt Go.RowKit
set_option linter.unusedVariables false
open Tx

attribute [local go_sem] Oper.semAt_some

/-- A part of a row from k on, of elements of z cells. -/
def subA (z : Nat) (x : Option Addr) (k c : Nat) : Option Addr := if c = k then x else x.map (·.add (k * z))
theorem subA0 (z b off c : Nat) : subA z (some ⟨b, off, none⟩) 0 c = some ⟨b, off, none⟩ := by
  unfold subA
  split
  · rfl
  · simp [Addr.add]
theorem At.take {w : World} {a : Option Addr} {n : Nat} {f : Nat → Value} (h : At w a n f) (z c k : Nat) (hk : k ≤ n) : At w (subA z a 0 c) k f := by
  intro hn
  obtain ⟨b, off, rfl, hc⟩ := h (by omega)
  exact ⟨b, off, subA0 _ _ _ _, fun i hi => hc i (by omega)⟩
theorem At.drop {w : World} {a : Option Addr} {n : Nat} {f : Nat → Value} (h : At w a n f) (c k : Nat) (hc : n ≤ c) : At w (subA 1 a k c) (n - k) (fun i => f (k + i)) := by
  intro hn
  obtain ⟨b, off, rfl, hcell⟩ := h (by omega)
  refine ⟨b, off + k, ?_, fun i hi => ?_⟩
  · unfold subA
    rw [if_neg (by omega)]
    simp [Addr.add]
  · rw [Nat.add_assoc]; exact hcell (k + i) (by omega)
theorem At2.take {w : World} {a : Option Addr} {n : Nat} {T : Nat → Int} {U : Nat → ByteArray} (h : At2 w a n T U) (z c k : Nat) (hk : k ≤ n) : At2 w (subA z a 0 c) k T U := by
  intro hn
  obtain ⟨b, off, rfl, hc⟩ := h (by omega)
  exact ⟨b, off, subA0 _ _ _ _, fun i hi => hc i (by omega)⟩
theorem sizeWr (w : World) : (Go.sizeOf 63).run Tryd.prog w = .ok 2 w := Tryd.sizeOf63 w
theorem sliceW_to (x : Option Addr) (n c k : Nat) (h : k ≤ c) (w : World) : (Instr.slice 30 (.slice x n c) none (some (.int .i64 (k : Int))) none).run Tryd.prog w = .ok (.slice (subA 2 x 0 c) k c) w := by
  rw [run_slice_h w 30 x n c (by kernel_rfl) .i64 k (by omega) (by omega), show Tryd.prog.elem 30 = 63 from by kernel_rfl, sizeWr]
  simp [Result.andThen, sliced, subA]

set_option maxHeartbeats 2000000 in
theorem l11Txn_any (a : Option Addr) (c : Nat) (l : List Wr) (n : Nat) (w : World) (hn : n ≤ 9223372036854775807) (hl : l.length ≤ 9223372036854775807) (hc : l.length ≤ c) (hs : Few l) (ha : RowW w a l) :
    Calls Tryd.prog 53 #[.slice a l.length c, .int .i64 n] w fun e w' => e = .returned (.bool (txB n l)) ∧ Below w.heap.size w w' := by
  have HN : Hid (∀ h : ¬ (1 ≤ l.length ∧ l.length ≤ 8 ∧ ∀ i, i < l.length → (fit n (gw l i) = true ∧ ∀ j, j < i → (gw l j).s ≠ (gw l i).s)), txB n l = false) := fun h => txB_no h
  have HY : Hid (∀ h : (1 ≤ l.length ∧ l.length ≤ 8 ∧ ∀ i, i < l.length → (fit n (gw l i) = true ∧ ∀ j, j < i → (gw l j).s ≠ (gw l i).s)), txB n l = true) := fun h => txB_iff.2 h
  generalize txB n l = R at HN HY ⊢
  go_enter Tryd.func53, Tryd.ntmps53
  go_wp2
  go_loopw [11] (fun i wr => ∃ (k : Nat), k ≤ l.length ∧ i = .int .i64 k ∧ (∀ i, i < k → (fit n (gw l i) = true ∧ ∀ j, j < i → (gw l j).s ≠ (gw l i).s)) ∧ Below w.heap.size w wr) (fun i _ => l.length - (intOf i).toNat)
  case atStart => exact ⟨0, Nat.zero_le _, rfl, fun i hi => absurd hi (by omega), Below.refl _ _⟩
  case round =>
    obtain ⟨k, hk, rfl, hall, hb⟩ := hrel
    have HALL : Hid _ := hall
    clear hall
    by_cases hlt : k < l.length
    · obtain ⟨b, off, rfl, hcell⟩ := (ha.below hb) (by omega)
      obtain ⟨hck, hck2⟩ := hcell k hlt
      have hsk : (Ul l k).size ≤ 9223372036854775807 := hs k hlt
      have hlt' : (k : Int) < (l.length : Int) := by omega
      clear hcell
      cases hf : fitB n (Tl l k) (Ul l k)
      · have e := HN.out (fun h => by have := (h.2.2 k hlt).1; rw [← fitB_fit] at this; exact absurd (hf.symm.trans this) (by simp))
        subst e
        go_wp2_with (go_at_call 82; refine (l1Write_any _ _ _ _ (by omega) hsk).mono ?_; rintro e w1 ⟨rfl, b1⟩)
        go_ret
        exact ⟨rfl, Below.comp hb (Below.comp (below_alloc _ _) b1)⟩
      · have HF : Hid (fit n (gw l k) = true) := hf
        have hsl := sliceW_to (some ⟨b, off, none⟩) l.length c k (by omega)
        rw [subA0] at hsl
        go_wp2_with fail
        refine (l1Write_any _ _ _ _ (by omega) hsk).mono ?_
        rintro e w1 ⟨rfl, b1⟩
        have g1 := Below.comp (below_alloc wr _) b1
        have y0 := box_on (al1 wr _) b1
        have Y0 : Hid _ := y0
        have G1 : Hid _ := Below.comp hb g1
        clear b1 g1 y0
        rw [hf]
        go_wp2
        go_loopw [24] (fun i w2 => ∃ (j : Nat), j ≤ k ∧ i = .int .i64 j ∧ (∀ i, i < j → (gw l i).s ≠ (gw l k).s) ∧ Below w1.heap.size w1 w2) (fun i _ => k - (intOf i).toNat)
        case atStart => exact ⟨0, Nat.zero_le _, rfl, fun i hi => absurd hi (by omega), Below.refl _ _⟩
        case round =>
          obtain ⟨j, hj, rfl, hne, hb2⟩ := hrel
          have HNE : Hid _ := hne
          clear hne
          have gg := Below.comp G1.out hb2
          obtain ⟨y1, y2, _⟩ := box2_cells (box_on Y0.out hb2)
          by_cases hjk : j < k
          · obtain ⟨b', off', e1, hcell'⟩ := (ha.below gg) (by omega)
            cases e1
            obtain ⟨hcj, hcj2⟩ := hcell' j (by omega)
            have hjk' : (j : Int) < (k : Int) := by omega
            obtain ⟨y1', y2', _⟩ := box2_cells (box_on (box_on Y0.out hb2) (below_alloc wr (.cells #[.int .i64 (Tl l j), .string (Ul l j)] 63)))
            clear hcell' y1 y2
            by_cases he : Tl l j = Tl l k
            · have e := HN.out (fun h => (h.2.2 k hlt).2 j hjk he)
              subst e
              have he' : (Tl l j == Tl l k) = true := by simp [he]
              clear he
              go_wp2
              go_ret
              exact ⟨rfl, Below.comp gg (below_alloc _ _)⟩
            · have he' : (Tl l j == Tl l k) = false := by simp [he]
              have HE : Hid (¬ (gw l j).s = (gw l k).s) := he
              clear he
              go_wp2
              go_roundw
              case rel => exact ⟨j + 1, by omega, by go_num, fun i hi => by by_cases e : i = j; (· subst e; exact HE.out); (· exact HNE.out i (by omega)), Below.comp hb2 (below_alloc _ _)⟩
              case measure => simp [intOf]; omega
          · have hjk2 : j = k := by omega
            subst hjk2
            go_wp2
            go_roundw
            case rel => exact ⟨j + 1, by omega, by go_num, fun i hi => by by_cases e : i = j; (· subst e; exact ⟨HF.out, HNE.out⟩); (· exact HALL.out i (by omega)), gg⟩
            case measure => simp [intOf]; omega
    · have hkn : k = l.length := by omega
      subst hkn
      by_cases h18 : 1 ≤ l.length ∧ l.length ≤ 8
      · have e := HY.out ⟨h18.1, h18.2, HALL.out⟩
        subst e
        have hi : inB (l.length : Int) 1 8 = true := inB_true (by omega)
        go_wp2_with (go_at_call 45; refine (l1In_any _ _ _ _).mono ?_; rintro e w1 ⟨rfl, rfl⟩)
        go_ret
        exact ⟨rfl, hb⟩
      · have e := HN.out (fun h => h18 ⟨h.1, h.2.1⟩)
        subst e
        have hi : inB (l.length : Int) 1 8 = false := inB_false (by omega)
        go_wp2_with (go_at_call 45; refine (l1In_any _ _ _ _).mono ?_; rintro e w1 ⟨rfl, rfl⟩)
        go_ret
        exact ⟨rfl, hb⟩
end Go.Proofs.YtmijalmihfgolaaDoor
