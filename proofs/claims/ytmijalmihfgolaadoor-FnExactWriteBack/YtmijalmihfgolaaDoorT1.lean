import Derived.Test.YtmijalmihfgolaaDoorS1
import Derived.Test.YtmijalmihfgolaaDoorP2
import Derived.Laws.BitsAllLaws
/- Rows of writes as lists; whether they are a transaction: both sides. -/
namespace Go.Proofs.YtmijalmihfgolaaDoor
open Go.ChangeShapes Go.WideShapes Go.ChangeAt Go.RowKit
set_option linter.unusedVariables false
open Tx

attribute [local go_sem] Oper.semAt_some

/-- A row of writes that can be read. -/
abbrev RowW (w : World) (a : Option Addr) (l : List Wr) : Prop := At2 w a l.length (Tl l) (Ul l)
theorem fitB_fit (n : Nat) (x : Wr) : fitB n x.s x.d = fit n x := rfl
/-- The texts of a list of writes are not too long for the model. -/
def Few (l : List Wr) : Prop := ∀ i, i < l.length → (gw l i).d.size ≤ 9223372036854775807
def dP (T : Nat → Int) (k : Nat) (j : Nat) : Bool := decide (∃ i, i < k ∧ T i = (j : Int))
theorem dP_succ (T : Nat → Int) (k j : Nat) : dP T (k + 1) j = (dP T k j || decide (T k = (j : Int))) := by
  unfold dP
  rw [← Bool.decide_or, decide_eq_decide]
  constructor
  · rintro ⟨i, hi, h⟩
    by_cases e : i = k
    · subst e; exact .inr h
    · exact .inl ⟨i, by omega, h⟩
  · rintro (⟨i, hi, h⟩ | h)
    · exact ⟨i, by omega, h⟩
    · exact ⟨k, by omega, h⟩
def zeros32 : Array Value := #[.bool false, .bool false, .bool false, .bool false, .bool false, .bool false, .bool false, .bool false, .bool false, .bool false, .bool false, .bool false, .bool false, .bool false, .bool false, .bool false, .bool false, .bool false, .bool false, .bool false, .bool false, .bool false, .bool false, .bool false, .bool false, .bool false, .bool false, .bool false, .bool false, .bool false, .bool false, .bool false]
theorem zeros32_bools (T : Nat → Int) : bools 32 (dP T 0) zeros32 := by
  have h : ∀ j, dP T 0 j = false := fun j => decide_eq_false (by rintro ⟨i, hi, _⟩; omega)
  have h2 : ∀ j, j < 32 → zeros32[j]? = some (.bool false) := fun j hj => by rw [show zeros32 = Array.replicate 32 (.bool false) from rfl]; simp [hj]
  intro j hj
  rw [h2 j hj, h j]
theorem bools_set {T : Nat → Int} {k t : Nat} {c : Array Value} (hs : c.size = 32) (h : bools 32 (dP T k) c) (ht : T k = t) (h32 : t < 32) : bools 32 (dP T (k + 1)) (c.setIfInBounds t (.bool true)) := by
  intro j hj
  rw [dP_succ, ht]
  by_cases e : j = t
  · subst e; rw [set_at (by omega)]; simp
  · rw [set_ne e, h j hj]
    have : decide ((t : Int) = (j : Int)) = false := by simp; omega
    rw [this, Bool.or_false]

set_option maxHeartbeats 2000000 in
theorem isTxn_any (a : Option Addr) (c : Nat) (l : List Wr) (n : Nat) (w : World) (hn : n ≤ 32) (hl : l.length ≤ 9223372036854775807) (hs : Few l) (ha : RowW w a l) :
    Calls Tryd.prog 59 #[.slice a l.length c, .int .i64 n] w fun e w' => e = .returned (.bool (txB n l)) ∧ Below w.heap.size w w' := by
  have HN : Hid (∀ h : ¬ (1 ≤ l.length ∧ l.length ≤ 8 ∧ ∀ i, i < l.length → (fit n (gw l i) = true ∧ ∀ j, j < i → (gw l j).s ≠ (gw l i).s)), txB n l = false) := fun h => txB_no h
  have HY : Hid (∀ h : (1 ≤ l.length ∧ l.length ≤ 8 ∧ ∀ i, i < l.length → (fit n (gw l i) = true ∧ ∀ j, j < i → (gw l j).s ≠ (gw l i).s)), txB n l = true) := fun h => txB_iff.2 h
  generalize txB n l = R at HN HY ⊢
  by_cases h1 : l.length < 1
  · have e := HN.out (by omega)
    subst e
    have d1 : decide ((l.length : Int) < 1) = true := by simp; omega
    go_enter Tryd.func59, Tryd.ntmps59
    go_wp2
    go_ret
    exact ⟨rfl, Below.refl _ _⟩
  have d1 : decide ((l.length : Int) < 1) = false := by simp; omega
  by_cases h2 : 8 < l.length
  · have e := HN.out (by omega)
    subst e
    have d2 : decide ((8 : Int) < (l.length : Int)) = true := by simp; omega
    go_enter Tryd.func59, Tryd.ntmps59
    go_wp2
    go_ret
    exact ⟨rfl, Below.refl _ _⟩
  have d2 : decide ((8 : Int) < (l.length : Int)) = false := by simp; omega
  go_enter Tryd.func59, Tryd.ntmps59
  go_wp2
  clear d1 d2
  have e32 : (#[.bool false, .bool false, .bool false, .bool false, .bool false, .bool false, .bool false, .bool false, .bool false, .bool false, .bool false, .bool false, .bool false, .bool false, .bool false, .bool false, .bool false, .bool false, .bool false, .bool false, .bool false, .bool false, .bool false, .bool false, .bool false, .bool false, .bool false, .bool false, .bool false, .bool false, .bool false, .bool false] : Array Value) = zeros32 := rfl
  rw [e32]
  clear e32
  obtain ⟨W, hW⟩ : ∃ W, W = w.alloc (.cells zeros32 101) := ⟨_, rfl⟩
  have rW : Hid (W.heap[w.heap.size]? = some (.cells zeros32 101 (0, 0))) := by rw [hW]; exact block_new rfl
  have gW : Below w.heap.size w W := by rw [hW]; exact below_alloc _ _
  rw [← hW]
  clear hW
  go_loopw [18] (fun i wr => ∃ (k : Nat) (cs : Array Value), k ≤ l.length ∧ i = .int .i64 k ∧ wr.heap[w.heap.size]? = some (.cells cs 101 (0, 0)) ∧ cs.size = 32 ∧ bools 32 (dP (Tl l) k) cs ∧ (∀ i, i < k → (fit n (gw l i) = true ∧ ∀ j, j < i → (gw l j).s ≠ (gw l i).s)) ∧ Below w.heap.size w wr) (fun i _ => l.length - (intOf i).toNat)
  case atStart => exact ⟨0, _, Nat.zero_le _, rfl, rW.out, rfl, zeros32_bools _, fun i hi => absurd hi (by omega), gW⟩
  case round =>
    obtain ⟨k, cs, hk, rfl, hB, hcs, hst, hall, hb⟩ := hrel
    have HB : Hid _ := hB
    have HST : Hid _ := hst
    have HALL : Hid _ := hall
    clear hB hst hall rW gW
    by_cases hlt : k < l.length
    · obtain ⟨b, off, rfl, hcell⟩ := (ha.below hb) (by omega)
      obtain ⟨hck, hck2⟩ := hcell k hlt
      have hsk : (Ul l k).size ≤ 9223372036854775807 := hs k hlt
      have hlt' : (k : Int) < (l.length : Int) := by omega
      clear hcell
      cases hf : fitB n (Tl l k) (Ul l k)
      · have e := HN.out (fun h => by have := (h.2.2 k hlt).1; rw [← fitB_fit] at this; exact absurd (hf.symm.trans this) (by simp))
        subst e
        go_wp2_with (go_at_call 88; refine (fits_any _ _ _ _ (by omega) hsk).mono ?_; rintro e w1 ⟨rfl, b1⟩)
        go_ret
        exact ⟨rfl, Below.comp hb (Below.comp (below_alloc _ _) b1)⟩
      · obtain ⟨f1, f2, f3⟩ := fitB_spec hf
        obtain ⟨t, ht⟩ : ∃ t : Nat, Tl l k = t := ⟨(Tl l k).toNat, by omega⟩
        have HT : Hid (Tl l k = t) := ht
        have HF : Hid (fit n (gw l k) = true) := hf
        have hC : ∀ w1, Below wr.heap.size wr w1 → w1.heap[w.heap.size]? = some (.cells cs 101 (0, 0)) := fun w1 h => box_on HB.out h
        rw [ht] at hck hf
        have ht32 : t < 32 := by omega
        have ht32' : (t : Int) < 32 := by omega
        clear f1 f2 ht
        go_wp2_with fail
        refine (fits_any _ _ _ _ (by omega) hsk).mono ?_
        rintro e w1 ⟨rfl, b1⟩
        have g1 := Below.comp (below_alloc _ _) b1
        have hB1 := hC _ g1
        have x0 : w1.cell? ⟨w.heap.size, t, none⟩ = some (.bool (dP (Tl l) k t)) := cell_of_block hB1 (HST.out t ht32)
        have x1 : w1.frozen? ⟨w.heap.size, t, none⟩ = false := free_of_block hB1
        have y0 := box_on (al1 wr _) b1
        obtain ⟨y1, y2, _⟩ := box2_cells y0
        have HB1 : Hid _ := hB1
        clear y0 hB1 hC
        rw [hf]
        cases hd : dP (Tl l) k t
        · rw [hd] at x0
          go_wp2
          go_roundw
          case rel =>
            refine ⟨k + 1, _, by omega, by go_num, block_set HB1.out, by simpa using hcs, bools_set hcs HST.out HT.out ht32, ?_, (Below.comp hb g1).setCell (by simp) _⟩
            intro i hi
            by_cases e : i = k
            · subst e
              refine ⟨HF.out, fun j hj e2 => ?_⟩
              have : dP (Tl l) i t = true := decide_eq_true ⟨j, hj, e2.trans HT.out⟩
              rw [hd] at this
              cases this
            · exact HALL.out i (by omega)
          case measure => simp [intOf]; omega
        · rw [hd] at x0
          have e := HN.out (fun h => by
            obtain ⟨j, hj, e2⟩ := of_decide_eq_true hd
            exact (h.2.2 k hlt).2 j hj (e2.trans HT.out.symm))
          subst e
          go_wp2
          go_ret
          exact ⟨rfl, Below.comp hb g1⟩
    · have hkn : k = l.length := by omega
      subst hkn
      have e := HY.out ⟨by omega, by omega, HALL.out⟩
      subst e
      go_wp2
      go_ret
      exact ⟨rfl, hb⟩
end Go.Proofs.YtmijalmihfgolaaDoor
