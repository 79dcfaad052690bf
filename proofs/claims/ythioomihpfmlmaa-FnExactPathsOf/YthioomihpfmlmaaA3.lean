import Derived.Test.YthioomihpfmlmaaA2
import Derived.Test.YthioomihpfmlmaaP2
import Derived.Shelf.Abstract
/- The program: names as said, places, rows of names that are all so. -/
namespace Go.Proofs.Ythioomihpfmlmaa
open Go.ChangeShapes Go.WideShapes Go.ChangeAt Go.RowKit
set_option linter.unusedVariables false
open Hd

attribute [local go_sem] Oper.semAt_some

set_option maxHeartbeats 1000000 in
theorem isName_any (s : ByteArray) (w : World) (hs : s.size ≤ 9223372036854775807) :
    Calls Try.prog 41 #[.string s] w fun e w' => e = .returned (.bool (isN s)) ∧ w' = w := by
  by_cases hz : 1 ≤ s.size ∧ s.size ≤ 12
  · obtain ⟨h1, h12⟩ := hz
    go_enter Try.func41, Try.ntmps41
    go_wp2
    go_loop [14] (fun i => ∃ k : Nat, k ≤ s.size ∧ i = .int .i64 k ∧ ((bt s).take k).all okB = true) (fun i => s.size - (intOf i).toNat)
    case atStart => exact ⟨0, Nat.zero_le _, rfl, rfl⟩
    case round =>
      obtain ⟨k, hk, rfl, ha⟩ := hrel
      have HA : Hid _ := ha
      clear ha
      by_cases hlt : k < s.size
      · have HT : Hid _ := all_take hlt
        have HF : Hid (okB s[k] = false → isN s = false) := fun h => isN_bad hlt h
        have e := okB_is s[k]
        have c := fun W => indexByte_any nbl (s[k].toNat : Int) W
        generalize Lib.indexByte (bt nbl) (Int.toNat (s[k].toNat : Int)).toUInt8 = r at e c
        generalize okB s[k] = o at *
        cases o with
        | true =>
          simp only [Bool.not_true] at e
          go_wp2_with (go_at_call 49; refine (c _).mono ?_; rintro e w' ⟨rfl, rfl⟩)
          go_round
          case rel => exact ⟨k + 1, by omega, by go_num, by rw [HT.out, HA.out]; rfl⟩
          case measure => simp [intOf]; omega
        | false =>
          simp only [Bool.not_false] at e
          have HR : Hid _ := HF.out rfl
          go_wp2_with (go_at_call 49; refine (c _).mono ?_; rintro e w' ⟨rfl, rfl⟩)
          go_ret
          exact ⟨ret_bool HR.out.symm, rfl⟩
      · have e : (bt s).take k = bt s := List.take_of_length_le (by simp; omega)
        have HA' := HA.out
        rw [e] at HA'
        have hN : isN s = true := by
          unfold isN
          rw [HA', Bool.true_and]
          simp
          omega
        have HN : Hid _ := hN
        clear hN HA HA' e
        go_wp2
        go_ret
        exact ⟨ret_bool HN.out.symm, rfl⟩
  · have hN : isN s = false := by
      unfold isN
      have : (decide (1 ≤ s.size) && decide (s.size ≤ 12)) = false := by
        rw [Bool.and_eq_false_iff, decide_eq_false_iff_not, decide_eq_false_iff_not]
        omega
      rw [this, Bool.and_false]
    have HN : Hid _ := hN
    clear hN
    by_cases h1 : s.size < 1
    · have h1' : (s.size : Int) < 1 := by omega
      go_enter Try.func41, Try.ntmps41
      go_wp2
      go_ret
      exact ⟨ret_bool HN.out.symm, rfl⟩
    · have h1' : ¬ (s.size : Int) < 1 := by omega
      have h2' : (12 : Int) < (s.size : Int) := by omega
      go_enter Try.func41, Try.ntmps41
      go_wp2
      go_ret
      exact ⟨ret_bool HN.out.symm, rfl⟩
/-- A name and its file are as said. -/
def isE (x : Nm) : Bool := isN x.nm && isF x.fl
abbrev pv (d f : Nat) : Value := .agg #[.int .i64 (d : Int), .int .i64 (f : Int)]
/-- A bool is told, true just where this holds. -/
def Tel (e : Ending) (Q : Prop) : Prop := ∃ r : Bool, e = .returned (.bool r) ∧ (r = true ↔ Q)
theorem Tel.yes {e : Ending} {Q : Prop} (he : e = .returned (.bool true)) (h : Q) : Tel e Q := ⟨true, he, by simpa using h⟩
theorem Tel.no {e : Ending} {Q : Prop} (he : e = .returned (.bool false)) (h : ¬ Q) : Tel e Q := ⟨false, he, by simpa using h⟩
set_option maxHeartbeats 1000000 in
theorem allAre_any (a : Option Addr) (l : List Nm) (cap : Nat) (f : Nat) (pre : Array Value) (cap' : Array Value) (p : Nm → Bool) (w : World) (hn : l.length ≤ 9223372036854775807) (hc : Nms w a l)
    (hcf : ∀ (args : Array Value) (u : World), (callFunc f args).run Try.prog u = .ok (.enter f args) u)
    (hp : ∀ i W, i < l.length → Calls Try.prog f (pre.push (nv (gm l i)) ++ cap') W fun e W' => e = .returned (.bool (p (gm l i))) ∧ Below W.heap.size W W') :
    Calls Try.prog 42 #[.slice a l.length cap, .func (.func f) pre cap'] w fun e w' => Tel e (∀ i, i < l.length → p (gm l i) = true) ∧ Below w.heap.size w w' := by
  unfold Nms at hc
  have Hc : Hid _ := hc
  have Hp : Hid _ := hp
  clear hc hp
  obtain ⟨n, hln⟩ : ∃ n, l.length = n := ⟨_, rfl⟩
  rw [hln] at hn Hc Hp ⊢
  clear hln
  go_enter Try.func42, Try.ntmps42
  go_wp2
  go_loopw [9] (fun i wr => ∃ (k : Nat), k ≤ n ∧ i = .int .i64 k ∧ Hid (∀ i, i < k → p (gm l i) = true) ∧ Below w.heap.size w wr) (fun i _ => n - (intOf i).toNat)
  case atStart => exact ⟨0, Nat.zero_le _, rfl, fun i hi => absurd hi (by omega), Below.refl _ _⟩
  case round =>
    obtain ⟨k, hk, rfl, HI, hb⟩ := hrel
    by_cases hlt : k < n
    · obtain ⟨b, off, rfl, hcell⟩ := Hc.out (by omega)
      obtain ⟨k0, k1⟩ := (hcell k hlt).below hb
      clear hcell Hc
      have cp := fun W => Hp.out k W hlt
      obtain ⟨r, hr⟩ : ∃ r, p (gm l k) = r := ⟨_, rfl⟩
      have HR : Hid _ := hr
      rw [hr] at cp
      clear hr
      unfold nv at cp
      generalize (gm l k).nm = s at *
      generalize (gm l k).fl = fl at *
      go_wp2_with fail
      refine (cp _).mono ?_
      rintro e w1 ⟨rfl, b1⟩
      have g1 := Below.comp hb (Below.comp (below_alloc _ _) b1)
      clear k0 k1 cp
      cases r with
      | true =>
        go_wp2_with fail
        go_roundw
        case rel => exact ⟨k + 1, by omega, by go_num, fun i hi => by by_cases e : i = k; (· subst e; exact HR.out); (· exact HI.out i (by omega)), g1⟩
        case measure => simp [intOf]; omega
      | false =>
        go_wp2_with fail
        go_ret
        exact ⟨Tel.no rfl (fun h => by have := h k hlt; rw [HR.out] at this; cases this), g1⟩
    · go_wp2
      go_ret
      exact ⟨Tel.yes rfl (fun i hi => HI.out i (by omega)), hb⟩
end Go.Proofs.Ythioomihpfmlmaa
