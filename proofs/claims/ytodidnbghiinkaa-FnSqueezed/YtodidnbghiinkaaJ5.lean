import Derived.Test.YtodidnbghiinkaaJ4
import Derived.Laws.StructEq
/- Texts drawn; two rows of tokens held against each other. -/
namespace Go.Proofs.Ytodidnbghiinkaa
open Go.ChangeShapes Go.WideShapes Go.ChangeAt Go.RowKit
set_option linter.unusedVariables false
open Tz

attribute [local go_sem] Oper.semAt_some

theorem sqA_small (s : ByteArray) : (sqA s).size ≤ 610 := by
  unfold sqA
  split
  · rename_i h; rw [txt_size]; exact pk_610 (toks_good h)
  · exact Nat.zero_le _
theorem drawTok_any (a : Option Addr) (n cap : Nat) (S : Nat → Nat) (w : World) (hn : n ≤ 9223372036854775807) (hS : ∀ i, S i < 256) (h : At w a n (byJ S)) :
    Calls Try.prog 57 #[.slice a n cap] w fun e w' => (∃ u : ByteArray, e = .returned (.string u) ∧ u.size ≤ 700) ∧ Below w.heap.size w w' := by
  obtain ⟨W0, hW0⟩ : ∃ W0, w.alloc (.cells #[.slice a n cap, .int .i64 0, .int .u64 0] 66) = W0 := ⟨_, rfl⟩
  have c0 : Cur W0 w.heap.size a n cap 0 := by rw [← hW0]; exact Cur.new hS h
  have b0 : Below w.heap.size w W0 := by rw [← hW0]; exact below_alloc _ _
  have cR := repeats_any w.heap.size a n cap W0 hn c0
  clear h c0
  go_enter Try.func57, Try.ntmps57
  go_wp2_with fail
  refine cR.mono ?_
  rintro e w1 ⟨⟨u, rfl, hu⟩, o1, c1⟩
  go_wp2_with fail
  go_ret
  exact ⟨⟨u, rfl, hu⟩, b0.trans (o1.below b0.size)⟩
theorem drawSq_any (a : Option Addr) (n cap : Nat) (S : Nat → Nat) (w : World) (hn : n ≤ 9223372036854775807) (hS : ∀ i, S i < 256) (h : At w a n (byJ S)) :
    Calls Try.prog 35 #[.slice a n cap] w fun e w' => (∃ u : ByteArray, e = .returned (.string u) ∧ u.size ≤ 700) ∧ Below w.heap.size w w' := by
  have cR := drawTok_any a n cap S w hn hS h
  clear h
  go_enter Try.func35, Try.ntmps35
  go_wp2_with fail
  refine cR.mono ?_
  rintro e w1 ⟨⟨u, rfl, hu⟩, b1⟩
  go_wp2_with fail
  go_ret
  exact ⟨⟨u, rfl, hu⟩, b1⟩
theorem drawUnp_any (a : Option Addr) (n cap : Nat) (S : Nat → Nat) (w : World) (hn : n ≤ 9223372036854775807) (hS : ∀ i, S i < 256) (h : At w a n (byJ S)) :
    Calls Try.prog 36 #[.slice a n cap] w fun e w' => (∃ u : ByteArray, e = .returned (.string u) ∧ u.size ≤ 1010) ∧ Below w.heap.size w w' := by
  obtain ⟨W0, hW0⟩ : ∃ W0, w.alloc (.cells #[.slice a n cap, .int .i64 0, .int .u64 0] 66) = W0 := ⟨_, rfl⟩
  have c0 : Cur W0 w.heap.size a n cap 0 := by rw [← hW0]; exact Cur.new hS h
  have b0 : Below w.heap.size w W0 := by rw [← hW0]; exact below_alloc _ _
  have cR := repeats_any w.heap.size a n cap W0 hn c0
  clear h c0
  go_enter Try.func36, Try.ntmps36
  go_wp2_with fail
  refine cR.mono ?_
  rintro e w1 ⟨⟨u, rfl, hu⟩, o1, c1⟩
  have b1 : Below w.heap.size w w1 := b0.trans (o1.below b0.size)
  have cQ := specSq_any u w1 (by omega)
  have hq := sqA_small u
  generalize sqA u = q at *
  generalize decide (u.size ≤ 600) = B at *
  clear cR hW0
  go_wp2_with fail
  refine cQ.mono ?_
  rintro e w2 ⟨rfl, b2⟩
  have c2 := c1.below b2
  have g2 := b1.trans (b2.mono b1.size)
  clear cQ c1
  have cO := one_any 3 w.heap.size a n cap 1000 w2 (by omega) (by omega) hn (by omega) c2
  rw [show (((3 : Nat)) : Int) = 3 from rfl] at cO
  go_wp2_with fail
  refine cO.mono ?_
  rintro e w3 ⟨r, rfl, o3, c3⟩
  have g3 : Below w.heap.size w w3 := g2.trans (o3.below g2.size)
  clear cO c2
  cases r with
  | false =>
    go_wp2_with fail
    go_ret
    exact ⟨⟨q, rfl, by omega⟩, g3⟩
  | true =>
    have cS := spoilt_any w.heap.size a n cap _ q ⟨#[0, 64, 255]⟩ w3 hn (by omega) (by omega) (by decide) (by decide) c3
    go_wp2_with fail
    refine cS.mono ?_
    rintro e w4 ⟨⟨v, rfl, hv⟩, o4, c4⟩
    go_wp2_with fail
    go_ret
    exact ⟨⟨v, rfl, hv⟩, g3.trans (o4.below g3.size)⟩
theorem neqT (x : Tk) (w : World) : (binOp .neq 52 (tv x) (tv x)).run Try.prog w = .ok (.bool false) w := by
  have u3 := Try.underlying3
  have a3 := Try.isAgg3
  have z3 := Try.sizeOf3
  have u9 := Try.underlying9
  have a9 := Try.isAgg9
  have z9 := Try.sizeOf9
  have hS : Try.prog.underlying 52 = some (.struct (Try.prog.fieldsOf 52)) := by kernel_rfl
  have hp : Try.prog.stoodInHeld 52 = false := by kernel_rfl
  obtain ⟨p, d, n⟩ := x
  rw [run_neq_struct, show (10000 : Nat) = 9999 + 1 from rfl, run_equalIn_agg w 9999 52 _ _ hS hp]
  simp only [Program.fieldsOf, Try.underlying52]
  go_simp
theorem guardT (op : BinOp) (x y : Operand) (xs ys : Array Value) (w : World) : (eqGuard op 52 x y (.agg xs) (.agg ys)).run Try.prog w = .ok () w := run_eqGuard_agg w op _ x y xs ys (by kernel_rfl)
set_option maxHeartbeats 2000000 in
theorem sameTokens_any (a a' : Option Addr) (n cap cap' : Nat) (g : Nat → Tk) (w : World) (hn : n ≤ 9223372036854775807) (hc : RowT w a n g) (hc' : RowT w a' n g) :
    Calls Try.prog 37 #[.slice a n cap, .slice a' n cap'] w fun e w' => e = .returned (.bool true) ∧ Below w.heap.size w w' := by
  go_enter Try.func37, Try.ntmps37
  go_wp2
  go_loopw [13] (fun i wr => ∃ (k : Nat), k ≤ n ∧ i = .int .i64 k ∧ Below w.heap.size w wr) (fun i _ => n - (intOf i).toNat)
  case atStart => exact ⟨0, Nat.zero_le _, rfl, Below.refl _ _⟩
  case round =>
    obtain ⟨k, hk, rfl, hb⟩ := hrel
    by_cases hlt : k < n
    · obtain ⟨b, off, rfl, hcell⟩ := (hc.below hb) (by omega)
      obtain ⟨b', off', rfl, hcell'⟩ := (hc'.below hb) (by omega)
      obtain ⟨k0, k1, k2⟩ := hcell k hlt
      obtain ⟨k0', k1', k2'⟩ := hcell' k hlt
      have hlt' : (k : Int) < (n : Int) := by omega
      clear hcell hc hcell' hc'
      have cN := fun W => neqT (g k) W
      generalize g k = x at k0 k1 k2 k0' k1' k2' cN
      obtain ⟨pp, pd, pn⟩ := x
      simp only at k0 k1 k2 k0' k1' k2' cN
      have cG := fun op x y xs ys W => guardT op x y xs ys W
      have bD : ∀ q, Below w.heap.size w (wr.drewN q) := fun q => below_drewN hb q
      go_wp2_with fail
      go_quiet (fail)
      go_wp2
      go_roundw
      case rel => exact ⟨k + 1, by omega, by go_num, bD _⟩
      case measure => simp [intOf]; omega
    · go_wp2
      go_ret
      exact ⟨rfl, hb⟩
end Go.Proofs.Ytodidnbghiinkaa
