import Derived.Test.YtodidnbghiinkaaJ2
/- What FnLongest draws. -/
namespace Go.Proofs.Ytodidnbghiinkaa
open Go.ChangeShapes Go.WideShapes Go.ChangeAt Go.RowKit
set_option linter.unusedVariables false
open Tz

attribute [local go_sem] Oper.semAt_some

theorem drawLong_any (a : Option Addr) (n cap : Nat) (S : Nat → Nat) (w : World) (hn : n ≤ 9223372036854775807) (hS : ∀ i, S i < 256) (h : At w a n (byJ S)) :
    Calls Try.prog 34 #[.slice a n cap] w fun e w' => (∃ (u : ByteArray) (z : Int), e = .returned (.tuple #[.string u, .int .i64 z]) ∧ u.size ≤ 700 ∧ -1 ≤ z ∧ z ≤ 1000) ∧ Below w.heap.size w w' := by
  obtain ⟨W0, hW0⟩ : ∃ W0, w.alloc (.cells #[.slice a n cap, .int .i64 0, .int .u64 0] 66) = W0 := ⟨_, rfl⟩
  have c0 : Cur W0 w.heap.size a n cap 0 := by rw [← hW0]; exact Cur.new hS h
  have b0 : Below w.heap.size w W0 := by rw [← hW0]; exact below_alloc _ _
  have cR := repeats_any w.heap.size a n cap W0 hn c0
  clear h c0
  go_enter Try.func34, Try.ntmps34
  go_wp2_with fail
  refine cR.mono ?_
  rintro e w1 ⟨⟨u, rfl, hu⟩, o1, c1⟩
  have b1 : Below w.heap.size w w1 := b0.trans (o1.below b0.size)
  have ew : IntKind.i64.wrap ((u.size : Int) + 3) = ((u.size + 3 : Nat) : Int) := by rw [wrapI (by omega) (by omega)]; omega
  have cP := pick_any (u.size + 3) w.heap.size a n cap 1000 w1 (by omega) (by omega) hn (by omega) c1
  clear cR hW0 c1
  obtain ⟨Q, hQ⟩ : ∃ Q : Int, ((u.size + 3 : Nat) : Int) = Q := ⟨_, rfl⟩
  rw [hQ] at ew cP
  clear hQ
  go_wp2_with fail
  refine cP.mono ?_
  rintro e w2 ⟨r, rfl, hr, o2, c2⟩
  have b2 : Below w.heap.size w w2 := b1.trans (o2.below b1.size)
  have ew2 : IntKind.i64.wrap ((r : Int) - 1) = (r : Int) - 1 := wrapI (by omega) (by omega)
  go_wp2_with fail
  go_ret2
  exact ⟨⟨u, (r : Int) - 1, rfl, hu, by omega, by omega⟩, b2⟩
end Go.Proofs.Ytodidnbghiinkaa
