import Derived.Test.YtjalhfpjiakhoaaK5
namespace Go.Proofs.Ytjalhfpjiakhoaa
open Go.ChangeShapes Go.WideShapes Go.ChangeAt Go.RowKit
set_option linter.unusedVariables false

theorem mine_none (w : World) (B C : Nat) (e : TypeId) (a : Option Addr) (p : Array Value → Prop) : Mine w B C e 0 a p := .inl rfl

/-- A device of one's own: both its slices in rows of their own. -/
def MineD (w : World) (B C : Nat) (x y : Option Addr) (N M : Nat) (S : Nat → ByteArray) (T : Nat → Int) (U : Nat → ByteArray) : Prop :=
  Mine w B C 9 N x (strs N S) ∧ Mine w B C 42 M y (wrts M T U)
theorem MineD.below {w w' : World} {B C : Nat} {x y : Option Addr} {N M : Nat} {S : Nat → ByteArray} {T : Nat → Int} {U : Nat → ByteArray} (h : MineD w B C x y N M S T U) (hb : Below w.heap.size w w') : MineD w' B C x y N M S T U := ⟨h.1.below hb, h.2.below hb⟩
theorem MineD.mono {w : World} {B C B' C' : Nat} {x y : Option Addr} {N M : Nat} {S : Nat → ByteArray} {T : Nat → Int} {U : Nat → ByteArray} (h : MineD w B C x y N M S T U) (h1 : B' ≤ B) (h2 : C ≤ C') : MineD w B' C' x y N M S T U := ⟨h.1.mono h1 h2, h.2.mono h1 h2⟩
theorem MineD.out {w w' : World} {B C B' C' : Nat} {x y : Option Addr} {N M : Nat} {S : Nat → ByteArray} {T : Nat → Int} {U : Nat → ByteArray} (h : MineD w B C x y N M S T U) (ho : Out B' C' w w') (hd : C ≤ B' ∨ C' ≤ B) : MineD w' B C x y N M S T U := ⟨h.1.out ho hd, h.2.out ho hd⟩

def flushN (n m : Nat) (S : Nat → ByteArray) (T : Nat → Int) (U : Nat → ByteArray) : Nat := bif goodB n m S T U then n else 0

set_option maxHeartbeats 800000 in
theorem specFlush_any (a a' : Option Addr) (n m ca ca' : Nat) (S : Nat → ByteArray) (T : Nat → Int) (U : Nat → ByteArray) (w : World) (hn : n ≤ 1048576) (hm : m ≤ 1048576)
    (ha : At w a n fun i => .string (S i)) (ha' : At2 w a' m T U) (hs : ∀ i, i < n → (S i).size ≤ 9223372036854775807) (hs' : ∀ i, i < m → (U i).size ≤ 9223372036854775807) :
    Calls Try.prog 27 #[.agg #[.slice a n ca, .slice a' m ca']] w fun e w' => Below w.heap.size w w' ∧ ∃ x cx y cy, e = .returned (.tuple #[.agg #[.slice x (flushN n m S T U) cx, .slice y 0 cy], .bool (goodB n m S T U)]) ∧
      MineD w' w.heap.size w'.heap.size x y (flushN n m S T U) 0 (doneS S T U m) T U := by
  have h0 : ∀ o1 o2, Below w.heap.size w ((w.alloc o1).alloc o2) := fun o1 o2 => (below_alloc _ _).alloc (by simp) _
  cases hg : goodB n m S T U
  · have e0 : flushN n m S T U = 0 := by simp [flushN, hg]
    rw [e0]
    go_enter Try.func27, Try.ntmps27
    go_wp2_with (go_at_call 18; refine (specGood_any a a' n m ca ca' S T U _ hn hm (ha.below (h0 _ _)) (ha'.below (h0 _ _)) hs hs').mono ?_; rintro e w1 ⟨rfl, b1⟩; obtain ⟨c1, f1⟩ := bcell b1)
    refine bodyPost_ret (v := .tuple #[.agg #[.slice none 0 0, .slice none 0 0], .bool false]) (by simp [results, Try.results27, go_sem, c1]) rfl ⟨?_, none, 0, none, 0, rfl, mine_none _ _ _ _ _ _, mine_none _ _ _ _ _ _⟩
    have g1 := Below.comp (h0 _ _) b1
    refine (g1.setCell ?_ _).setCell ?_ _ <;> simp
  · have e0 : flushN n m S T U = n := by simp [flushN, hg]
    rw [e0]
    obtain ⟨q1, q2, q3, q4, q5⟩ := goodB_spec hg
    go_enter Try.func27, Try.ntmps27
    go_wp2_with fail
    refine (specGood_any a a' n m ca ca' S T U _ hn hm (ha.below (h0 _ _)) (ha'.below (h0 _ _)) hs hs').mono ?_
    rintro e w1 ⟨rfl, b1⟩
    have g1 := Below.comp (h0 _ _) b1
    obtain ⟨c1, f1⟩ := bcell b1
    obtain ⟨z0, z1⟩ : w.heap.size < w1.heap.size ∧ w.heap.size + 1 < w1.heap.size := by have := b1.size; simp at this; omega
    clear b1 h0
    go_wp2_with fail
    refine (l1Done_any a a' n m ca ca' S T U _ q1 q2 q3 (ha.below g1) (ha'.below g1) q5).mono ?_
    rintro e w2 ⟨b2, x, cx, rfl, mx⟩
    have g2 := Below.comp g1 b2
    obtain ⟨c2, f2⟩ := bcell b2
    go_wp2
    refine bodyPost_ret (v := .tuple #[.agg #[.slice x n cx, .slice none 0 0], .bool true]) (by simp [results, Try.results27, go_sem, c1, c2, z1]) rfl ⟨?_, x, cx, none, 0, rfl, ?_, mine_none _ _ _ _ _ _⟩
    · refine (g2.setCell ?_ _).setCell ?_ _ <;> simp
    · exact (mx.out (((Out.refl (w.heap.size + 1) (w.heap.size + 2) w2).setCell (by omega) (by omega) _ _).setCell (by omega) (by omega) _ _) (.inr (by omega))).mono g1.size (by simp)
set_option maxHeartbeats 800000 in
theorem implFlush_any (a a' : Option Addr) (n m ca ca' : Nat) (S : Nat → ByteArray) (T : Nat → Int) (U : Nat → ByteArray) (w : World) (hn : n ≤ 1048576) (hm : m ≤ 1048576)
    (ha : At w a n fun i => .string (S i)) (ha' : At2 w a' m T U) (hs : ∀ i, i < n → (S i).size ≤ 9223372036854775807) (hs' : ∀ i, i < m → (U i).size ≤ 9223372036854775807) :
    Calls Try.prog 28 #[.agg #[.slice a n ca, .slice a' m ca']] w fun e w' => Below w.heap.size w w' ∧ ∃ x cx y cy, e = .returned (.tuple #[.agg #[.slice x (flushN n m S T U) cx, .slice y 0 cy], .bool (goodB n m S T U)]) ∧
      MineD w' w.heap.size w'.heap.size x y (flushN n m S T U) 0 (doneS S T U m) T U := by
  have h0 : ∀ o1 o2, Below w.heap.size w ((w.alloc o1).alloc o2) := fun o1 o2 => (below_alloc _ _).alloc (by simp) _
  cases hg : goodB n m S T U
  · have e0 : flushN n m S T U = 0 := by simp [flushN, hg]
    rw [e0]
    go_enter Try.func28, Try.ntmps28
    go_wp2_with (go_at_call 20; refine (implGood_any a a' n m ca ca' S T U _ hn hm (ha.below (h0 _ _)) (ha'.below (h0 _ _)) hs hs').mono ?_; rintro e w1 ⟨rfl, b1⟩; obtain ⟨c1, f1⟩ := bcell b1)
    refine bodyPost_ret (v := .tuple #[.agg #[.slice none 0 0, .slice none 0 0], .bool false]) (by simp [results, Try.results28, go_sem, c1]) rfl ⟨?_, none, 0, none, 0, rfl, mine_none _ _ _ _ _ _, mine_none _ _ _ _ _ _⟩
    have g1 := Below.comp (h0 _ _) b1
    refine (g1.setCell ?_ _).setCell ?_ _ <;> simp
  · have e0 : flushN n m S T U = n := by simp [flushN, hg]
    rw [e0]
    obtain ⟨q1, q2, q3, q4, q5⟩ := goodB_spec hg
    go_enter Try.func28, Try.ntmps28
    go_wp2_with fail
    refine (implGood_any a a' n m ca ca' S T U _ hn hm (ha.below (h0 _ _)) (ha'.below (h0 _ _)) hs hs').mono ?_
    rintro e w1 ⟨rfl, b1⟩
    have g1 := Below.comp (h0 _ _) b1
    obtain ⟨c1, f1⟩ := bcell b1
    obtain ⟨z0, z1⟩ : w.heap.size < w1.heap.size ∧ w.heap.size + 1 < w1.heap.size := by have := b1.size; simp at this; omega
    clear b1 h0
    go_wp2_with fail
    refine (settle_any a a' a' n m m ca ca' ca' S T U _ q1 q2 q3 (ha.below g1) (ha'.below g1) q4 q5).mono ?_
    rintro e w2 ⟨b2, x, cx, rfl, mx⟩
    have g2 := Below.comp g1 b2
    obtain ⟨c2, f2⟩ := bcell b2
    go_wp2
    refine bodyPost_ret (v := .tuple #[.agg #[.slice x n cx, .slice none 0 0], .bool true]) (by simp [results, Try.results28, go_sem, c1, c2, z1]) rfl ⟨?_, x, cx, none, 0, rfl, ?_, mine_none _ _ _ _ _ _⟩
    · refine (g2.setCell ?_ _).setCell ?_ _ <;> simp
    · exact (mx.out (((Out.refl (w.heap.size + 1) (w.heap.size + 2) w2).setCell (by omega) (by omega) _ _).setCell (by omega) (by omega) _ _) (.inr (by omega))).mono g1.size (by simp)
end Go.Proofs.Ytjalhfpjiakhoaa
