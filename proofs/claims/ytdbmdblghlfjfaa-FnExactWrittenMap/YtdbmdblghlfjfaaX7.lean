import Derived.Test.YtdbmdblghlfjfaaX6
import Derived.Test.YtdbmdblghlfjfaaD1
/- Both BlocksOfs. -/
namespace Go.Proofs.Ytdbmdblghlfjfaa
open Go.ChangeShapes Go.WideShapes Go.ChangeAt Go.RowKit
set_option linter.unusedVariables false
open Mp

attribute [local go_sem] Oper.semAt_some

/-- What BlocksOf answers. -/
def bkR (G : Bool) (l : List Pc) : List Ex := bif G then plX l else []
theorem len_bkR {G : Bool} {l : List Pc} : (bkR G l).length ≤ l.length := by
  cases G
  · simp [bkR]
  · exact len_plX l
theorem OwnR.form {w : World} {B : Nat} {v : Value} {l : List Ex} (h : OwnR w B v l) : ∃ x c, v = .slice x l.length c ∧ Own w B w.heap.size x l := by
  obtain ⟨x, c, rfl⟩ := owns_form h
  exact ⟨x, c, rfl, (OwnR.own h).1⟩
set_option maxHeartbeats 1000000 in
theorem implBlocks_any (a : Option Addr) (c : Nat) (l : List Pc) (G : Bool) (hG : G = true ↔ GM l) (w : World) (hn : l.length ≤ 1048576) (hc : l.length ≤ c) (hf : ∀ p, p ∈ l → Few p) (ha : Pcs w a l) :
    Calls Try.prog 36 #[mv a l.length c] w fun e w' => Below w.heap.size w w' ∧ ∃ x cx, e = .returned (.tuple #[.slice x (bkR G l).length cx, .bool G]) ∧ Own w' w.heap.size w'.heap.size x (bkR G l) := by
  obtain ⟨W0, hW0⟩ : ∃ W0, w.alloc (.cells #[.slice a l.length c] 29) = W0 := ⟨_, rfl⟩
  have q0 : Below w.heap.size w W0 := by subst hW0; exact below_alloc _ _
  have HA : Hid (W0.heap[w.heap.size]? = some (.cells #[.slice a l.length c] 29 (0, 0))) := by subst hW0; exact al1 _ _
  have i0 := (box1_cells HA.out).1
  have c1 := implGood_any a c l G hG W0 hn hc hf (ha.below q0)
  have HC : Hid (GM l → ∀ W, Below w.heap.size w W → Calls Try.prog 64 #[.slice a l.length c] W fun e w' => Below W.heap.size W w' ∧ ∃ v, e = .returned v ∧ OwnR w' W.heap.size v (plX l)) := fun h W hb => places_any a c l W h.1 h.apart (ha.below hb)
  unfold bkR
  cases G with
  | false =>
    clear HC hG ha hf
    generalize l.length = n at *
    go_enter Try.func36, Try.ntmps36
    go_wp2_with (go_at_call 15; refine c1.mono ?_; rintro e w1 ⟨rfl, b1⟩)
    go_ret2
    exact ⟨Below.comp q0 b1, none, 0, rfl, .inl rfl⟩
  | true =>
    have c2 := HC.out (hG.1 rfl)
    clear HC hG ha hf
    simp only [cond_true]
    generalize plX l = R at *
    generalize l.length = n at *
    go_enter Try.func36, Try.ntmps36
    go_wp2_with fail
    refine c1.mono ?_
    rintro e w1 ⟨rfl, b1⟩
    clear hW0 i0
    have i0 := (box1_cells (box_on HA.out b1)).1
    have g1 := Below.comp q0 b1
    go_wp2_with fail
    refine (c2 _ g1).mono ?_
    rintro e w2 ⟨b2, v, rfl, hO⟩
    obtain ⟨x, cx, rfl, hOw⟩ := OwnR.form hO
    have HO : Hid _ := hOw
    clear hO hOw
    go_wp2_with fail
    go_ret2
    exact ⟨Below.comp g1 b2, x, cx, rfl, Mine.mono HO.out g1.size (Nat.le_refl _)⟩
set_option maxHeartbeats 1000000 in
theorem specBlocks_any (a : Option Addr) (c : Nat) (l : List Pc) (G : Bool) (hG : G = true ↔ GM l) (w : World) (hn : l.length ≤ 1048576) (hc : l.length ≤ c) (ha : Pcs w a l) :
    Calls Try.prog 35 #[mv a l.length c] w fun e w' => Below w.heap.size w w' ∧ ∃ x cx, e = .returned (.tuple #[.slice x (bkR G l).length cx, .bool G]) ∧ Own w' w.heap.size w'.heap.size x (bkR G l) := by
  obtain ⟨W0, hW0⟩ : ∃ W0, w.alloc (.cells #[.slice a l.length c] 29) = W0 := ⟨_, rfl⟩
  have q0 : Below w.heap.size w W0 := by subst hW0; exact below_alloc _ _
  have HA : Hid (W0.heap[w.heap.size]? = some (.cells #[.slice a l.length c] 29 (0, 0))) := by subst hW0; exact al1 _ _
  have i0 := (box1_cells HA.out).1
  have c1 := specGood_any a c l G hG W0 hn hc (ha.below q0)
  have HC : Hid (GM l → ∀ W, Below w.heap.size w W → Calls Try.prog 62 #[.slice a l.length c] W fun e w' => Below W.heap.size W w' ∧ ∃ v, e = .returned v ∧ OwnR w' W.heap.size v (plX l)) := fun h W hb => l9Extents_any a c l W h.1 h.apart.1 (ha.below hb)
  unfold bkR
  cases G with
  | false =>
    clear HC hG ha
    generalize l.length = n at *
    go_enter Try.func35, Try.ntmps35
    go_wp2_with (go_at_call 13; refine c1.mono ?_; rintro e w1 ⟨rfl, b1⟩)
    go_ret2
    exact ⟨Below.comp q0 b1, none, 0, rfl, .inl rfl⟩
  | true =>
    have c2 := HC.out (hG.1 rfl)
    clear HC hG ha
    simp only [cond_true]
    generalize plX l = R at *
    generalize l.length = n at *
    go_enter Try.func35, Try.ntmps35
    go_wp2_with fail
    refine c1.mono ?_
    rintro e w1 ⟨rfl, b1⟩
    clear hW0 i0
    have i0 := (box1_cells (box_on HA.out b1)).1
    have g1 := Below.comp q0 b1
    go_wp2_with fail
    refine (c2 _ g1).mono ?_
    rintro e w2 ⟨b2, v, rfl, hO⟩
    obtain ⟨x, cx, rfl, hOw⟩ := OwnR.form hO
    have HO : Hid _ := hOw
    clear hO hOw
    go_wp2_with fail
    go_ret2
    exact ⟨Below.comp g1 b2, x, cx, rfl, Mine.mono HO.out g1.size (Nat.le_refl _)⟩
end Go.Proofs.Ytdbmdblghlfjfaa
