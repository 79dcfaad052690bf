import Derived.Test.YtmijalmihfgolaaDoorKG
/- Steps of a device that give up where they are refused: the program's side. -/
namespace Go.Proofs.YtmijalmihfgolaaDoor
open Go.ChangeShapes Go.WideShapes Go.ChangeAt Go.RowKit
set_option linter.unusedVariables false
open Tx

attribute [local go_sem] Oper.semAt_some

def ltS (n : Nat) (S : Nat → ByteArray) : List ByteArray := (List.range n).map S
theorem ltS_len (n : Nat) (S : Nat → ByteArray) : (ltS n S).length = n := by simp [ltS]
theorem ltS_at {n : Nat} {S : Nat → ByteArray} {i : Nat} (h : i < n) : gt (ltS n S) i = S i := by
  rw [gt_lt (by rw [ltS_len]; exact h)]
  simp [ltS]
theorem mineT_of {w : World} {B C : Nat} {x : Option Addr} {n : Nat} {S : Nat → ByteArray} (h : Mine w B C 9 n x (strs n S)) : MineT w B C x (ltS n S) := by
  rcases h with h | ⟨b, c, h1, h2, h3, h4, h5⟩
  · exact .inl (by rw [ltS_len]; exact h)
  · refine .inr ⟨b, c, h1, h2, h3, h4, fun i hi => ?_⟩
    rw [ltS_len] at hi
    rw [ltS_at hi]
    exact h5 i hi
/-- The sectors with writes done. -/
def dn (L : List ByteArray) (P : List Wr) : List ByteArray := ltS L.length (doneS (gt L) (Tl P) (Ul P) P.length)
theorem dn_len (L : List ByteArray) (P : List Wr) : (dn L P).length = L.length := ltS_len _ _

set_option maxRecDepth 20000 in
set_option maxHeartbeats 1600000 in
theorem take_yes (o : Nat) (X Y X0 Y0 V : Value) (q : Int) (w : World) (x : Option Addr) (N cx : Nat) (y : Option Addr) (M cy : Nat) (hX : X = .slice x N cx) (hY : Y = .slice y M cy) (hB : OB w o X0 Y0 V q) :
    Calls Tryd.prog 92 #[.pointer (some ⟨o, 0, none⟩), .agg #[X, Y], .bool true] w fun e w' => e = .returned (.tuple #[]) ∧ OB w' o X Y V q ∧ Out o (o + 1) w w' := by
  subst hX hY
  have q0 := below_alloc w (.cells #[.slice x N cx, .slice y M cy] 32)
  have hB0 := box_on hB q0
  obtain ⟨c0, c1, c2, c3⟩ := box4_cells hB0
  obtain ⟨f0, f1, f2, f3⟩ := box4_free hB0
  obtain ⟨e0, e1, _⟩ := box2_cells (al1 w (.cells #[.slice x N cx, .slice y M cy] 32))
  go_enter Tryd.func92, Tryd.ntmps92
  go_wp2_with (go_at_call 58; refine (demand_yes _).mono ?_; rintro e w8 ⟨rfl, h8⟩; replace h8 := h8.symm; subst h8)
  go_end0
  refine ⟨rfl, ?_, (Out.of_below q0).trans (Out.setCell (out_setCell _ o 0 _) (Nat.le_refl _) (Nat.lt_succ_self _) 1 _)⟩
  rw [OB, block_setz (block_setz hB0)]
  rfl
theorem take_no (o : Nat) (X : Value) (cs : Array Value) (w : World) (a : Addr) (hS : Sn w a) :
    Calls Tryd.prog 92 #[X, .agg cs, .bool false] w fun e w' => e = giveUp a ∧ Below w.heap.size w w' := by
  go_enter Tryd.func92, Tryd.ntmps92
  go_wp2_with (go_at_call 58; refine (demand_no _ a (hS.on (below_alloc _ _))).mono ?_; rintro e w8 ⟨rfl, h8⟩; replace h8 := h8.symm; subst h8)
  exact ⟨rfl, rfl, below_alloc _ _⟩

theorem gdD_parts {L : List ByteArray} {P : List Wr} (h : gdD L P = true) : 1 ≤ L.length ∧ L.length ≤ 32 ∧ P.length ≤ 60 ∧ (∀ i, i < L.length → (gt L i).size = 8) ∧ ∀ i, i < P.length → fitB L.length (Tl P i) (Ul P i) = true := goodB_spec h
theorem fewT_8 {L : List ByteArray} (h : ∀ i, i < L.length → (gt L i).size = 8) : FewT L := fun i hi => by rw [h i hi]; decide
theorem few_8 {n : Nat} {P : List Wr} (h : ∀ i, i < P.length → fitB n (Tl P i) (Ul P i) = true) : Few P := fun i hi => by have e := (fitB_spec (h i hi)).2.2; show (Ul P i).size ≤ _; rw [e]; decide

set_option maxRecDepth 20000 in
set_option maxHeartbeats 1600000 in
theorem flush_any (o : Nat) (x y : Option Addr) (cx cy : Nat) (L : List ByteArray) (P : List Wr) (V : Value) (q : Int) (w : World) (hg : gdD L P = true) (hB : OB w o (.slice x L.length cx) (.slice y P.length cy) V q) (hx : RowT w x L) (hy : RowW w y P) :
    Calls Tryd.prog 73 #[.pointer (some ⟨o, 0, none⟩)] w fun e w' => e = .returned (.tuple #[]) ∧ Out o (o + 1) w w' ∧ ∃ x' cx' y' cy', OB w' o (.slice x' L.length cx') (.slice y' 0 cy') V q ∧ MineT w' w.heap.size w'.heap.size x' (dn L P) := by
  obtain ⟨g1, g2, g3, g4, g5⟩ := gdD_parts hg
  have cF := implFlush_any x y L.length P.length cx cy (gt L) (Tl P) (Ul P) w (by omega) (by omega) hx hy (fewT_8 g4) (few_8 g5)
  have eN : flushN L.length P.length (gt L) (Tl P) (Ul P) = L.length := by unfold flushN; rw [show goodB L.length P.length (gt L) (Tl P) (Ul P) = true from hg]; rfl
  rw [eN, show goodB L.length P.length (gt L) (Tl P) (Ul P) = true from hg] at cF
  have hlt := box_lt hB
  obtain ⟨c0, c1, c2, c3⟩ := box4_cells hB
  clear g1 g2 g3 g4 g5 eN
  go_enter Tryd.func73, Tryd.ntmps73
  go_wp2_with fail
  refine cF.mono ?_
  rintro e w1 ⟨b1, x', cx', y', cy', rfl, mx, my⟩
  have cT := take_yes o (.slice x' L.length cx') (.slice y' 0 cy') _ _ V q w1 x' L.length cx' y' 0 cy' rfl rfl (box_on hB b1)
  clear c0 c1 c2 c3 cF
  go_wp2_with (go_at_call 92; refine cT.mono ?_; rintro e w2 ⟨rfl, hB2, o2⟩)
  go_end0
  refine ⟨rfl, (Out.of_below b1).trans o2, x', cx', y', cy', hB2, ?_⟩
  exact (mineT_of (mx.out o2 (.inr hlt))).mono (Nat.le_refl _) o2.size
end Go.Proofs.YtmijalmihfgolaaDoor
