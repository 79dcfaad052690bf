import Derived.Test.YtjalhfpjiakhoaaB2
namespace Go.Proofs.Ytjalhfpjiakhoaa
open Go.ChangeShapes Go.WideShapes Go.ChangeAt Go.RowKit
set_option linter.unusedVariables false

theorem bcell {W w1 : World} (hb : Below W.heap.size W w1) : (∀ b o, b < W.heap.size → w1.cell? ⟨b, o, none⟩ = W.cell? ⟨b, o, none⟩) ∧ (∀ b o, b < W.heap.size → w1.frozen? ⟨b, o, none⟩ = W.frozen? ⟨b, o, none⟩) :=
  ⟨fun b o h => hb.cell (p := ⟨b, o, none⟩) h, fun b o h => hb.frozen (p := ⟨b, o, none⟩) h⟩

set_option maxHeartbeats 400000 in
theorem eqWriteS_any (a a' : Option Addr) (n cap cap' : Nat) (T : Nat → Int) (U : Nat → ByteArray) (w : World) (hn : n ≤ 9223372036854775807) (hc : At2 w a n T U) (hc' : At2 w a' n T U) :
    Calls Try.prog 40 #[.slice a n cap, .slice a' n cap'] w fun e w' => e = .returned (.bool true) ∧ Below w.heap.size w w' := by
  go_enter Try.func40, Try.ntmps40
  go_wp2
  go_loopw [5] (fun i wr => ∃ (k : Nat), k ≤ n ∧ i = .int .i64 k ∧ Below w.heap.size w wr) (fun i _ => n - (intOf i).toNat)
  case atStart => exact ⟨0, Nat.zero_le _, rfl, Below.refl _ _⟩
  case round =>
    obtain ⟨k, hk, rfl, hb⟩ := hrel
    by_cases hlt : k < n
    · obtain ⟨b, off, rfl, hcell⟩ := (hc.below hb) (by omega)
      obtain ⟨b', off', rfl, hcell'⟩ := (hc'.below hb) (by omega)
      have h1 := cell_regrown (hcell k hlt).1
      have h2 := cell_regrown (hcell k hlt).2
      have h3 := cell_regrown (hcell' k hlt).1
      have h4 := cell_regrown (hcell' k hlt).2
      have hlt' : (k : Int) < (n : Int) := by omega
      clear hcell hc hcell' hc'
      go_wp2
      refine wp_region_quiet_below (by kernel_rfl) (by kernel_rfl) ?_
      repeat (quiet_step (exact Calls.regrown_of (eqWrite_any _ _ _)))
      refine wpQuiet_nil ?_
      intro _ hw'
      obtain ⟨⟨dq, osq⟩, hw''⟩ := hw'
      subst hw''
      clear h1 h2 h3 h4
      go_wp2
      go_roundw
      case rel => exact ⟨k + 1, by omega, by go_num, Below.comp hb (below_regrown _ _ _)⟩
      case measure => simp [intOf]; omega
    · go_wp2
      go_ret
      exact ⟨rfl, hb⟩

set_option maxHeartbeats 400000 in
theorem eqDevice_any (a a' b b' : Option Addr) (n m ca ca' cb cb' : Nat) (S : Nat → ByteArray) (T : Nat → Int) (U : Nat → ByteArray) (w : World) (hn : n ≤ 9223372036854775807) (hm : m ≤ 9223372036854775807)
    (ha : At w a n fun i => .string (S i)) (ha' : At2 w a' m T U) (hb : At w b n fun i => .string (S i)) (hb' : At2 w b' m T U) :
    Calls Try.prog 14 #[.agg #[.slice a n ca, .slice a' m ca'], .agg #[.slice b n cb, .slice b' m cb']] w fun e w' => e = .returned (.bool true) ∧ Below w.heap.size w w' := by
  have h0 : ∀ o1 o2, Below w.heap.size w ((w.alloc o1).alloc o2) := fun o1 o2 => (below_alloc _ _).alloc (by simp) _
  go_enter Try.func14, Try.ntmps14
  go_wp2_with fail
  refine (eqStringS_any a b n ca cb S _ hn (ha.below (h0 _ _)) (hb.below (h0 _ _))).mono ?_
  rintro e w1 ⟨rfl, b1⟩
  obtain ⟨c1, f1⟩ := bcell b1
  have g1 := Below.comp (h0 _ _) b1
  go_wp2_with fail
  refine (eqWriteS_any a' b' m ca' cb' T U _ hm (ha'.below g1) (hb'.below g1)).mono ?_
  rintro e w2 ⟨rfl, b2⟩
  have g2 := Below.comp g1 b2
  clear c1 f1
  go_wp2
  go_ret
  exact ⟨rfl, g2⟩

theorem out_setCell (w : World) (b o : Nat) (v : Value) : Out b (b + 1) w (w.setCell ⟨b, o, none⟩ v) :=
  ⟨rfl, rfl, rfl, by simp [World.setCell], fun k _ hk => Below.heap_setCell _ _ _ _ (by simp; omega)⟩

theorem Out.setCell {B C : Nat} {w w' : World} (h : Out B C w w') {b : Nat} (h1 : B ≤ b) (h2 : b < C) (o : Nat) (v : Value) : Out B C w (w'.setCell ⟨b, o, none⟩ v) :=
  h.trans ((out_setCell w' b o v).mono h1 h2)
theorem Out.alloc {B C : Nat} {w w' : World} (h : Out B C w w') (o : Obj) : Out B C w (w'.alloc o) :=
  h.trans (Out.of_below (below_alloc w' o))

set_option maxHeartbeats 400000 in
theorem toDevice_any (a a' : Option Addr) (n m ca ca' : Nat) (S : Nat → ByteArray) (T : Nat → Int) (U : Nat → ByteArray) (w : World) (hn : n ≤ 1048576) (hm : m ≤ 1048576)
    (ha : At w a n fun i => .string (S i)) (ha' : At2 w a' m T U) :
    Calls Try.prog 19 #[.agg #[.slice a n ca, .slice a' m ca']] w fun e w' => Below w.heap.size w w' ∧ ∃ x cx y cy, e = .returned (.agg #[.slice x n cx, .slice y m cy]) ∧
      Mine w' w.heap.size w'.heap.size 9 n x (strs n S) ∧ Mine w' w.heap.size w'.heap.size 42 m y (wrts m T U) := by
  have h0 : ∀ o1 o2 o3, Below w.heap.size w (((w.alloc o1).alloc o2).alloc o3) := fun o1 o2 o3 => ((below_alloc _ _).alloc (by simp) _).alloc (by simp; omega) _
  go_enter Try.func19, Try.ntmps19
  go_wp2_with fail
  refine (toStringS_any a n ca S _ hn (ha.below (h0 _ _ _))).mono ?_
  rintro e w1 ⟨b1, x, cx, rfl, m1⟩
  have g1 := Below.comp (h0 _ _ _) b1
  obtain ⟨c1, f1⟩ := bcell b1
  obtain ⟨z1, z1', z1''⟩ : w.heap.size < w1.heap.size ∧ w.heap.size + 1 < w1.heap.size ∧ w.heap.size + 1 + 1 < w1.heap.size := by have := b1.size; simp at this; omega
  go_wp2_with fail
  have g1' := g1.setCell (p := ⟨w.heap.size + 1 + 1, 0, none⟩) (by simp; omega) (.slice x n cx)
  have m1' := m1.out (out_setCell w1 (w.heap.size + 1 + 1) 0 (.slice x n cx)) (.inr (by simp))
  refine (toWriteS_any a' m ca' T U _ hm (ha'.below g1')).mono ?_
  rintro e w2 ⟨b2, y, cy, rfl, m2⟩
  have g2 := Below.comp g1' b2
  have m1'' := m1'.below b2
  obtain ⟨c2, f2⟩ := bcell b2
  have z2 : w1.heap.size ≤ w2.heap.size := by have := b2.size; simpa using this
  clear b1 b2 g1 g1' ha ha' h0 m1 m1'
  go_wp2
  refine bodyPost_ret (v := .agg #[.slice x n cx, .slice y m cy]) (by simp [results, Try.results19, go_sem, c2, c1, z1']) rfl ⟨?_, x, cx, y, cy, rfl, ?_, ?_⟩
  · refine ((g2.setCell ?_ _).setCell ?_ _).setCell ?_ _ <;> simp <;> omega
  · refine (m1''.out (((Out.refl (w.heap.size + 1) (w.heap.size + 3) w2).setCell ?_ ?_ _ _).setCell ?_ ?_ _ _ |>.setCell ?_ ?_ _ _) (.inr ?_)).mono ?_ ?_ <;> simp <;> omega
  · refine (m2.out (((Out.refl (w.heap.size + 1) (w.heap.size + 3) w2).setCell ?_ ?_ _ _).setCell ?_ ?_ _ _ |>.setCell ?_ ?_ _ _) (.inr ?_)).mono ?_ ?_ <;> simp <;> omega
end Go.Proofs.Ytjalhfpjiakhoaa
