import Derived.Test.YtjalhfpjiakhoaaP1
namespace Go.Proofs.Ytjalhfpjiakhoaa
open Go.ChangeShapes Go.WideShapes Go.ChangeAt Go.RowKit
set_option linter.unusedVariables false

/-- The answer of a step, in the terms of the step. -/
def StepRes (w w' : World) (e : Ending) (o : Option Pst) : Prop := DevRes w w' e (rN o) (rM o) o.isSome (rS o) (rT o) (rU o)

theorem empty_of_size {u : ByteArray} (h : u.size = 0) : u = ⟨#[]⟩ := by
  obtain ⟨⟨l⟩⟩ := u
  have : l.length = 0 := h
  have : l = [] := List.eq_nil_of_length_eq_zero this
  rw [this]

theorem specFl (p : Pst) (hp : p.good) (a a' : Option Addr) (ca ca' : Nat) (w : World) (ha : At w a p.n fun i => .string (p.S i)) (ha' : At2 w a' p.m p.T p.U) :
    Calls Try.prog 27 #[.agg #[.slice a p.n ca, .slice a' p.m ca']] w fun e w' => StepRes w w' e (flStep p) := by
  obtain ⟨z1, z2, z3, z4⟩ := good_sizes hp
  exact (specFlush_any a a' p.n p.m ca ca' p.S p.T p.U w z1 z2 ha ha' z3 z4).mono fun e w' h => devRes_fl h
theorem implFl (p : Pst) (hp : p.good) (a a' : Option Addr) (ca ca' : Nat) (w : World) (ha : At w a p.n fun i => .string (p.S i)) (ha' : At2 w a' p.m p.T p.U) :
    Calls Try.prog 28 #[.agg #[.slice a p.n ca, .slice a' p.m ca']] w fun e w' => StepRes w w' e (flStep p) := by
  obtain ⟨z1, z2, z3, z4⟩ := good_sizes hp
  exact (implFlush_any a a' p.n p.m ca ca' p.S p.T p.U w z1 z2 ha ha' z3 z4).mono fun e w' h => devRes_fl h
theorem specWr (p : Pst) (hp : p.good) (a a' : Option Addr) (ca ca' : Nat) (t : Int) (u : ByteArray) (w : World) (ha : At w a p.n fun i => .string (p.S i)) (ha' : At2 w a' p.m p.T p.U) (hu : u.size ≤ 9223372036854775807) :
    Calls Try.prog 22 #[.agg #[.slice a p.n ca, .slice a' p.m ca'], .agg #[.int .i64 t, .string u]] w fun e w' => StepRes w w' e (wrStep p t u) := by
  obtain ⟨z1, z2, z3, z4⟩ := good_sizes hp
  exact (specWrite_any a a' p.n p.m ca ca' p.S p.T p.U t u w z1 z2 ha ha' z3 z4 hu).mono fun e w' h => devRes_wr h
theorem implWr (p : Pst) (hp : p.good) (a a' : Option Addr) (ca ca' : Nat) (t : Int) (u : ByteArray) (w : World) (ha : At w a p.n fun i => .string (p.S i)) (ha' : At2 w a' p.m p.T p.U) (hu : u.size ≤ 9223372036854775807) :
    Calls Try.prog 24 #[.agg #[.slice a p.n ca, .slice a' p.m ca'], .agg #[.int .i64 t, .string u]] w fun e w' => StepRes w w' e (wrStep p t u) := by
  obtain ⟨z1, z2, z3, z4⟩ := good_sizes hp
  exact (implWrite_any a a' p.n p.m ca ca' p.S p.T p.U t u w z1 z2 ha ha' z3 z4 hu).mono fun e w' h => devRes_wr h

/-- An answer that is handed on through a box of the caller's own. -/
theorem StepRes.through {w w' : World} {o : Option Pst} {x y : Option Addr} {cx cy B b : Nat} (hb : Below w.heap.size w w') (mw : MineD w' B w'.heap.size x y (rN o) (rM o) (rS o) (rT o) (rU o)) (h1 : w.heap.size ≤ b) (h2 : b < B) :
    StepRes w ((w'.setCell ⟨b, 0, none⟩ (.slice x (rN o) cx)).setCell ⟨b, 1, none⟩ (.slice y (rM o) cy)) (.returned (.tuple #[.agg #[.slice x (rN o) cx, .slice y (rM o) cy], .bool o.isSome])) o :=
  ⟨(hb.setCell (p := ⟨b, 0, none⟩) h1 _).setCell (p := ⟨b, 1, none⟩) h1 _, x, cx, y, cy, rfl, (mw.out (((Out.refl b (b + 1) w').setCell (by omega) (by omega) _ _).setCell (by omega) (by omega) _ _) (.inr h2)).mono (by omega) (by simp)⟩

set_option maxHeartbeats 1600000 in
theorem playWrite_any (p : Pst) (hp : p.good) (a a' : Option Addr) (ca ca' : Nat) (t : Int) (u : ByteArray) (w : World)
    (ha : At w a p.n fun i => .string (p.S i)) (ha' : At2 w a' p.m p.T p.U) (hu : u.size ≤ 9223372036854775807) :
    Calls Try.prog 62 #[.agg #[.slice a p.n ca, .slice a' p.m ca'], .agg #[.int .i64 t, .string u]] w fun e w' => StepRes w w' e (plStep p t u) := by
  have h0 : ∀ o1 o2 o3, Below w.heap.size w (((w.alloc o1).alloc o2).alloc o3) := fun o1 o2 o3 => ((below_alloc _ _).alloc (by simp) _).alloc (by simp; omega) _
  cases hf : isFl t u
  · have e0 : plStep p t u = wrStep p t u := by unfold plStep; rw [hf]; rfl
    rw [e0]
    have KW : Hid _ := implWr p hp a a' ca ca' t u
    generalize wrStep p t u = o at KW
    have hno := of_decide_eq_false hf
    clear hf e0
    have dtu : (t == -1) = false ∨ ((t == -1) = true ∧ (u.toList == []) = false ∧ u.toList.isEmpty = false) := by
      by_cases h1 : t = -1
      · right
        have h2 : u.size ≠ 0 := fun h => hno ⟨h1, h⟩
        have h3 : u.toList ≠ [] := by
          intro h
          apply h2
          have hl : u.data.toList.length = 0 := by rw [← ByteArray.toList_eq, h]; rfl
          rw [Array.length_toList] at hl
          exact hl
        refine ⟨by simp [h1], by simp [h3], by simp [h3]⟩
      · left; simp [h1]
    clear hno
    rcases dtu with d1 | ⟨d1, d2, d3⟩
    · go_enter Try.func62, Try.ntmps62
      go_wp2_with fail
      refine (KW.out _ (ha.below (h0 _ _ _)) (ha'.below (h0 _ _ _)) hu).mono ?_
      rintro e w1 ⟨b1, x, cx, y, cy, rfl, mw⟩
      have g := Below.comp (h0 _ _ _) b1
      have r0 : w1.cell? ⟨w.heap.size + 1 + 1, 0, none⟩ = some (.slice none 0 0) := cell_on (by simp [go_sem]) b1
      have r1 : w1.cell? ⟨w.heap.size + 1 + 1, 1, none⟩ = some (.slice none 0 0) := cell_on (by simp [go_sem]) b1
      have rf : ∀ q, w1.frozen? ⟨w.heap.size + 1 + 1, q, none⟩ = false := fun q => by rw [b1.frozen (p := ⟨w.heap.size + 1 + 1, q, none⟩) (by simp)]; simp [go_sem]
      have rf0 := rf 0
      have rf1 := rf 1
      clear b1 h0 rf
      go_wp2
      exact bodyPost_ret (v := .tuple #[.agg #[.slice x (rN o) cx, .slice y (rM o) cy], .bool o.isSome]) (by simp [results, Try.results62, go_sem, r0, r1]) rfl (StepRes.through g mw (by omega) (by simp))
    · go_enter Try.func62, Try.ntmps62
      go_wp2_with fail
      refine (KW.out _ (ha.below (h0 _ _ _)) (ha'.below (h0 _ _ _)) hu).mono ?_
      rintro e w1 ⟨b1, x, cx, y, cy, rfl, mw⟩
      have g := Below.comp (h0 _ _ _) b1
      have r0 : w1.cell? ⟨w.heap.size + 1 + 1, 0, none⟩ = some (.slice none 0 0) := cell_on (by simp [go_sem]) b1
      have r1 : w1.cell? ⟨w.heap.size + 1 + 1, 1, none⟩ = some (.slice none 0 0) := cell_on (by simp [go_sem]) b1
      have rf : ∀ q, w1.frozen? ⟨w.heap.size + 1 + 1, q, none⟩ = false := fun q => by rw [b1.frozen (p := ⟨w.heap.size + 1 + 1, q, none⟩) (by simp)]; simp [go_sem]
      have rf0 := rf 0
      have rf1 := rf 1
      clear b1 h0 rf
      go_wp2
      exact bodyPost_ret (v := .tuple #[.agg #[.slice x (rN o) cx, .slice y (rM o) cy], .bool o.isSome]) (by simp [results, Try.results62, go_sem, r0, r1]) rfl (StepRes.through g mw (by omega) (by simp))
  · have e0 : plStep p t u = flStep p := by unfold plStep; rw [hf]; rfl
    rw [e0]
    obtain ⟨h1, h2⟩ := of_decide_eq_true hf
    have h3 := empty_of_size h2
    subst h1 h3
    clear hf e0 h2
    have KW : Hid _ := implFl p hp a a' ca ca'
    generalize flStep p = o at KW
    go_enter Try.func62, Try.ntmps62
    go_wp2_with fail
    refine (KW.out _ (ha.below (h0 _ _ _)) (ha'.below (h0 _ _ _))).mono ?_
    rintro e w1 ⟨b1, x, cx, y, cy, rfl, mw⟩
    have g := Below.comp (h0 _ _ _) b1
    have r0 : w1.cell? ⟨w.heap.size + 1 + 1, 0, none⟩ = some (.slice none 0 0) := cell_on (by simp [go_sem]) b1
    have r1 : w1.cell? ⟨w.heap.size + 1 + 1, 1, none⟩ = some (.slice none 0 0) := cell_on (by simp [go_sem]) b1
    have rf : ∀ q, w1.frozen? ⟨w.heap.size + 1 + 1, q, none⟩ = false := fun q => by rw [b1.frozen (p := ⟨w.heap.size + 1 + 1, q, none⟩) (by simp)]; simp [go_sem]
    have rf0 := rf 0
    have rf1 := rf 1
    clear b1 h0 rf
    go_wp2
    exact bodyPost_ret (v := .tuple #[.agg #[.slice x (rN o) cx, .slice y (rM o) cy], .bool o.isSome]) (by simp [results, Try.results62, go_sem, r0, r1]) rfl (StepRes.through g mw (by omega) (by simp))
end Go.Proofs.Ytjalhfpjiakhoaa
