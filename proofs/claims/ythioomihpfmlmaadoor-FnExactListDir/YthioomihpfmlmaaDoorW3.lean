import Derived.Test.YthioomihpfmlmaaDoorW2
/- The links at a path, on both sides. -/
namespace Go.Proofs.YthioomihpfmlmaaDoor
open Go.ChangeShapes Go.WideShapes Go.ChangeAt Go.RowKit
set_option linter.unusedVariables false
open Hd

attribute [local go_sem] Oper.semAt_some

theorem wk_lt {kp : List Nm → ByteArray → Nat} {T : List Ino} (hok : ∀ k, k < T.length → okN T.length (gn T k)) : ∀ (L : List ByteArray) (k : Nat), k < T.length → (wk kp T k L).2 = 0 → (wk kp T k L).1 < T.length := by
  intro L
  induction L with
  | nil => intro k hk _; exact hk
  | cons s L ih =>
    intro k hk h
    rw [wk] at h ⊢
    cases hd : (gn T k).dr with
    | false => rw [hd] at h; cases h
    | true =>
      rw [hd] at h
      simp only [if_true] at h ⊢
      cases ho : hasN (gn T k).ns s (kp (gn T k).ns s) with
      | false => rw [ho] at h; cases h
      | true =>
        rw [ho] at h
        simp only [if_true] at h ⊢
        exact ih _ (tg_of (hok k hk) (has_lt ho)).2 h
theorem wpR_lt {kp : List Nm → ByteArray → Nat} {B : Bool} {T : List Ino} (hB : B = true ↔ TS T) {p : ByteArray} (h : (wpR kp B T p).2 = 0) : (wpR kp B T p).1 < T.length ∧ B = true := by
  unfold wpR at h ⊢
  cases hp : PN p with
  | none => rw [hp] at h; cases h
  | some L =>
    rw [hp] at h
    simp only at h ⊢
    cases B with
    | false => cases h
    | true =>
      have hT := hB.1 rfl
      simp only [if_true] at h ⊢
      exact ⟨wk_lt hT.2.2.2.2.1 L 0 (by have := hT.1; omega) h, trivial⟩
/-- The links at a path, or a code. -/
def lkR (kp : List Nm → ByteArray → Nat) (B : Bool) (T : List Ino) (p : ByteArray) : Int × Nat :=
  if (wpR kp B T p).2 = 0 then ((gn T (wpR kp B T p).1).lk, 0) else (0, (wpR kp B T p).2)
set_option maxHeartbeats 1000000 in
theorem specLinks_any (kp : List Nm → ByteArray → Nat) (hkp : ∀ l s, AtN l s (kp l s)) (B : Bool) (T : List Ino) (hB : B = true ↔ TS T) (v : Value) (p : ByteArray) (w : World) (hp : p.size ≤ 1048576) (hf : FewI T) (hc : NamAt w v T) :
    Calls Tryd.prog 17 #[v, .string p] w fun e w' => e = .returned (.tuple #[.int .i64 (lkR kp B T p).1, .int .i64 (((lkR kp B T p).2 : Nat) : Int)]) ∧ Below w.heap.size w w' := by
  obtain ⟨a, ca, rfl, hca, hI⟩ := hc
  obtain ⟨W0, hW0⟩ : ∃ W0, w.alloc (.cells #[.slice a T.length ca] 30) = W0 := ⟨_, rfl⟩
  have q0 : Below w.heap.size w W0 := by subst hW0; exact below_alloc _ _
  have HX : Hid (W0.heap[w.heap.size]? = some (.cells #[.slice a T.length ca] 30 (0, 0))) := by subst hW0; exact al1 _ _
  have cW := specWalk_any kp hkp B T hB (tv a T.length ca) p W0 hp hf ⟨a, ca, rfl, hca, hI.below q0⟩
  have HLt : Hid _ := fun h => (wpR_lt (kp := kp) hB (p := p) h).1
  have HI : Hid (∀ W, Below W0.heap.size W0 W → Inos W a T) := fun W h => (hI.below q0).below h
  unfold lkR
  obtain ⟨x0, -⟩ := box1_cells HX.out
  generalize (wpR kp B T p).1 = R1 at *
  generalize (wpR kp B T p).2 = R2 at *
  unfold tv at *
  clear hI hca
  by_cases hz : R2 = 0
  · subst hz
    have hlt := HLt.out rfl
    rw [if_pos rfl]
    generalize hTn : T.length = n at *
    have HT : Hid _ := hTn
    clear hTn
    have hz' : (((0 : Nat) : Int) != 0) = false := rfl
    obtain ⟨lk, hlk⟩ : ∃ lk, (gn T R1).lk = lk := ⟨_, rfl⟩
    rw [hlk]
    have HLK : Hid _ := hlk
    clear hlk
    go_enter Tryd.func17, Tryd.ntmps17
    go_wp2_with fail
    refine cW.mono ?_
    rintro e w1 ⟨rfl, b1⟩
    clear x0 hW0 cW
    obtain ⟨x0, -⟩ := box1_cells (box_on HX.out b1)
    obtain ⟨b, off, rfl, hcell⟩ := HI.out _ b1 (by rw [HT.out]; omega)
    obtain ⟨na, nc, u0, u1, u2, -, -⟩ := hcell R1 (by rw [HT.out]; exact hlt)
    rw [HLK.out] at u1
    have hRn : (R1 : Int) < (n : Int) := by omega
    clear hcell
    go_wp2_with fail
    go_ret2
    exact ⟨rfl, Below.comp q0 b1⟩
  · rw [if_neg hz]
    have hz' : ((R2 : Int) != 0) = true := by simp [hz]
    clear hz HLt
    generalize T.length = n at *
    go_enter Tryd.func17, Tryd.ntmps17
    go_wp2_with fail
    refine cW.mono ?_
    rintro e w1 ⟨rfl, b1⟩
    clear x0 hW0 cW
    go_wp2_with fail
    go_ret2
    exact ⟨rfl, Below.comp q0 b1⟩
set_option maxHeartbeats 1000000 in
theorem implLinks_any (kp : List Nm → ByteArray → Nat) (hkp : ∀ l s, AtN l s (kp l s)) (B : Bool) (T : List Ino) (hB : B = true ↔ TS T) (v : Value) (p : ByteArray) (w : World) (hp : p.size ≤ 1048576) (hf : FewI T) (hc : NamAt w v T) :
    Calls Tryd.prog 18 #[v, .string p] w fun e w' => e = .returned (.tuple #[.int .i64 (lkR kp B T p).1, .int .i64 (((lkR kp B T p).2 : Nat) : Int)]) ∧ Below w.heap.size w w' := by
  obtain ⟨a, ca, rfl, hca, hI⟩ := hc
  obtain ⟨W0, hW0⟩ : ∃ W0, w.alloc (.cells #[.slice a T.length ca] 30) = W0 := ⟨_, rfl⟩
  have q0 : Below w.heap.size w W0 := by subst hW0; exact below_alloc _ _
  have HX : Hid (W0.heap[w.heap.size]? = some (.cells #[.slice a T.length ca] 30 (0, 0))) := by subst hW0; exact al1 _ _
  have cW := implWalk_any kp hkp B T hB (tv a T.length ca) p W0 hp hf ⟨a, ca, rfl, hca, hI.below q0⟩
  have HLt : Hid _ := fun h => (wpR_lt (kp := kp) hB (p := p) h).1
  have HI : Hid (∀ W, Below W0.heap.size W0 W → Inos W a T) := fun W h => (hI.below q0).below h
  unfold lkR
  obtain ⟨x0, -⟩ := box1_cells HX.out
  generalize (wpR kp B T p).1 = R1 at *
  generalize (wpR kp B T p).2 = R2 at *
  unfold tv at *
  clear hI hca
  by_cases hz : R2 = 0
  · subst hz
    have hlt := HLt.out rfl
    rw [if_pos rfl]
    generalize hTn : T.length = n at *
    have HT : Hid _ := hTn
    clear hTn
    have hz' : (((0 : Nat) : Int) != 0) = false := rfl
    obtain ⟨lk, hlk⟩ : ∃ lk, (gn T R1).lk = lk := ⟨_, rfl⟩
    rw [hlk]
    have HLK : Hid _ := hlk
    clear hlk
    go_enter Tryd.func18, Tryd.ntmps18
    go_wp2_with fail
    refine cW.mono ?_
    rintro e w1 ⟨rfl, b1⟩
    clear x0 hW0 cW
    obtain ⟨x0, -⟩ := box1_cells (box_on HX.out b1)
    obtain ⟨b, off, rfl, hcell⟩ := HI.out _ b1 (by rw [HT.out]; omega)
    obtain ⟨na, nc, u0, u1, u2, -, -⟩ := hcell R1 (by rw [HT.out]; exact hlt)
    rw [HLK.out] at u1
    have hRn : (R1 : Int) < (n : Int) := by omega
    clear hcell
    go_wp2_with fail
    go_ret2
    exact ⟨rfl, Below.comp q0 b1⟩
  · rw [if_neg hz]
    have hz' : ((R2 : Int) != 0) = true := by simp [hz]
    clear hz HLt
    generalize T.length = n at *
    go_enter Tryd.func18, Tryd.ntmps18
    go_wp2_with fail
    refine cW.mono ?_
    rintro e w1 ⟨rfl, b1⟩
    clear x0 hW0 cW
    go_wp2_with fail
    go_ret2
    exact ⟨rfl, Below.comp q0 b1⟩
end Go.Proofs.YthioomihpfmlmaaDoor
