import Derived.Test.YtienhdlhlddemaaN2
/- Rows of counts that are written into; going down from a root, in steps. -/
namespace Go.Proofs.Ytienhdlhlddemaa.Hd
set_option linter.unusedVariables false

theorem deep_m1 (L : List Ce) (l : Nat) (s : List Int) : deep L (l + 1) s (-1) = some s := by unfold deep; rfl
theorem deep_out {L : List Ce} {l : Nat} {s : List Int} {k : Int} (h : k ≠ -1) (h2 : ¬ inR L.length k) : deep L (l + 1) s k = none := by
  unfold deep; rw [if_neg h, if_pos h2]
theorem deep_nat {L : List Ce} {l q : Nat} {s : List Int} (hq : q < L.length) (hs : s.length = L.length) : deep L (l + 1) s (q : Int) =
    if 1 < gi s q + 1 then some (s.set q (gi s q + 1))
    else if l = 0 then (if (gc L q).kd = [] ∧ 1 ≤ (gc L q).lf.size ∧ (gc L q).lf.size ≤ 8 then some (s.set q (gi s q + 1)) else none)
    else match (gc L q).kd.foldlM (deep L l) (s.set q (gi s q + 1)) with
      | none => none
      | some s2 => if (gc L q).kd.any (fun x => decide (0 ≤ x)) = true ∧ (gc L q).kd.length = 4 ∧ (gc L q).lf.size = 0 then some s2 else none := by
  rw [deep, if_neg (by omega), if_neg (Decidable.not_not.2 ⟨by omega, by omega⟩)]
  have e : inc s (q : Int) = s.set q (gi s q + 1) := rfl
  rw [e, Int.toNat_natCast, gi_set (by omega)]
  rfl
/-- How many are counted at most. -/
def TT (K : Nat) : Nat → Nat
  | 0 => 0
  | l + 1 => 1 + K * TT K l
theorem deep_foldTT {L : List Ce} {l K : Nat} (h : ∀ s k s', s.length = L.length → deep L l s k = some s' → s'.length = L.length ∧ ∀ y, gi s' y ≤ gi s y + TT K l) :
    ∀ (Q s s' : List Int), s.length = L.length → Q.foldlM (deep L l) s = some s' → s'.length = L.length ∧ ∀ y, gi s' y ≤ gi s y + ((Q.length * TT K l : Nat) : Int) := by
  intro Q
  induction Q with
  | nil => intro s s' hl e; simp at e; subst e; exact ⟨hl, fun y => by simp⟩
  | cons k Q ih =>
    intro s s' hl e
    rw [List.foldlM_cons] at e
    cases e1 : deep L l s k with
    | none => rw [e1] at e; simp at e
    | some s1 =>
      rw [e1] at e
      obtain ⟨g1, g2⟩ := h s k s1 hl e1
      obtain ⟨k1, k2⟩ := ih s1 s' g1 e
      refine ⟨k1, fun y => ?_⟩
      have := g2 y
      have := k2 y
      rw [List.length_cons, Nat.add_mul, Nat.one_mul]
      omega
theorem deep_TT {L : List Ce} {K : Nat} (hK : ∀ i, i < L.length → (gc L i).kd.length ≤ K) : ∀ l s k s', s.length = L.length → deep L l s k = some s' → s'.length = L.length ∧ ∀ y, gi s' y ≤ gi s y + TT K l := by
  intro l
  induction l with
  | zero => intro s k s' _ h; simp [deep] at h
  | succ l ih =>
    intro s k s' hl h
    by_cases e : k = -1
    · subst e; rw [deep_m1] at h; simp at h; subst h; exact ⟨hl, fun y => by omega⟩
    by_cases hr : inR L.length k
    · obtain ⟨q, rfl⟩ : ∃ q : Nat, k = q := ⟨k.toNat, by have := hr.1; omega⟩
      have hq : q < L.length := by have := hr.2; omega
      rw [deep_nat hq hl] at h
      have hset : ∀ y, gi (s.set q (gi s q + 1)) y ≤ gi s y + 1 := fun y => by
        by_cases ey : q = y
        · subst ey; rw [gi_set (by omega)]; exact Int.le_refl _
        · rw [gi_set_ne ey]; omega
      have hT : TT K (l + 1) = 1 + K * TT K l := rfl
      have hTp : 0 ≤ ((K * TT K l : Nat) : Int) := Int.natCast_nonneg _
      rw [hT]
      split at h
      · simp at h; subst h; exact ⟨by simpa using hl, fun y => by have := hset y; omega⟩
      · split at h
        · split at h
          · simp at h; subst h; exact ⟨by simpa using hl, fun y => by have := hset y; omega⟩
          · simp at h
        · split at h
          · simp at h
          · rename_i s2 e2
            split at h
            · simp at h
              subst h
              obtain ⟨g1, g2⟩ := deep_foldTT ih _ _ _ (by simpa using hl) e2
              refine ⟨g1, fun y => ?_⟩
              have := g2 y
              have := hset y
              have : (gc L q).kd.length * TT K l ≤ K * TT K l := Nat.mul_le_mul_right _ (hK q hq)
              omega
            · simp at h
    · rw [deep_out e hr] at h; simp at h
theorem deep_foldnn {L : List Ce} {l : Nat} {Q s s' : List Int} (hs : Nn s) (hl : s.length = L.length) (h : Q.foldlM (deep L l) s = some s') : Nn s' := by
  rw [← deep_foldM (deep_mt L l) Q s s' hs hl h]
  exact foldl_nn (mt_nn L l) _ _ hs
theorem foldM_take {α : Type} {f : α → Int → Option α} {K : List Int} {a : α} {i : Nat} (h : i < K.length) : (K.take (i + 1)).foldlM f a = ((K.take i).foldlM f a).bind fun b => f b (gi K i) := by
  rw [List.take_succ_eq_append_getElem h, List.foldlM_append, gi_eq h]
  cases (K.take i).foldlM f a <;> simp
theorem foldM_split {α : Type} {f : α → Int → Option α} {K : List Int} {a : α} (i : Nat) : K.foldlM f a = ((K.take i).foldlM f a).bind fun b => (K.drop i).foldlM f b := by
  conv => lhs; rw [← List.take_append_drop i K]
  rw [List.foldlM_append]
  rfl
theorem foldM_none {α : Type} {f : α → Int → Option α} {K : List Int} {a b : α} {i : Nat} (h : i < K.length) (h1 : (K.take i).foldlM f a = some b) (h2 : f b (gi K i) = none) : K.foldlM f a = none := by
  rw [foldM_split (i + 1), foldM_take h, h1]
  simp [h2]
def any0 (K : List Int) : Bool := K.any fun x => decide (0 ≤ x)
theorem any0_take {K : List Int} {i : Nat} (h : i < K.length) : any0 (K.take (i + 1)) = (any0 (K.take i) || decide (0 ≤ gi K i)) := by
  unfold any0
  rw [List.take_succ_eq_append_getElem h, List.any_append, gi_eq h]
  simp
end Go.Proofs.Ytienhdlhlddemaa.Hd
namespace Go.Proofs.Ytienhdlhlddemaa
open Go.ChangeShapes Go.WideShapes Go.ChangeAt Go.RowKit
set_option linter.unusedVariables false
open Hd

attribute [local go_sem] Oper.semAt_some

/-- A row of ints that fills a block. -/
def Row (w : World) (g : Nat) (s : List Int) : Prop := w.heap[g]? = some (.cells (s.map iv).toArray 3 (0, 0))
theorem Row.cell {w : World} {g : Nat} {s : List Int} (h : Row w g s) {i : Nat} (hi : i < s.length) : w.cell? ⟨g, i, none⟩ = some (.int .i64 (gi s i)) ∧ w.frozen? ⟨g, i, none⟩ = false :=
  ⟨cell_of_block h (by simp [hi, gi_eq hi]), free_of_block h⟩
theorem Row.set {w : World} {g : Nat} {s : List Int} (h : Row w g s) (i : Nat) (v : Int) : Row (w.setCell ⟨g, i, none⟩ (.int .i64 v)) g (s.set i v) := by
  unfold Row
  rw [block_set h]
  congr 2
  apply Array.ext'
  simp
theorem Row.below {w w' : World} {g : Nat} {s : List Int} (h : Row w g s) (hb : Below w.heap.size w w') : Row w' g s := box_on h hb
theorem Row.out {w w' : World} {B C g : Nat} {s : List Int} (h : Row w g s) (ho : Out B C w w') (hd : g < B ∨ C ≤ g) : Row w' g s := box_out h ho hd
theorem Row.lt {w : World} {g : Nat} {s : List Int} (h : Row w g s) : g < w.heap.size := box_lt h
theorem row_made (w : World) (n : Nat) : Row (w.alloc (.cells (made (.int .i64 0) (n * 1)) 3)) w.heap.size (zer n) := by
  unfold Row
  rw [al1]
  congr 2
  apply Array.ext'
  have := toList_madeCells_one (.int .i64 0) n
  unfold made
  rw [show (Value.int .i64 0).cells = #[.int .i64 0] from rfl, Nat.mul_one, this]
  simp [zer]
theorem l1In_yes {x lo hi : Int} (h1 : lo ≤ x) (h2 : x ≤ hi) (w : World) : Calls Try.prog 17 #[.int .i64 x, .int .i64 lo, .int .i64 hi] w fun e w' => e = .returned (.bool true) ∧ w' = w :=
  (l1In_any x lo hi w).mono fun e w' h => by rw [h.1, decide_eq_true h1, decide_eq_true h2]; exact ⟨rfl, h.2⟩
theorem l1In_no {x lo hi : Int} (h1 : ¬ (lo ≤ x ∧ x ≤ hi)) (w : World) : Calls Try.prog 17 #[.int .i64 x, .int .i64 lo, .int .i64 hi] w fun e w' => e = .returned (.bool false) ∧ w' = w :=
  (l1In_any x lo hi w).mono fun e w' h => by
    rw [h.1]
    refine ⟨?_, h.2⟩
    rw [← Bool.decide_and, decide_eq_false h1]
end Go.Proofs.Ytienhdlhlddemaa
