import Derived.Test.YtggkpcgjmanelaaI2
/- The program: nodes linked to a tree. -/
namespace Go.Proofs.Ytggkpcgjmanelaa
open Go.ChangeShapes Go.WideShapes Go.ChangeAt Go.RowKit
set_option linter.unusedVariables false
open Bt

attribute [local go_sem] Oper.semAt_some

/-- The cells of a row of numbered nodes. -/
def KdS (w : World) (P : Nat → Prop) (d : Nat) (xs : List Value) (st : List (Int × Tr)) : Prop :=
  xs.length = st.length * 2 ∧ ∀ i, i < st.length → ∃ v, xs[i * 2]? = some (iv (gs st i).1) ∧ xs[i * 2 + 1]? = some v ∧ IX w P d v (gs st i).2
theorem KdS.nil {w : World} {P : Nat → Prop} {d : Nat} : KdS w P d [] [] := ⟨rfl, fun i hi => absurd hi (by simp)⟩
theorem KdS.keep {w w' : World} {P : Nat → Prop} {d : Nat} {xs : List Value} {st : List (Int × Tr)} (h : KdS w P d xs st) (hb : Kp P w w') : KdS w' P d xs st :=
  ⟨h.1, fun i hi => by obtain ⟨v, k0, k1, k2⟩ := h.2 i hi; exact ⟨v, k0, k1, k2.keep hb⟩⟩
theorem KdS.imp {w : World} {P Q : Nat → Prop} {d : Nat} {xs : List Value} {st : List (Int × Tr)} (h : KdS w P d xs st) (hb : ∀ b, b < w.heap.size → P b → Q b) : KdS w Q d xs st :=
  ⟨h.1, fun i hi => by obtain ⟨v, k0, k1, k2⟩ := h.2 i hi; exact ⟨v, k0, k1, k2.imp hb⟩⟩
theorem KdS.mono {w : World} {P : Nat → Prop} {d : Nat} {xs : List Value} {st : List (Int × Tr)} (h : KdS w P d xs st) : KdS w P (d + 1) xs st :=
  ⟨h.1, fun i hi => by obtain ⟨v, k0, k1, k2⟩ := h.2 i hi; exact ⟨v, k0, k1, k2.mono⟩⟩
theorem gs_take {l : List (Int × Tr)} {k i : Nat} (h : i < k) : gs (l.take k) i = gs l i := by simp [gs, h]
theorem gs_drop {l : List (Int × Tr)} {k i : Nat} : gs (l.drop k) i = gs l (k + i) := by simp [gs]
theorem KdS.snoc {w : World} {P : Nat → Prop} {d : Nat} {xs : List Value} {st : List (Int × Tr)} {k : Nat} {z : Int} {t : Tr} {v : Value} (h : KdS w P d xs st) (hk : k ≤ st.length) (hv : IX w P d v t) : KdS w P d (xs.take (k * 2) ++ [iv z, v]) (st.take k ++ [(z, t)]) := by
  have h1 := h.1
  refine ⟨by simp; omega, fun i hi => ?_⟩
  simp only [List.length_append, List.length_take, List.length_cons, List.length_nil] at hi
  by_cases e : i < k
  · obtain ⟨u, k0, k1, k2⟩ := h.2 i (by omega)
    have eg : gs (st.take k ++ [(z, t)]) i = gs st i := by
      unfold gs
      rw [List.getD_eq_getElem?_getD, List.getD_eq_getElem?_getD, List.getElem?_append_left (by simp; omega), List.getElem?_take, if_pos e]
    rw [eg]
    refine ⟨u, ?_, ?_, k2⟩
    · rw [List.getElem?_append_left (by simp; omega), List.getElem?_take, if_pos (by omega)]; exact k0
    · rw [List.getElem?_append_left (by simp; omega), List.getElem?_take, if_pos (by omega)]; exact k1
  · have e' : i = k := by omega
    subst e'
    have hl : (st.take i).length = i := by simp; omega
    have hx : (xs.take (i * 2)).length = i * 2 := by simp; omega
    have eg : gs (st.take i ++ [(z, t)]) i = (z, t) := by
      unfold gs
      rw [List.getD_eq_getElem?_getD, List.getElem?_append_right (by omega), hl]
      simp
    rw [eg]
    refine ⟨v, ?_, ?_, hv⟩
    · rw [List.getElem?_append_right (by omega), hx]; simp
    · rw [List.getElem?_append_right (by omega), hx]; simp
theorem info137 : (Try.prog.info? 137).map (fun i => (i.zero, i.size, i.bytes)) = some (some (.agg #[.int .i64 0, .nilIface]), 2, 24) := by kernel_rfl
/-- A part of a row of numbered nodes. -/
def subS (x : Option Addr) (k c : Nat) : Option Addr := if c = k then x else x.map (·.add (k * 2))
theorem size137 (w : World) : (Go.sizeOf 137).run Try.prog w = .ok 2 w := Try.sizeOf137 w
theorem sliceS_to (x : Option Addr) (n c k : Nat) (h : k ≤ c) (w : World) : (Instr.slice 131 (.slice x n c) none (some (.int .i64 (k : Int))) none).run Try.prog w = .ok (.slice (subS x 0 c) k c) w := by
  rw [run_slice_h w 131 x n c (by kernel_rfl) .i64 k (by omega) (by omega), show Try.prog.elem 131 = 137 from by kernel_rfl, size137]
  simp [Result.andThen, sliced, subS]
theorem sliceS_from (x : Option Addr) (n c k : Nat) (h : k ≤ n) (w : World) : (Instr.slice 131 (.slice x n c) (some (.int .i64 (k : Int))) none none).run Try.prog w = .ok (.slice (subS x k c) (n - k) (c - k)) w := by
  rw [run_slice_l w 131 x n c (by kernel_rfl) .i64 k (by omega) (by omega), show Try.prog.elem 131 = 137 from by kernel_rfl, size137]
  simp [Result.andThen, sliced, subS]
/-- What is owned, cut behind. -/
theorem owns_cut {w : World} {B n k : Nat} {a : Option Addr} {c : Nat} {xs : List Value} (h : w.ownsRow B 137 2 (.slice a n c) n xs) (hk : k ≤ n) : w.ownsRow B 137 2 (.slice (subS a 0 c) k c) k (xs.take (k * 2)) ∧ (Value.slice (subS a 0 c) k c).ownBlock = (Value.slice a n c).ownBlock := by
  rcases h.2 with ⟨h1, h2⟩ | ⟨g, cap, cur, h1, hb, hg, hc, hm, hcs, ht⟩
  · simp only [Value.slice.injEq] at h1
    obtain ⟨rfl, rfl, rfl⟩ := h1
    have hk0 : k = 0 := by omega
    subst hk0
    refine ⟨⟨by simp, .inl ⟨by simp [subS], rfl⟩⟩, by simp [subS]⟩
  · simp only [Value.slice.injEq] at h1
    obtain ⟨rfl, -, rfl⟩ := h1
    have e : subS (some ⟨g, 0, none⟩) 0 c = some ⟨g, 0, none⟩ := by
      unfold subS
      split
      · rfl
      · simp [Addr.add]
    have hl := h.1
    rw [e]
    refine ⟨⟨by simp; omega, .inr ⟨g, c, cur, rfl, hb, hg, by omega, hm, hcs, ?_⟩⟩, rfl⟩
    rw [← ht, List.take_take, Nat.min_eq_left (Nat.mul_le_mul_right _ hk)]
/-- What is owned, read from a place on. -/
theorem owns_rest {w : World} {P : Nat → Prop} {B n k d : Nat} {a : Option Addr} {c : Nat} {xs : List Value} {st : List (Int × Tr)} (h : w.ownsRow B 137 2 (.slice a n c) n xs) (hs : KdS w P d xs st) (hn : n = st.length) (hk : k ≤ n) : RowS w P d (subS a k c) (st.drop k) ∧ (st.drop k).length = n - k ∧ n ≤ c := by
  rcases h.2 with ⟨h1, h2⟩ | ⟨g, cap, cur, h1, hb, hg, hc, hm, hcs, ht⟩
  · simp only [Value.slice.injEq] at h1
    obtain ⟨rfl, rfl, rfl⟩ := h1
    refine ⟨fun h0 => absurd (by simp; omega) h0, by simp; omega, by omega⟩
  · simp only [Value.slice.injEq] at h1
    obtain ⟨rfl, -, rfl⟩ := h1
    refine ⟨fun h0 => ?_, by simp; omega, hc⟩
    simp only [List.length_drop] at h0
    have e : subS (some ⟨g, 0, none⟩) k c = some ⟨g, 0 + k * 2, none⟩ := by
      unfold subS
      rw [if_neg (by omega)]
      simp [addN]
    refine ⟨g, 0 + k * 2, e, fun i hi => ?_⟩
    simp only [List.length_drop] at hi
    rw [gs_drop]
    obtain ⟨v, k0, k1, k2⟩ := hs.2 (k + i) (by omega)
    rw [← ht, List.getElem?_take, if_pos (by omega)] at k0 k1
    refine ⟨v, ?_, ?_, k2⟩
    · rw [show 0 + k * 2 + i * 2 = (k + i) * 2 by omega]; exact cell_of_block hg (by simpa using k0)
    · rw [show 0 + k * 2 + i * 2 + 1 = (k + i) * 2 + 1 by omega]; exact cell_of_block hg (by simpa using k1)
end Go.Proofs.Ytggkpcgjmanelaa
