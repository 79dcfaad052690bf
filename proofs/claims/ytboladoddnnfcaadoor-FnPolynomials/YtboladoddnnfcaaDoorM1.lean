import Derived.Test.YtboladoddnnfcaaDoorJ5
import Derived.Test.YtboladoddnnfcaaDoorH1
import Derived.Deep.AppendLies
namespace Go.Proofs.YtboladoddnnfcaaDoor
open Go.ChangeShapes Go.WideShapes Go.ChangeAt Go.RowKit
set_option linter.unusedVariables false
open GF

set_option maxRecDepth 20000 in
set_option maxHeartbeats 800000 in
theorem specTh_nil (a a' : Option Addr) (cap cap' : Nat) (w : World) :
    Calls Tryd.prog 27 #[.slice a 0 cap, .slice a' 0 cap'] w fun e w' => ThRes w w' e [] [] := by
  have hmk : ∀ w, (Instr.makeSlice 22 (.int .i64 0) (.int .i64 0)).run Tryd.prog w = .ok (.slice (some ⟨w.heap.size, 0, none⟩) 0 0) (w.alloc (.cells (made (.int .u8 0) (0 * 1)) 5)) := make_any (P := Tryd.prog) 22 5 _ 1 1 Tryd.underlying22 info5 .i64 .i64 0 (by omega) (by omega)
  have hg : goodT [] [] := ⟨rfl, by simp, fun i j hi => absurd hi (by simp)⟩
  go_enter Tryd.func27, Tryd.ntmps27
  go_wp2
  refine wp_loop_rounds 1 ?_
  rw [rounds_succ]
  go_wp2
  refine wp_loop_rounds 1 ?_
  rw [rounds_succ]
  go_wp2
  refine bodyPost_ret (v := .tuple #[.slice (some ⟨w.heap.size, 0, none⟩) 0 0, .bool true]) (by simp [results, Tryd.results27, go_sem]) rfl (ThRes.yes hg rfl (below_alloc _ _) (.inl rfl))
theorem specTh2 (x : Option Addr) (b cx cy : Nat) (xs ys : List Nat) (w : World) (hx : bt xs) (hy : bt ys) (hn : xs.length = ys.length) (h20 : xs.length ≤ 20) (hcx : xs.length ≤ cx) (hg : xs.length ≠ 0 → ∃ g, x = some ⟨g, 0, none⟩) (hc : At w x xs.length (by' (lf xs))) (hc' : At w (some ⟨b, 0, none⟩) ys.length (by' (lf ys))) :
    Calls Tryd.prog 27 #[.slice x xs.length cx, .slice (some ⟨b, 0, none⟩) ys.length cy] w fun e w' => ThRes w w' e xs ys := by
  by_cases h0 : xs.length = 0
  · obtain rfl := List.eq_nil_of_length_eq_zero h0
    obtain rfl := List.eq_nil_of_length_eq_zero (hn.symm.trans h0)
    exact specTh_nil _ _ _ _ w
  · obtain ⟨g, rfl⟩ := hg h0
    have e1 : ∀ i, i < xs.length → w.cell? ⟨g, i, none⟩ = some (.int .u8 (lf xs i : Nat)) := fun i hi => by
      obtain ⟨b1, off, e, h⟩ := hc h0
      simp at e
      obtain ⟨rfl, rfl⟩ := e
      have := h i hi
      rw [Nat.zero_add] at this; exact this
    have e2 : ∀ i, i < xs.length → w.cell? ⟨b, i, none⟩ = some (.int .u8 (lf ys i : Nat)) := fun i hi => by
      obtain ⟨b1, off, e, h⟩ := hc' (by omega)
      simp at e
      obtain ⟨rfl, rfl⟩ := e
      have := h i (by omega)
      rw [Nat.zero_add] at this; exact this
    rw [← hn]
    exact specTh_any g b xs.length cx cy xs ys w hx hy rfl hn.symm h20 hcx e1 e2

/-- The points at which a polynomial is told again. -/
def ptL (q : Nat) : List Nat := (List.range q).map fun i => 3 * i + 1
def vlL (p : List Nat) (q : Nat) : List Nat := (List.range q).map fun i => pv p (3 * i + 1)
theorem ptL_len (q : Nat) : (ptL q).length = q := by simp [ptL]
theorem vlL_len (p : List Nat) (q : Nat) : (vlL p q).length = q := by simp [vlL]
theorem ptL_succ (q : Nat) : ptL q ++ [3 * q + 1] = ptL (q + 1) := by simp [ptL, List.range_succ]
theorem vlL_succ (p : List Nat) (q : Nat) : vlL p q ++ [pv p (3 * q + 1)] = vlL p (q + 1) := by simp [vlL, List.range_succ]
theorem ptL_at {q i : Nat} (h : i < q) : lf (ptL q) i = 3 * i + 1 := by simp [lf, ptL, h]
theorem vlL_at {p : List Nat} {q i : Nat} (h : i < q) : lf (vlL p q) i = pv p (3 * i + 1) := by simp [lf, vlL, h]
theorem bt_pt {q : Nat} (h : q ≤ 20) : bt (ptL q) := by
  intro c hc
  simp only [ptL, List.mem_map, List.mem_range] at hc
  obtain ⟨i, hi, rfl⟩ := hc
  omega
theorem bt_vl {p : List Nat} {q : Nat} (hp : bt p) : bt (vlL p q) := by
  intro c hc
  simp only [vlL, List.mem_map, List.mem_range] at hc
  obtain ⟨i, hi, rfl⟩ := hc
  exact pv_lt _ hp
theorem good_pt {p : List Nat} {n : Nat} (h : n ≤ 20) : goodT (ptL n) (vlL p n) := by
  refine ⟨by rw [ptL_len, vlL_len], by rw [ptL_len]; exact h, fun i j hi hj e => ?_⟩
  rw [ptL_len] at hi hj
  rw [ptL_at hi, ptL_at hj] at e
  omega
open Classical in
theorem told_again {p : List Nat} {n : Nat} (hn : p.length = n) (h : n ≤ 20) (hp : bt p) : thL (ptL n) (vlL p n) = p ∧ thOk (ptL n) (vlL p n) = true := by
  have hg := good_pt (p := p) h
  constructor
  · have e1 : thL (ptL n) (vlL p n) = ol (lf (ptL n)) (lf (vlL p n)) (ptL n).length (ptL n).length := by unfold thL; exact if_pos hg
    rw [e1, ptL_len]
    refine (through_unique (fun k hk => lf_lt (bt_pt h) k) (fun k hk => lf_lt (bt_vl hp) k) (fun i k hi hk e => hg.2.2 i k (by rw [ptL_len]; exact hi) (by rw [ptL_len]; exact hk) e) hn hp (fun j hj => ?_)).symm
    rw [ptL_at hj, vlL_at hj]
  · unfold thOk; exact decide_eq_true hg
open Classical in
theorem th_at {xs ys : List Nat} (hx : bt xs) (hy : bt ys) (h : thOk xs ys = true) : (thL xs ys).length = xs.length ∧ bt (thL xs ys) ∧ xs.length ≤ 20 ∧ xs.length = ys.length ∧ ∀ k, k < xs.length → pv (thL xs ys) (lf xs k) = lf ys k := by
  have hg : goodT xs ys := by unfold thOk at h; exact of_decide_eq_true h
  have e1 : thL xs ys = ol (lf xs) (lf ys) xs.length xs.length := by unfold thL; exact if_pos hg
  rw [e1]
  exact ⟨ol_len _ (Nat.le_refl _), bt_ol _, hg.2.1, hg.1, fun k hk => through_at (fun k _ => lf_lt hx k) (fun k _ => lf_lt hy k) (fun i k hi hk e => hg.2.2 i k hi hk e) hk⟩
open Classical in
theorem th_no {xs ys : List Nat} (h : thOk xs ys = false) : thL xs ys = [] := by
  have hg : ¬ goodT xs ys := by unfold thOk at h; exact of_decide_eq_false h
  unfold thL; exact if_neg hg

/-- Two rows that lie apart. -/
def Ap (va vb : Value) : Prop := ∀ g, va.ownBlock = some g → vb.ownBlock = some g → False
theorem Ap.symm {va vb : Value} (h : Ap va vb) : Ap vb va := fun g h1 h2 => h g h2 h1
theorem Ap.keep {w w' : World} {B n : Nat} {va vb : Value} {xs : List Value} (h : Ap va vb) (ho : w.ownsRow B 5 1 vb n xs) (hg : w.grownBy w' va.ownBlock) : w'.ownsRow B 5 1 vb n xs :=
  ho.kept hg (by
    cases hb : vb.ownBlock with
    | none => exact .inl rfl
    | some g => exact .inr fun e => h g e.symm hb)
theorem Ap.next {w : World} {B n g k c : Nat} {va vb : Value} {xs : List Value} (h : Ap va vb) (ho : w.ownsRow B 5 1 vb n xs) (hat : va.ownBlock = some g ∨ g = w.heap.size) : Ap (.slice (some ⟨g, 0, none⟩) k c) vb := by
  intro g1 h1 h2
  have e : g1 = g := by simpa [Value.ownBlock] using h1.symm
  subst e
  rcases hat with h3 | h3
  · exact h _ h3 h2
  · have := (World.ownsRow.lt ho _ h2).2
    omega
end Go.Proofs.YtboladoddnnfcaaDoor
