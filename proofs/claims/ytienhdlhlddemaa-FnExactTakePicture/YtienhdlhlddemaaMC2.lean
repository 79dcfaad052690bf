import Derived.Test.YtienhdlhlddemaaMC
import Derived.Test.YtienhdlhlddemaaD2
/- What the laws do with cows: mark. -/
namespace Go.Proofs.Ytienhdlhlddemaa
open Go.ChangeShapes Go.WideShapes Go.ChangeAt Go.RowKit
set_option linter.unusedVariables false
open Hd

attribute [local go_sem] Oper.semAt_some

/-- The mark behind the cells, that behind the cow, and the marked cow. -/
def kC (k : Nat) (c : Co) : Nat := k + 2 * c.cs.length + kk c.cs c.cs.length
def kW (k : Nat) (c : Co) : Nat := kC k c + c.rs.length
def mkCo (k : Nat) (c : Co) : Co := ⟨mkT k c.cs, mkl (kC k c) c.rs.length, c.lv⟩
theorem IB.low {w : World} {B C : Nat} {v : Value} {l : List Int} {g : Nat} (h : IB w B C v l g) : IB w B (min C w.heap.size) v l g := by
  obtain ⟨a, c, e, hc, hr⟩ := h
  exact ⟨a, c, e, hc, fun hn => by obtain ⟨r1, r2, r3, cs, r4, r5⟩ := hr hn; have := box_lt r4; exact ⟨r1, r2, by omega, cs, r4, r5⟩⟩
theorem COwn.low {w : World} {B C : Nat} {a : Option Addr} {L : List Ce} (h : COwn w B C a L) : COwn w B (min C w.heap.size) a L := by
  intro hn
  obtain ⟨b, c, kb, h1, h2, h3, h4, h5, h6, h7⟩ := h hn
  have := box_lt h4
  refine ⟨b, c, kb, h1, by omega, h3, h4, h5, fun i hi => ?_, h7⟩
  obtain ⟨g0, g0a, v, k1, g3⟩ := h6 i hi
  exact ⟨g0, g0a, v, k1, g3.low⟩
set_option maxHeartbeats 1000000 in
theorem markCow_any (B C : Nat) (v : Value) (c : Co) (k : Nat) (w : World) (hk1 : 1 ≤ k) (hk : kW k c ≤ 100000000) (h : WOwn w B C v c) :
    Calls Try.prog 10 #[v, .int .i64 k] w fun e w' => e = .returned (.int .i64 ((kW k c : Nat) : Int)) ∧ (∃ W, Below w.heap.size w W ∧ Out B C W w') ∧ WOwn w' B C v (mkCo k c) := by
  obtain ⟨a, ka, x, gs, B', C', rfl, h1, h2, h3, h4, h5, h6⟩ := h
  have hkC : kW k c = kC k c + c.rs.length := rfl
  have hkk : kC k c = k + 2 * c.cs.length + kk c.cs c.cs.length := rfl
  obtain ⟨a', k', rfl, hk', -⟩ := id h5
  have h6' := h6.low
  obtain ⟨D', hD'⟩ : ∃ D', min C' w.heap.size = D' := ⟨_, rfl⟩
  rw [hD'] at h6'
  have hD1 : D' ≤ C' := by omega
  have hD2 : D' ≤ w.heap.size := by omega
  have c0 := fun W h => markCellS_any B' D' a ka c.cs k W hk1 (by omega) h
  have c1 := fun W h => markIntS_any B C gs a' k' c.rs (kC k c) W (by omega) h
  rw [← hkk] at c0
  rw [← hkC] at c1
  have hmC : (mkT k c.cs).length = c.cs.length := mkQ_len _ _ _
  obtain ⟨W0, hW0⟩ : ∃ W0, w.alloc (.cells #[.slice a c.cs.length ka, .slice a' c.rs.length k', .int .i64 c.lv] 29) = W0 := ⟨_, rfl⟩
  have q0 : Below w.heap.size w W0 := by subst hW0; exact below_alloc _ _
  have HA : Hid (W0.heap[w.heap.size]? = some (.cells #[.slice a c.cs.length ka, .slice a' c.rs.length k', .int .i64 c.lv] 29 (0, 0))) := by subst hW0; exact al1 _ _
  obtain ⟨x0, x1, x2⟩ := box3_one HA.out
  have H5 : Hid (IB W0 B C (.slice a' c.rs.length k') c.rs gs) := h5.below q0
  have H6 : Hid (COwn W0 B' D' a c.cs) := h6'.below q0
  have hw5 := IB.within h5
  have HBD : Hid _ := hw5
  clear h5 h6 h6' hw5 hD'
  obtain ⟨MT, hMT⟩ : ∃ MT, mkT k c.cs = MT := ⟨_, rfl⟩
  have HMT : Hid _ := hMT
  rw [hMT] at c0 hmC
  clear hMT
  obtain ⟨KC, hKC⟩ : ∃ KC, kC k c = KC := ⟨_, rfl⟩
  have HKC : Hid _ := hKC
  rw [hKC] at c0 c1
  clear hKC hkC hkk
  generalize ((kW k c : Nat) : Int) = K at *
  go_enter Try.func10, Try.ntmps10
  go_wp2_with fail
  refine (c0 _ H6.out).mono ?_
  rintro e w1 ⟨rfl, o1, i1⟩
  have I1 : Hid (COwn w1 B' D' a MT) := i1
  have O1 : Hid (Out B' D' W0 w1) := o1
  clear x0 x1 x2
  obtain ⟨x0, x1, x2⟩ := box3_one (box_out HA.out o1 (by omega))
  have J1 : Hid (IB w1 B C (.slice a' c.rs.length k') c.rs gs) := IB.same H5.out (fun hne hl => o1.block _ hl (by omega))
  clear i1 o1
  go_wp2_with fail
  refine (c1 _ J1.out).mono ?_
  rintro e w2 ⟨rfl, o2, i2⟩
  have I2 : Hid (IB w2 B C (.slice a' c.rs.length k') (mkl KC c.rs.length) gs) := i2
  have O2 : Hid (Out B C w1 w2 ∧ COwn w2 B' C' a MT) := by
    by_cases hs : c.rs = []
    · rw [if_pos hs] at o2; subst o2; exact ⟨Out.refl _ _ _, I1.out.mono (Nat.le_refl _) hD1⟩
    · rw [if_neg hs] at o2
      obtain ⟨u1, u2⟩ := HBD.out hs
      exact ⟨o2.mono u1 u2, (I1.out.out o2 (by omega)).mono (Nat.le_refl _) hD1⟩
  clear o2 i2
  go_wp2_with fail
  go_ret
  refine ⟨rfl, ⟨W0, q0, (O1.out.mono h2 (Nat.le_trans hD1 h3)).trans O2.out.1⟩, a, ka, .slice a' c.rs.length k', gs, B', C', ?_, ?_, h2, h3, h4, ?_, ?_⟩
  · show Value.agg #[.slice a c.cs.length ka, _, _] = Value.agg #[.slice a (mkT k c.cs).length ka, _, _]
    rw [HMT.out, hmC]
    rfl
  · show (mkT k c.cs).length ≤ ka
    rw [HMT.out, hmC]
    exact h1
  · show IB w2 B C _ (mkl (kC k c) c.rs.length) gs
    rw [HKC.out]
    exact I2.out
  · show COwn w2 B' C' a (mkT k c.cs)
    rw [HMT.out]
    exact O2.out.2
end Go.Proofs.Ytienhdlhlddemaa
