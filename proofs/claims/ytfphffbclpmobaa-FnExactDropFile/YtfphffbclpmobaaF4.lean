import Derived.Test.YtfphffbclpmobaaL6
import Derived.Test.YtfphffbclpmobaaF3
/- What the laws do with vaults: mark and hold. -/
namespace Go.Proofs.Ytfphffbclpmobaa
open Go.ChangeShapes Go.WideShapes Go.ChangeAt Go.RowKit
set_option linter.unusedVariables false
open Hd

attribute [local go_sem] Oper.semAt_some

/-- The mark behind the pieces, that behind the vault, and the marked vault. -/
def kP (k : Nat) (u : Va) : Nat := k + 2 * u.pc.length
def kV (k : Nat) (u : Va) : Nat := kP k u + kk u.fs u.fs.length
def mkV (k : Nat) (u : Va) : Va := ⟨mkN k u.pc.length, mkT (kP k u) u.fs⟩
/-- Few files. -/
def FewFs (u : Va) : Prop := u.fs.length ≤ 100000000
theorem NB.glt {w : World} {B C : Nat} {v : Value} {l : List Nm} {g : Nat} (h : NB w B C v l g) : l ≠ [] → g < w.heap.size := by
  obtain ⟨a, c, e, hc, hr⟩ := h
  exact fun hn => by obtain ⟨-, r2, r3, cs, r4, -⟩ := hr hn; exact box_lt r4
theorem NB.within {w : World} {B C : Nat} {v : Value} {l : List Nm} {g : Nat} (h : NB w B C v l g) : l ≠ [] → B ≤ g ∧ g < C := by
  obtain ⟨a, c, e, hc, hr⟩ := h
  exact fun hn => by obtain ⟨-, r2, r3, -⟩ := hr hn; exact ⟨r2, r3⟩
theorem markN_out {l : List Nm} {g B C : Nat} {w w' : World} (h : if l = [] then w' = w else Out g (g + 1) w w') (hg : l ≠ [] → B ≤ g ∧ g < C) : Out B C w w' := by
  by_cases hz : l = []
  · rw [if_pos hz] at h; subst h; exact Out.refl _ _ _
  · rw [if_neg hz] at h; obtain ⟨h1, h2⟩ := hg hz; exact h.mono h1 h2
set_option maxHeartbeats 1000000 in
theorem markVault_any (B C : Nat) (v : Value) (u : Va) (k : Nat) (w : World) (hk1 : 1 ≤ k) (hn : u.fs.length ≤ 100000000) (hk : kV k u ≤ 100000000) (h : VOwn w B C v u) :
    Calls Try.prog 9 #[v, .int .i64 k] w fun e w' => e = .returned (.int .i64 ((kV k u : Nat) : Int)) ∧ (∃ W, Below w.heap.size w W ∧ Out B C W w') ∧ VOwn w' B C v (mkV k u) := by
  obtain ⟨a, ka, x, gs, B', C', rfl, h1, h2, h3, h4, h5, h6⟩ := h
  have hkP : kP k u = k + 2 * u.pc.length := rfl
  have hkV : kV k u = kP k u + kk u.fs u.fs.length := rfl
  obtain ⟨a', k', rfl, hk', -⟩ := id h5
  have c0 := fun W h => markNameS_any B C gs a' k' u.pc k W hk1 (by omega) h
  have c1 := fun W h => markFileS_any B' C' a ka u.fs (kP k u) W hn (by omega) h
  rw [← hkP] at c0
  rw [← hkV] at c1
  have hmC : (mkT (kP k u) u.fs).length = u.fs.length := mkQ_len _ _ _
  obtain ⟨W0, hW0⟩ : ∃ W0, w.alloc (.cells #[.slice a' u.pc.length k', .slice a u.fs.length ka] 30) = W0 := ⟨_, rfl⟩
  have q0 : Below w.heap.size w W0 := by subst hW0; exact below_alloc _ _
  have HA : Hid (W0.heap[w.heap.size]? = some (.cells #[.slice a' u.pc.length k', .slice a u.fs.length ka] 30 (0, 0))) := by subst hW0; exact al1 _ _
  obtain ⟨x0, x1, -, -⟩ := box2_cells HA.out
  have hgl := h5.glt
  have hgw := h5.within
  have H5 : Hid (NB W0 B C (.slice a' u.pc.length k') u.pc gs) := h5.below q0
  have H6 : Hid (FOwn W0 B' C' a u.fs) := h6.below q0
  clear h5 h6
  obtain ⟨MT, hMT⟩ : ∃ MT, mkT (kP k u) u.fs = MT := ⟨_, rfl⟩
  have HMT : Hid _ := hMT
  rw [hMT] at c1 hmC
  clear hMT
  obtain ⟨KP, hKP⟩ : ∃ KP, kP k u = KP := ⟨_, rfl⟩
  have HKP : Hid _ := hKP
  rw [hKP] at c0 c1
  clear hKP hkP hkV
  generalize ((kV k u : Nat) : Int) = K at *
  go_enter Try.func9, Try.ntmps9
  go_wp2_with fail
  refine (c0 _ H5.out).mono ?_
  rintro e w1 ⟨rfl, o1, i1⟩
  have I1 : Hid (NB w1 B C (.slice a' u.pc.length k') (mkN k u.pc.length) gs) := i1
  have O1 : Hid (Out B C W0 w1) := markN_out o1 hgw
  have F1 : Hid (w1.heap[w.heap.size]? = some (.cells #[.slice a' u.pc.length k', .slice a u.fs.length ka] 30 (0, 0)) ∧ FOwn w1 B' C' a u.fs) := by
    by_cases hz : u.pc = []
    · rw [if_pos hz] at o1; subst o1; exact ⟨HA.out, H6.out⟩
    · rw [if_neg hz] at o1; have := hgl hz; exact ⟨box_out HA.out o1 (by omega), H6.out.out o1 (by omega)⟩
  clear x0 x1 o1 i1
  obtain ⟨x0, x1, -, -⟩ := box2_cells F1.out.1
  go_wp2_with fail
  refine (c1 _ F1.out.2).mono ?_
  rintro e w2 ⟨rfl, o2, i2⟩
  have I2 : Hid _ := i2
  have J1 : Hid (NB w2 B C (.slice a' u.pc.length k') (mkN k u.pc.length) gs) := I1.out.out o2 (fun _ => h4)
  have O2 : Hid (Out B' C' w1 w2) := o2
  clear o2 i2
  go_wp2_with fail
  go_ret
  refine ⟨rfl, ⟨W0, q0, O1.out.trans (O2.out.mono h2 h3)⟩, a, ka, .slice a' u.pc.length k', gs, B', C', ?_, ?_, h2, h3, h4, J1.out, ?_⟩
  · show Value.agg #[_, .slice a u.fs.length ka] = Value.agg #[_, .slice a (mkT (kP k u) u.fs).length ka]
    rw [HMT.out, hmC]
  · show (mkT (kP k u) u.fs).length ≤ ka
    rw [HMT.out, hmC]
    exact h1
  · show FOwn w2 B' C' a (mkT (kP k u) u.fs)
    rw [HMT.out]
    exact I2.out
set_option maxHeartbeats 1000000 in
theorem heldVault_any (v : Value) (u : Va) (k : Nat) (w : World) (hk1 : 1 ≤ k) (hn : u.fs.length ≤ 100000000) (hk : kV k u ≤ 100000000) (h : VAt w v (mkV k u)) :
    Calls Try.prog 10 #[v, .int .i64 k] w fun e w' => e = .returned (.int .i64 ((kV k u : Nat) : Int)) ∧ Below w.heap.size w w' := by
  have hkP : kP k u = k + 2 * u.pc.length := rfl
  have hkV : kV k u = kP k u + kk u.fs u.fs.length := rfl
  obtain ⟨a, ka, a', k', rfl, h1, h2, h3, h4⟩ := h
  have e1 : (mkV k u).pc.length = u.pc.length := mkN_len _ _
  have e2 : (mkV k u).fs.length = u.fs.length := mkQ_len _ _ _
  rw [e1, e2]
  have h3' : Nms w a (mkN k u.pc.length) := h3
  have h4' : Fis w a' (mkT (kP k u) u.fs) := h4
  clear h1 h2 h3 h4 e1 e2
  have c0 := fun W h => heldNameS_any a ka u.pc.length k W hk1 (by omega) h
  have c1 := fun W h => heldFileS_any a' k' u.fs (kP k u) W hn (by omega) h
  rw [← hkP] at c0
  rw [← hkV] at c1
  obtain ⟨W0, hW0⟩ : ∃ W0, w.alloc (.cells #[.slice a u.pc.length ka, .slice a' u.fs.length k'] 30) = W0 := ⟨_, rfl⟩
  have q0 : Below w.heap.size w W0 := by subst hW0; exact below_alloc _ _
  have HA : Hid (W0.heap[w.heap.size]? = some (.cells #[.slice a u.pc.length ka, .slice a' u.fs.length k'] 30 (0, 0))) := by subst hW0; exact al1 _ _
  obtain ⟨x0, x1, -, -⟩ := box2_cells HA.out
  have H3 : Hid (Nms W0 a (mkN k u.pc.length)) := h3'.below q0
  have H4 : Hid (Fis W0 a' (mkT (kP k u) u.fs)) := h4'.below q0
  have hp0 : decide (((kP k u : Nat) : Int) < 0) = false := by simp
  have hp1 : decide (((kV k u : Nat) : Int) < 0) = false := by simp
  have hp2 : 0 ≤ ((kP k u : Nat) : Int) := by omega
  have hp3 : 0 ≤ ((kV k u : Nat) : Int) := by omega
  clear h3' h4' hkP hkV hk
  unfold vv
  generalize ((kV k u : Nat) : Int) = K at *
  generalize ((kP k u : Nat) : Int) = KC at *
  go_enter Try.func10, Try.ntmps10
  go_wp2_with fail
  refine (c0 _ H3.out).mono ?_
  rintro e w1 ⟨rfl, b1⟩
  have g1 := Below.comp q0 b1
  clear x0 x1 hW0
  obtain ⟨x0, x1, -, -⟩ := box2_cells (box_on HA.out b1)
  have I1 := H4.out.below b1
  go_wp2_with fail
  refine (c1 _ I1).mono ?_
  rintro e w2 ⟨rfl, b2⟩
  go_wp2_with fail
  go_ret
  exact ⟨rfl, Below.comp g1 b2⟩
end Go.Proofs.Ytfphffbclpmobaa
