import Derived.Test.YtodidnbghiinkaaP3
import Derived.Test.YtodidnbghiinkaaA1
import Derived.Test.YtodidnbghiinkaaE1
/- The program reads the first token. -/
namespace Go.Proofs.Ytodidnbghiinkaa
open Go.ChangeShapes Go.WideShapes Go.ChangeAt Go.RowKit
set_option linter.unusedVariables false
open Tz

attribute [local go_sem] Oper.semAt_some

theorem slice_mid (s : ByteArray) (a b : Nat) (h1 : a ≤ b) (h2 : b ≤ s.size) (w : World) : (Instr.slice 9 (.string s) (some (.int .i64 (a : Int))) (some (.int .i64 (b : Int))) none).run Try.prog w = .ok (.string (s.extract a b)) w := by
  rw [run_slice_string w 9 s .i64 .i64 (a : Int) (b : Int) Try.underlying9 (by omega) (by omega) (by omega)]
  simp
theorem slice_end (s : ByteArray) (a : Nat) (h1 : a ≤ s.size) (w : World) : (Instr.slice 9 (.string s) (some (.int .i64 (a : Int))) none none).run Try.prog w = .ok (.string (s.extract a s.size)) w := by
  rw [run_slice_string_from_if w 9 s .i64 (a : Int) Try.underlying9, if_pos (by omega)]
  simp
set_option maxHeartbeats 1000000 in
theorem firstToken_any (r : ByteArray) (w : World) (h0 : 0 < r.size) (hl : r.size ≤ 100000) :
    Calls Try.prog 54 #[.string r] w fun e w' => e = .returned (.tuple #[tv (fstT r), .int .i64 (fstL r : Nat)]) ∧ Below w.heap.size w w' := by
  obtain ⟨X, hX⟩ : ∃ X, fstT r = X := ⟨_, rfl⟩
  obtain ⟨L, hL⟩ : ∃ L, fstL r = L := ⟨_, rfl⟩
  rw [hX, hL]
  unfold fstT at hX
  unfold fstL at hL
  obtain ⟨D, hD⟩ : ∃ D, w.heap.size = D := ⟨_, rfl⟩
  obtain ⟨W0, hW0⟩ : ∃ W0, w.alloc (.cells #[.string ⟨#[]⟩, .int .i64 0, .int .i64 0] 52) = W0 := ⟨_, rfl⟩
  have q1 : Below w.heap.size w W0 := by subst hW0; exact below_alloc _ _
  have HB0 : Hid (W0.heap[D]? = some (.cells #[.string ⟨#[]⟩, .int .i64 0, .int .i64 0] 52 (0, 0))) := by subst hW0 hD; exact al1 _ _
  have x0 := run_idx' r 0 0 (by omega) h0
  have hc0 := (ch r 0).toNat_lt
  obtain ⟨H, hH⟩ : ∃ H, (ch r 0).toNat = H := ⟨_, rfl⟩
  rw [hH] at hX hL x0 hc0
  clear hH
  obtain ⟨c0, c1, c2, f0, f1, f2⟩ := box3_cells HB0.out
  have HO : Hid (∀ W (x : Tk), W = ((W0.setCell ⟨D, 0, none⟩ (.string x.p)).setCell ⟨D, 1, none⟩ (.int .i64 x.d)).setCell ⟨D, 2, none⟩ (.int .i64 x.n) → Below D w W ∧ W.heap[D]? = some (.cells #[.string x.p, .int .i64 x.d, .int .i64 x.n] 52 (0, 0))) := fun W x e => by
    subst e
    exact ⟨(((hD ▸ q1).setCell (Nat.le_refl _) _).setCell (Nat.le_refl _) _).setCell (Nat.le_refl _) _, box3_set HB0.out⟩
  have ew1 : IntKind.i64.wrap (2 + (H : Int)) = 2 + (H : Int) := wrapI (by omega) (by omega)
  rw [hD]
  by_cases h64 : H < 64
  · have h64' : (H : Int) < 64 := by omega
    rw [if_pos h64] at hX hL
    have eL : (L : Int) = 2 + (H : Int) := by omega
    by_cases hs : r.size < H + 2
    · have hs' : (r.size : Int) < 2 + (H : Int) := by omega
      rw [if_pos hs] at hX
      have HR : Hid (Ending.returned (.tuple #[tv ⟨⟨#[]⟩, 0, 0⟩, .int .i64 (2 + (H : Int))]) = .returned (.tuple #[tv X, .int .i64 (L : Int)])) := by show _ = _; rw [eL, ← hX]; rfl
      clear h64 hs hX hL eL
      go_enter Try.func54, Try.ntmps54
      go_wp2
      obtain ⟨W3, hW3⟩ : ∃ W3, (((W0.setCell ⟨D, 0, none⟩ (.string ⟨#[]⟩)).setCell ⟨D, 1, none⟩ (.int .i64 0)).setCell ⟨D, 2, none⟩ (.int .i64 0)) = W3 := ⟨_, rfl⟩
      obtain ⟨b3, R⟩ := HO.out W3 ⟨⟨#[]⟩, 0, 0⟩ hW3.symm
      rw [hW3]
      clear hW3
      obtain ⟨t0, t1, t2, -, -, -⟩ := box3_cells R
      exact bodyPost_ret (v := .tuple #[tv ⟨⟨#[]⟩, 0, 0⟩, .int .i64 (2 + (H : Int))]) (by simp [results, Try.results54, go_sem, t0, t1, t2]) rfl ⟨by rw [HR.out], b3⟩
    · have hs' : ¬ (r.size : Int) < 2 + (H : Int) := by omega
      rw [if_neg hs] at hX
      have cS : ∀ W, (Instr.slice 9 (.string r) (some (.int .i64 1)) (some (.int .i64 (2 + (H : Int)))) none).run Try.prog W = .ok (.string (r.extract 1 (H + 2))) W := fun W => by
        have := slice_mid r 1 (H + 2) (by omega) (by omega) W
        rw [show (((1 : Nat)) : Int) = 1 by rfl, show (((H + 2 : Nat)) : Int) = 2 + (H : Int) by omega] at this
        exact this
      obtain ⟨S, hS⟩ : ∃ S, r.extract 1 (H + 2) = S := ⟨_, rfl⟩
      rw [hS] at hX cS
      have HR : Hid (Ending.returned (.tuple #[tv ⟨S, 0, 0⟩, .int .i64 (2 + (H : Int))]) = .returned (.tuple #[tv X, .int .i64 (L : Int)])) := by show _ = _; rw [eL, ← hX]
      clear h64 hs hX hL eL hS
      go_enter Try.func54, Try.ntmps54
      go_wp2
      obtain ⟨W3, hW3⟩ : ∃ W3, (((W0.setCell ⟨D, 0, none⟩ (.string S)).setCell ⟨D, 1, none⟩ (.int .i64 0)).setCell ⟨D, 2, none⟩ (.int .i64 0)) = W3 := ⟨_, rfl⟩
      obtain ⟨b3, R⟩ := HO.out W3 ⟨S, 0, 0⟩ hW3.symm
      rw [hW3]
      clear hW3
      obtain ⟨t0, t1, t2, -, -, -⟩ := box3_cells R
      exact bodyPost_ret (v := .tuple #[tv ⟨S, 0, 0⟩, .int .i64 (2 + (H : Int))]) (by simp [results, Try.results54, go_sem, t0, t1, t2]) rfl ⟨by rw [HR.out], b3⟩
  · have h64' : ¬ (H : Int) < 64 := by omega
    rw [if_neg h64] at hX hL
    have eL : (L : Int) = 2 := by omega
    by_cases hs : r.size < 2
    · have hs' : (r.size : Int) < 2 := by omega
      rw [if_pos hs] at hX
      have HR : Hid (Ending.returned (.tuple #[tv ⟨⟨#[]⟩, 0, 0⟩, .int .i64 2]) = .returned (.tuple #[tv X, .int .i64 (L : Int)])) := by show _ = _; rw [eL, ← hX]; rfl
      clear h64 hs hX hL eL
      go_enter Try.func54, Try.ntmps54
      go_wp2
      obtain ⟨W3, hW3⟩ : ∃ W3, (((W0.setCell ⟨D, 0, none⟩ (.string ⟨#[]⟩)).setCell ⟨D, 1, none⟩ (.int .i64 0)).setCell ⟨D, 2, none⟩ (.int .i64 0)) = W3 := ⟨_, rfl⟩
      obtain ⟨b3, R⟩ := HO.out W3 ⟨⟨#[]⟩, 0, 0⟩ hW3.symm
      rw [hW3]
      clear hW3
      obtain ⟨t0, t1, t2, -, -, -⟩ := box3_cells R
      exact bodyPost_ret (v := .tuple #[tv ⟨⟨#[]⟩, 0, 0⟩, .int .i64 2]) (by simp [results, Try.results54, go_sem, t0, t1, t2]) rfl ⟨by rw [HR.out], b3⟩
    · have hs' : ¬ (r.size : Int) < 2 := by omega
      rw [if_neg hs] at hX
      have x1 := run_idx' r 1 1 (by omega) (by omega)
      have hc1 := (ch r 1).toNat_lt
      obtain ⟨K, hK⟩ : ∃ K, (ch r 1).toNat = K := ⟨_, rfl⟩
      rw [hK] at hX x1 hc1
      obtain ⟨M, hM⟩ : ∃ M, H - 61 = M := ⟨_, rfl⟩
      rw [hM] at hX
      have ew2 : IntKind.i64.wrap ((H : Int) - 64) = (H : Int) - 64 := wrapI (by omega) (by omega)
      have ew3 : IntKind.i64.wrap ((H : Int) - 64 + 3) = (M : Int) := by rw [wrapI (by omega) (by omega)]; omega
      have HR : Hid (Ending.returned (.tuple #[tv ⟨⟨#[]⟩, (K : Int), (M : Int)⟩, .int .i64 2]) = .returned (.tuple #[tv X, .int .i64 (L : Int)])) := by show _ = _; rw [eL, ← hX]
      clear h64 hs hX hL eL hK hM
      go_enter Try.func54, Try.ntmps54
      go_wp2
      obtain ⟨W3, hW3⟩ : ∃ W3, (((W0.setCell ⟨D, 0, none⟩ (.string ⟨#[]⟩)).setCell ⟨D, 1, none⟩ (.int .i64 (K : Int))).setCell ⟨D, 2, none⟩ (.int .i64 (M : Int))) = W3 := ⟨_, rfl⟩
      obtain ⟨b3, R⟩ := HO.out W3 ⟨⟨#[]⟩, (K : Int), (M : Int)⟩ hW3.symm
      rw [hW3]
      clear hW3
      obtain ⟨t0, t1, t2, -, -, -⟩ := box3_cells R
      exact bodyPost_ret (v := .tuple #[tv ⟨⟨#[]⟩, (K : Int), (M : Int)⟩, .int .i64 2]) (by simp [results, Try.results54, go_sem, t0, t1, t2]) rfl ⟨by rw [HR.out], b3⟩
end Go.Proofs.Ytodidnbghiinkaa
