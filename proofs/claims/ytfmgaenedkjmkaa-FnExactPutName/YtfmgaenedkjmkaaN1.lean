import Derived.Test.YtfmgaenedkjmkaaH3
import Derived.Test.YtfmgaenedkjmkaaP5
/- The specification: a name put into a row. -/
namespace Go.Proofs.Ytfmgaenedkjmkaa
open Go.ChangeShapes Go.WideShapes Go.ChangeAt Go.RowKit
set_option linter.unusedVariables false
open Hd

attribute [local go_sem] Oper.semAt_some

/-- A part of a row. -/
def subA (x : Option Addr) (k c : Nat) : Option Addr := if c = k then x else x.map (·.add (k * 2))
theorem size47 (w : World) : (Go.sizeOf 36).run Try.prog w = .ok 2 w := Try.sizeOf36 w
theorem slice_to (x : Option Addr) (n c k : Nat) (h : k ≤ c) (w : World) : (Instr.slice 48 (.slice x n c) none (some (.int .i64 (k : Int))) none).run Try.prog w = .ok (.slice (subA x 0 c) k c) w := by
  rw [run_slice_h w 48 x n c (by kernel_rfl) .i64 k (by omega) (by omega), show Try.prog.elem 48 = 36 from by kernel_rfl, size47]
  simp [Result.andThen, sliced, subA]
theorem slice_from (x : Option Addr) (n c k : Nat) (h : k ≤ n) (w : World) : (Instr.slice 48 (.slice x n c) (some (.int .i64 (k : Int))) none none).run Try.prog w = .ok (.slice (subA x k c) (n - k) (c - k)) w := by
  rw [run_slice_l w 48 x n c (by kernel_rfl) .i64 k (by omega) (by omega), show Try.prog.elem 48 = 36 from by kernel_rfl, size47]
  simp [Result.andThen, sliced, subA]
theorem Nms.take {w : World} {a : Option Addr} {l : List Nm} (h : Nms w a l) (c k : Nat) (hk : k ≤ l.length) : Nms w (subA a 0 c) (l.take k) := by
  intro hn
  simp at hn
  obtain ⟨b, off, rfl, hc⟩ := h (by omega)
  refine ⟨b, off, ?_, fun i hi => ?_⟩
  · unfold subA
    split
    · rfl
    · simp [Addr.add]
  · have hi' : i < k := by simp at hi; omega
    rw [gm_take hi']
    exact hc i (by omega)
theorem Nms.drop {w : World} {a : Option Addr} {l : List Nm} (h : Nms w a l) (c k : Nat) (hc : l.length ≤ c) : Nms w (subA a k c) (l.drop k) := by
  intro hn
  simp at hn
  obtain ⟨b, off, rfl, hcell⟩ := h (by omega)
  refine ⟨b, off + k * 2, ?_, fun i hi => ?_⟩
  · unfold subA
    rw [if_neg (by omega)]
    simp [addN]
  · simp at hi
    rw [gm_drop]
    have := hcell (k + i) (by omega)
    rw [show off + k * 2 + i * 2 = off + (k + i) * 2 by omega]
    exact this
set_option maxHeartbeats 4000000 in
theorem l8Put_any (a : Option Addr) (l : List Nm) (cap : Nat) (x : Nm) (k : Nat) (w : World) (hn : l.length ≤ 100000000) (hcap : l.length ≤ cap) (hc : Nms w a l) (hk : AtN l x.nm k) :
    Calls Try.prog 34 #[.slice a l.length cap, nv x] w fun e w' => Below w.heap.size w w' ∧ ∃ v, e = .returned v ∧ OwnN w' w.heap.size v (putL l x k) := by
  obtain ⟨s, f⟩ := x
  obtain ⟨D, hD⟩ : ∃ D, w.heap.size = D := ⟨_, rfl⟩
  obtain ⟨W0, hW0⟩ : ∃ W0, w.alloc (.cells #[.string s, .int .i64 f] 36) = W0 := ⟨_, rfl⟩
  have q0 : Below w.heap.size w W0 := by subst hW0; exact below_alloc _ _
  have HD : Hid (W0.heap[D]? = some (.cells #[.string s, .int .i64 f] 36 (0, 0))) := by subst hW0 hD; exact al1 _ _
  obtain ⟨i0, i1, -, -⟩ := box2_cells HD.out
  have cS := l8At_any a l cap s k W0 (by omega) (hc.below q0) hk
  have hkl := hk.1
  have HC : Hid (Nms w a l) := hc
  have hT := slice_to a l.length cap k (by omega)
  have HP : Hid (putL l ⟨s, f⟩ k = l.take k ++ [⟨s, f⟩] ++ l.drop (bif hasN l s k then k + 1 else k)) := rfl
  generalize putL l ⟨s, f⟩ k = R at HP ⊢
  have hhas : hasN l s k = true → k + 1 ≤ l.length := fun h => by simp [hasN] at h; omega
  obtain ⟨r, hr⟩ : ∃ r, hasN l s k = r := ⟨_, rfl⟩
  rw [hr] at cS HP hhas
  have Hl1 : Hid ((l.take k).length = k) := by show _ = _; simp; omega
  obtain ⟨n, hnn⟩ : ∃ n, l.length = n := ⟨_, rfl⟩
  have Hn : Hid _ := hnn
  rw [hnn] at hn hcap hkl hT hhas cS ⊢
  unfold nv
  simp only
  clear hr hk hc
  cases r with
  | false =>
    have hK : k ≤ n := hkl
    have hF : ∀ w, (Instr.slice 48 (.slice a n cap) (some (.int .i64 (k : Int))) none none).run Try.prog w = .ok (.slice (subA a (k) cap) (n - (k)) (cap - (k))) w := fun w => slice_from a n cap (k) hK w
    have HP2 : Hid (R = l.take k ++ [⟨s, f⟩] ++ l.drop (k)) := HP.out
    have Hl2 : Hid ((l.drop (k)).length = n - (k)) := by show _ = _; simp [hnn]
    clear HP hhas hnn
    go_enter Try.func34, Try.ntmps34
    go_wp2_with fail
    refine cS.mono ?_
    rintro e w1 ⟨rfl, b1⟩
    clear cS i0 i1 hW0
    have g1 := Below.comp q0 b1
    have own0 : w1.ownsRow w1.heap.size 36 2 (.slice none 0 0) 0 [] := OwnN.nil w1 _
    have st1 := ((HC.out.below g1).take cap k (by rw [Hn.out]; exact hkl)).src
    rw [Hl1.out] at st1
    have hz1 : w1.heap.size ≤ w1.heap.size := Nat.le_refl _
    have tok1 : Hid True := trivial
    have tok2 : Hid True := trivial
    go_wp2_with (first
      | (at_builtin; refine wpList_append_src rfl _ _ 48 rfl w1.heap.size 36 _ 2 24 Try.underlying48 info47 rfl (by decide) (.slice none 0 0) 0 [] rfl own0 (subA a 0 cap) k cap (cns (l.take k)) rfl (by rw [cns_len, Hl1.out]) st1 (cns_one _) (by omega) (by decide) hz1 ?_; intro v2 w2 own2 gr2; have b2 : Below w1.heap.size w1 w2 := grown_on (Below.refl _ _) hz1 own0 gr2; obtain ⟨j0, j1, -, -⟩ := box2_cells (box_on (box_on HD.out b1) b2); have z2 : w1.heap.size ≤ (w2.alloc (.cells #[.string s, .int .i64 f] 36)).heap.size := (by have := b2.size; simp; omega); rw [Nat.zero_add, List.nil_append] at own2; obtain ⟨y2, cy2, rfl⟩ := owns_form own2; have own2a := owns_below own2 (below_alloc w2 (.cells #[.string s, .int .i64 f] 36)); have sr2 := src_two w2 (.string s) (.int .i64 f) 36; have bb2 := b2.trans ((below_alloc w2 (.cells #[.string s, .int .i64 f] 36)).mono b2.size); clear own0 st1)
      | (at_builtin; refine wpList_append_src rfl _ _ 48 rfl w1.heap.size 36 _ 2 24 Try.underlying48 info47 rfl (by decide) (.slice y2 k cy2) k (cns (l.take k)) rfl own2a (some ⟨w2.heap.size, 0, none⟩) 1 1 [.string s, .int .i64 f] rfl rfl sr2 (by simp [Value.oneCell']) (by omega) (by decide) z2 ?_; intro v3 w3 own3 gr3; have b3 : Below w1.heap.size w1 w3 := grown_on bb2 z2 own2a gr3; obtain ⟨y3, cy3, rfl⟩ := owns_form own3; have z3 : w1.heap.size ≤ w3.heap.size := b3.size; have st3 := ((HC.out.below (Below.comp g1 b3)).drop cap (k) (by rw [Hn.out]; exact hcap)).src; rw [Hl2.out] at st3; clear own2a sr2 z2)
      | (at_builtin; refine wpList_append_src rfl _ _ 48 rfl w1.heap.size 36 _ 2 24 Try.underlying48 info47 rfl (by decide) (.slice y3 (k + 1) cy3) (k + 1) (cns (l.take k) ++ [.string s, .int .i64 f]) rfl own3 (subA a (k) cap) (n - (k)) (cap - (k)) (cns (l.drop (k))) rfl (by rw [cns_len, Hl2.out]) st3 (cns_one _) (by omega) (by decide) z3 ?_; intro v4 w4 own4 gr4; have b4 : Below w1.heap.size w1 w4 := grown_on b3 z3 own3 gr4))
    go_ret
    refine ⟨Below.comp g1 b4, _, rfl, ?_⟩
    have hR := HP2.out
    have e1 : R.length = k + 1 + (n - (k)) := by rw [hR]; simp only [List.length_append, Hl1.out, Hl2.out, List.length_singleton]
    have e2 : cns R = cns (l.take k) ++ [.string s, .int .i64 f] ++ cns (l.drop (k)) := by rw [hR, cns_app, cns_app]; rfl
    unfold OwnN
    rw [e1, e2]
    exact owns_mono own4 g1.size
  | true =>
    have hK : k + 1 ≤ n := (hhas rfl)
    have hF : ∀ w, (Instr.slice 48 (.slice a n cap) (some (.int .i64 ((k : Int) + 1))) none none).run Try.prog w = .ok (.slice (subA a (k + 1) cap) (n - (k + 1)) (cap - (k + 1))) w := fun w => slice_from a n cap (k + 1) hK w
    have HP2 : Hid (R = l.take k ++ [⟨s, f⟩] ++ l.drop (k + 1)) := HP.out
    have Hl2 : Hid ((l.drop (k + 1)).length = n - (k + 1)) := by show _ = _; simp [hnn]
    clear HP hhas hnn
    go_enter Try.func34, Try.ntmps34
    go_wp2_with fail
    refine cS.mono ?_
    rintro e w1 ⟨rfl, b1⟩
    clear cS i0 i1 hW0
    have g1 := Below.comp q0 b1
    have own0 : w1.ownsRow w1.heap.size 36 2 (.slice none 0 0) 0 [] := OwnN.nil w1 _
    have st1 := ((HC.out.below g1).take cap k (by rw [Hn.out]; exact hkl)).src
    rw [Hl1.out] at st1
    have hz1 : w1.heap.size ≤ w1.heap.size := Nat.le_refl _
    have tok1 : Hid True := trivial
    have tok2 : Hid True := trivial
    go_wp2_with (first
      | (at_builtin; refine wpList_append_src rfl _ _ 48 rfl w1.heap.size 36 _ 2 24 Try.underlying48 info47 rfl (by decide) (.slice none 0 0) 0 [] rfl own0 (subA a 0 cap) k cap (cns (l.take k)) rfl (by rw [cns_len, Hl1.out]) st1 (cns_one _) (by omega) (by decide) hz1 ?_; intro v2 w2 own2 gr2; have b2 : Below w1.heap.size w1 w2 := grown_on (Below.refl _ _) hz1 own0 gr2; obtain ⟨j0, j1, -, -⟩ := box2_cells (box_on (box_on HD.out b1) b2); have z2 : w1.heap.size ≤ (w2.alloc (.cells #[.string s, .int .i64 f] 36)).heap.size := (by have := b2.size; simp; omega); rw [Nat.zero_add, List.nil_append] at own2; obtain ⟨y2, cy2, rfl⟩ := owns_form own2; have own2a := owns_below own2 (below_alloc w2 (.cells #[.string s, .int .i64 f] 36)); have sr2 := src_two w2 (.string s) (.int .i64 f) 36; have bb2 := b2.trans ((below_alloc w2 (.cells #[.string s, .int .i64 f] 36)).mono b2.size); clear own0 st1)
      | (at_builtin; refine wpList_append_src rfl _ _ 48 rfl w1.heap.size 36 _ 2 24 Try.underlying48 info47 rfl (by decide) (.slice y2 k cy2) k (cns (l.take k)) rfl own2a (some ⟨w2.heap.size, 0, none⟩) 1 1 [.string s, .int .i64 f] rfl rfl sr2 (by simp [Value.oneCell']) (by omega) (by decide) z2 ?_; intro v3 w3 own3 gr3; have b3 : Below w1.heap.size w1 w3 := grown_on bb2 z2 own2a gr3; obtain ⟨y3, cy3, rfl⟩ := owns_form own3; have z3 : w1.heap.size ≤ w3.heap.size := b3.size; have st3 := ((HC.out.below (Below.comp g1 b3)).drop cap (k + 1) (by rw [Hn.out]; exact hcap)).src; rw [Hl2.out] at st3; clear own2a sr2 z2)
      | (at_builtin; refine wpList_append_src rfl _ _ 48 rfl w1.heap.size 36 _ 2 24 Try.underlying48 info47 rfl (by decide) (.slice y3 (k + 1) cy3) (k + 1) (cns (l.take k) ++ [.string s, .int .i64 f]) rfl own3 (subA a (k + 1) cap) (n - (k + 1)) (cap - (k + 1)) (cns (l.drop (k + 1))) rfl (by rw [cns_len, Hl2.out]) st3 (cns_one _) (by omega) (by decide) z3 ?_; intro v4 w4 own4 gr4; have b4 : Below w1.heap.size w1 w4 := grown_on b3 z3 own3 gr4))
    go_ret
    refine ⟨Below.comp g1 b4, _, rfl, ?_⟩
    have hR := HP2.out
    have e1 : R.length = k + 1 + (n - (k + 1)) := by rw [hR]; simp only [List.length_append, Hl1.out, Hl2.out, List.length_singleton]
    have e2 : cns R = cns (l.take k) ++ [.string s, .int .i64 f] ++ cns (l.drop (k + 1)) := by rw [hR, cns_app, cns_app]; rfl
    unfold OwnN
    rw [e1, e2]
    exact owns_mono own4 g1.size
end Go.Proofs.Ytfmgaenedkjmkaa
