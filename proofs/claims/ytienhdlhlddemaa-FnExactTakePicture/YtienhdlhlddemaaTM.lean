import Derived.Test.YtienhdlhlddemaaTL
import Derived.Test.YtienhdlhlddemaaKW
/- The law of TakePicture. -/
namespace Go.Proofs.Ytienhdlhlddemaa
open Go.ChangeShapes Go.WideShapes Go.ChangeAt Go.RowKit
set_option linter.unusedVariables false
open Hd

theorem kk_four {L : List Ce} : ∀ j, j ≤ L.length → (∀ i, i < L.length → (gc L i).kd.length ≤ 4) → kk L j ≤ 4 * j
  | 0, _, _ => by simp [kk]
  | j + 1, hj, h => by
    have h1 := kk_four j (by omega) h
    have h2 := h j (by omega)
    rw [kk]
    omega
theorem zCo_at (w : World) : CowAt w zk zCo := ⟨none, 0, none, 0, rfl, Nat.le_refl _, Nat.le_refl _, Ces.nil, fun h => absurd rfl h⟩
theorem more_kd {L : List Ce} {k : Int} (hk : k = -1 ∨ ∃ q : Nat, k = (q : Int) ∧ q < L.length) (i : Nat) : (gc (oneMore L k) i).kd = (gc L i).kd ∧ (gc (oneMore L k) i).lf = (gc L i).lf := by
  rcases hk with rfl | ⟨q, rfl, hq⟩
  · unfold oneMore
    rw [if_pos (by omega)]
    exact ⟨rfl, rfl⟩
  · rw [oneMore_at hq]
    split
    · next e => subst e; exact ⟨rfl, rfl⟩
    · exact ⟨rfl, rfl⟩
theorem tkD_few {c : Co} {x : Int} (hf : FewW c) : FewW (tkD c x) ∧ kW 1 (tkD c x) ≤ 100000000 := by
  unfold tkD
  by_cases h : tkB c x = true
  · rw [if_pos h]
    have hg : gI c = true ∧ inB c.rs.length x = true := by
      unfold tkB at h
      simp only [Bool.and_eq_true] at h
      exact ⟨h.1, h.2.1⟩
    obtain ⟨hg, hin⟩ := hg
    have hx : 0 ≤ x ∧ x < c.rs.length := by unfold inB at hin; simpa using hin
    obtain ⟨hn, hm1, hm8, -, -⟩ := gI_few' hg
    have hr := gI_root hg (p := x.toNat) (by omega)
    have hkd := fun i => (more_kd hr i)
    have h4 : ∀ i, i < (oneMore c.cs (gi c.rs x.toNat)).length → (gc (oneMore c.cs (gi c.rs x.toNat)) i).kd.length ≤ 4 := fun i hi => by
      rw [oneMore_len] at hi
      rw [(hkd i).1]
      exact gI_kids hg i hi
    have hk := kk_four _ (Nat.le_refl _) h4
    have hl : (oneMore c.cs (gi c.rs x.toNat)).length = c.cs.length := oneMore_len _ _
    have hrl : (c.rs ++ [gi c.rs x.toNat]).length = c.rs.length + 1 := by simp
    refine ⟨⟨⟨?_, fun i hi => ⟨?_, ?_⟩⟩, ?_⟩, ?_⟩
    · show (oneMore c.cs (gi c.rs x.toNat)).length ≤ _; omega
    · show (gc (oneMore c.cs (gi c.rs x.toNat)) i).lf.size ≤ _
      rw [(hkd i).2]
      exact (hf.1.2 i (by rw [← hl]; exact hi)).1
    · show (gc (oneMore c.cs (gi c.rs x.toNat)) i).kd.length ≤ _
      have := h4 i hi; omega
    · show (c.rs ++ [gi c.rs x.toNat]).length ≤ _; omega
    · show 1 + 2 * (oneMore c.cs (gi c.rs x.toNat)).length + kk (oneMore c.cs (gi c.rs x.toNat)) (oneMore c.cs (gi c.rs x.toNat)).length + (c.rs ++ [gi c.rs x.toNat]).length ≤ _
      omega
  · rw [if_neg h]
    exact ⟨⟨⟨by simp [zCo], fun i hi => absurd hi (by simp [zCo])⟩, by simp [zCo]⟩, by simp [kW, kC, zCo, kk]⟩
theorem lawTake_all (v : Value) (c : Co) (x : Int) (w : World) (hf : FewW c) (hD : CowAt w v c) :
    Calls Try.prog 3 #[v, .int .i64 x] w fun e w' => e = .returned (.bool true) ∧ Below w.heap.size w w' := by
  refine lawTakePicture v c (tkD c x) (tkB c x) x w hf hD (fun hs => ⟨fun W v0 h => ?_, fun W v0 h => implTake_any v0 c x W h hf, (tkD_few hf).1, (tkD_few hf).2⟩)
  cases hB : tkB c x with
  | false =>
    refine (specTake_no v0 c x W h hf hs hB).mono ?_
    rintro e w' ⟨h1, rfl⟩
    refine ⟨h1, _, rfl, ?_⟩
    unfold tkD
    rw [if_neg (by rw [hB]; decide)]
    exact zCo_at _
  | true =>
    have hB' := hB
    unfold tkB at hB'
    simp only [Bool.and_eq_true, decide_eq_true_eq] at hB'
    obtain ⟨hg, hin, h8⟩ := hB'
    have hx : 0 ≤ x ∧ x < c.rs.length := by unfold inB at hin; simpa using hin
    obtain ⟨p, rfl⟩ : ∃ p : Nat, x = (p : Int) := ⟨x.toNat, by omega⟩
    refine (specTake_yes v0 c p W h hf hs hg (by omega) h8).mono ?_
    rintro e w' ⟨h1, v', rfl, h2⟩
    refine ⟨h1, v', rfl, ?_⟩
    unfold tkD
    rw [if_pos hB]
    exact h2
end Go.Proofs.Ytienhdlhlddemaa
