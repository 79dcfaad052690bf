import Derived.Test.YthioomihpfmlmaaA3
/- The program: rows of names that rise, that are good; slots that mean a bucket. -/
namespace Go.Proofs.Ythioomihpfmlmaa
open Go.ChangeShapes Go.WideShapes Go.ChangeAt Go.RowKit
set_option linter.unusedVariables false
open Hd

attribute [local go_sem] Oper.semAt_some

theorem cmpNm_any (x y : Nm) (w : World) : Calls Try.prog 50 #[nv x, nv y] w fun e w' => e = .returned (.int .i64 (cm x.nm y.nm)) ∧ Below w.heap.size w w' :=
  (compareNames_any x.nm y.nm x.fl y.fl w).mono fun e w' h => ⟨h.1, by rw [h.2]; exact ba2 _ _ _⟩
set_option maxHeartbeats 1000000 in
theorem areRising_any (a : Option Addr) (l : List Nm) (cap : Nat) (w : World) (hn : l.length ≤ 9223372036854775807) (hc : Nms w a l) :
    Calls Try.prog 43 #[.slice a l.length cap] w fun e w' => Tel e (∀ i, i < l.length → 0 < i → les (gm l (i - 1)).nm (gm l i).nm = true) ∧ Below w.heap.size w w' := by
  unfold Nms at hc
  have Hc : Hid _ := hc
  clear hc
  obtain ⟨n, hln⟩ : ∃ n, l.length = n := ⟨_, rfl⟩
  rw [hln] at hn Hc ⊢
  clear hln
  go_enter Try.func43, Try.ntmps43
  go_wp2
  go_loopw [3] (fun i wr => ∃ (k : Nat), 1 ≤ k ∧ (k ≤ n ∨ k = 1) ∧ i = .int .i64 k ∧ Hid (∀ i, i < k → 0 < i → les (gm l (i - 1)).nm (gm l i).nm = true) ∧ Below w.heap.size w wr) (fun i _ => n + 1 - (intOf i).toNat)
  case atStart => exact ⟨1, by omega, .inr rfl, rfl, fun i hi h0 => absurd hi (by omega), Below.refl _ _⟩
  case round =>
    obtain ⟨k, hk1, hk, rfl, HI, hb⟩ := hrel
    by_cases hlt : k < n
    · obtain ⟨b, off, rfl, hcell⟩ := Hc.out (by omega)
      obtain ⟨j, hj⟩ : ∃ j, k = j + 1 := ⟨k - 1, by omega⟩
      obtain ⟨k0, k1⟩ := (hcell k hlt).below hb
      obtain ⟨j0, j1⟩ := (hcell j (by omega)).below hb
      clear hcell Hc
      have hlt' : (k : Int) < (n : Int) := by omega
      have hjn : (j : Int) < (n : Int) := by omega
      have ej : IntKind.i64.wrap ((k : Int) - 1) = (j : Int) := by rw [wrapI (by omega) (by omega)]; omega
      have HL : Hid (les (gm l (k - 1)).nm (gm l k).nm = les (gm l j).nm (gm l k).nm) := by show _ = _; rw [hj]; rfl
      clear hj
      have cE := fun W => cmpNm_any (gm l j) (gm l k) W
      have hge := cm_ge (gm l j).nm (gm l k).nm
      generalize cm (gm l j).nm (gm l k).nm = r at *
      generalize les (gm l j).nm (gm l k).nm = o at *
      unfold nv at cE
      generalize (gm l k).nm = s at cE k0
      generalize (gm l k).fl = f at cE k1
      generalize (gm l j).nm = s' at cE j0
      generalize (gm l j).fl = f' at cE j1
      have SB : Hid (∀ W, Below wr.heap.size wr W → W.cell? ⟨b, off + j * 2, none⟩ = some (.string s') ∧ W.cell? ⟨b, off + j * 2 + 1, none⟩ = some (.int .i64 f') ∧ W.cell? ⟨b, off + k * 2, none⟩ = some (.string s) ∧ W.cell? ⟨b, off + k * 2 + 1, none⟩ = some (.int .i64 f) ∧ Below wr.heap.size wr W) := fun W g => ⟨cell_on j0 g, cell_on j1 g, cell_on k0 g, cell_on k1 g, g⟩
      clear k0 k1 j0 j1
      go_wp2
      go_region_held3 (fun W => W.cell? ⟨b, off + j * 2, none⟩ = some (.string s') ∧ W.cell? ⟨b, off + j * 2 + 1, none⟩ = some (.int .i64 f') ∧ W.cell? ⟨b, off + k * 2, none⟩ = some (.string s) ∧ W.cell? ⟨b, off + k * 2 + 1, none⟩ = some (.int .i64 f) ∧ Below wr.heap.size wr W)
        ((refine SB.out _ ?_; first | assumption | exact Below.drew (Below.refl _ _)))
        (first
        | (go_at_call 50; obtain ⟨-, -, -, -, hw0⟩ := ‹_ ∧ _ ∧ _ ∧ _ ∧ Below wr.heap.size wr _›; refine (cE _).mono ?_; rintro e w1 ⟨rfl, g1⟩; have g2 := Below.comp hw0 g1))
      all_goals
        cases o with
        | true =>
          simp only [Bool.not_true] at hge
          go_wp2
          go_roundw
          case rel => exact ⟨k + 1, by omega, .inl (by omega), by go_num, fun i hi h0 => by by_cases e : i = k; (· subst e; exact HL.out); (· exact HI.out i (by omega) h0), Below.comp hb (by assumption)⟩
          case measure => simp [intOf]; omega
        | false =>
          simp only [Bool.not_false] at hge
          go_wp2
          go_ret
          exact ⟨Tel.no rfl (fun h => by have := h k hlt (by omega); rw [HL.out] at this; cases this), Below.comp hb (by assumption)⟩
    · go_wp2
      go_ret
      exact ⟨Tel.yes rfl (fun i hi h0 => HI.out i (by omega) h0), hb⟩
end Go.Proofs.Ythioomihpfmlmaa
