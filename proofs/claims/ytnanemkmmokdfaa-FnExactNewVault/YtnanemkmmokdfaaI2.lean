import Derived.Test.YtnanemkmmokdfaaO4
import Derived.Test.YtnanemkmmokdfaaPlw
/- NewVault: the vaults on the way, and the program. -/
namespace Go.Proofs.Ytnanemkmmokdfaa
open Go.ChangeShapes Go.WideShapes Go.ChangeAt Go.RowKit
set_option linter.unusedVariables false
open Hd

attribute [local go_sem] Oper.semAt_some

/-- What PutText tells, as a function: there is one. -/
theorem ptF_ex : ∃ f : Va → ByteArray → Va × Bool, ∀ u s, ptR u s (f u s).1 (f u s).2 :=
  ⟨fun u s => (Classical.choose (ptR_ex u s), Classical.choose (Classical.choose_spec (ptR_ex u s))), fun u s => Classical.choose_spec (Classical.choose_spec (ptR_ex u s))⟩
/-- The vault behind so many texts. -/
def nvS (f : Va → ByteArray → Va × Bool) (S : Nat → ByteArray) : Nat → Va × Bool
  | 0 => (vz, true)
  | k + 1 => if (nvS f S k).2 = true then f (nvS f S k).1 (S k) else nvS f S k
theorem vz_good : GV vz := ⟨⟨Nat.zero_le _, Nat.zero_le _⟩, fun j hj => absurd hj (by simp [vz]), fun i hi => absurd hi (by simp [vz])⟩
theorem vz_few : FewV vz ∧ Sml vz ∧ FewFs vz ∧ kV 1 vz ≤ 100000000 := ⟨⟨⟨by simp [vz], fun i hi => absurd hi (by simp [vz])⟩, ⟨by simp [vz], fun i hi => absurd hi (by simp [vz])⟩⟩, ⟨by simp [vz], by simp [vz], by simp [vz, kk]⟩, by simp [FewFs, vz], by simp [kV, kP, vz, kk]⟩
theorem nvS_few (f : Va → ByteArray → Va × Bool) (hF : ∀ u s, ptR u s (f u s).1 (f u s).2) (S : Nat → ByteArray) : ∀ k, FewV (nvS f S k).1 ∧ Sml (nvS f S k).1 ∧ FewFs (nvS f S k).1 ∧ kV 1 (nvS f S k).1 ≤ 100000000 := by
  intro k
  induction k with
  | zero => exact vz_few
  | succ k ih =>
    rw [nvS]
    by_cases h : (nvS f S k).2 = true
    · rw [if_pos h]
      have hr := hF (nvS f S k).1 (S k)
      obtain ⟨h1, h2, h3⟩ := ptR_few hr
      refine ⟨h1, ?_, h2, h3⟩
      rcases hr with ⟨ho, e, -⟩ | ⟨-, e, -⟩
      · rw [e]
        obtain ⟨p1, p2⟩ := paR_fits (S k)
        exact (pt_small ho.1 (by omega) (fun t ht => by obtain ⟨i, hi, e⟩ := mem_gs ht; rw [← e]; exact p2 i hi)).2.1
      · rw [e]; exact vz_few.2.1
    · rw [if_neg h]; exact ih
theorem nvS_stuck (f : Va → ByteArray → Va × Bool) (S : Nat → ByteArray) {k : Nat} (h : (nvS f S k).2 = false) : ∀ n, k ≤ n → nvS f S n = nvS f S k := by
  intro n hn
  induction n with
  | zero => have : k = 0 := by omega
            subst this; rfl
  | succ n ih =>
    by_cases e : k = n + 1
    · subst e; rfl
    · rw [nvS, ih (by omega), if_neg (by rw [h]; decide)]
set_option maxRecDepth 20000 in
set_option maxHeartbeats 4000000 in
theorem implNew_any (f : Va → ByteArray → Va × Bool) (hF : ∀ u s, ptR u s (f u s).1 (f u s).2) (a : Option Addr) (n cap : Nat) (S : Nat → ByteArray) (w : World) (hn : n ≤ 1048576) (hS : ∀ i, i < n → (S i).size ≤ 9223372036854775807) (hc : At w a n fun i => .string (S i)) :
    Calls Try.prog 31 #[.slice a n cap] w fun e w' => Below w.heap.size w w' ∧ ∃ v', e = .returned (.tuple #[v', .bool (nvS f S n).2]) ∧ VOwn w' w.heap.size w'.heap.size v' (nvS f S n).1 := by
  have HC : Hid (∀ W, Below w.heap.size w W → At W a n fun i => .string (S i)) := fun W h => At.below hc h
  have HSz : Hid _ := hS
  have cP := fun (x : Value) (k : Nat) (W : World) (hk : k < n) (h : VAt W x (nvS f S k).1) => implPut_any x (nvS f S k).1 (f (nvS f S k).1 (S k)).1 (f (nvS f S k).1 (S k)).2 (S k) W h (nvS_few f hF S k).1 (nvS_few f hF S k).2.1 (hS k hk) (hF _ _)
  have HP : Hid _ := cP
  clear hc hS cP
  obtain ⟨z, hz⟩ : ∃ z, w.heap.size = z := ⟨_, rfl⟩
  have Hz : Hid (w.heap.size = z) := hz
  obtain ⟨W0, hW0⟩ : ∃ W0, w.alloc (.cells #[.slice none 0 0, .slice none 0 0] 40) = W0 := ⟨_, rfl⟩
  have q0 : Below w.heap.size w W0 := by subst hW0; exact below_alloc _ _
  have z0 : W0.heap.size = z + 1 := by subst hW0; simp [hz]
  have H0 : Hid (W0.heap[z]? = some (.cells #[.slice none 0 0, .slice none 0 0] 40 (0, 0))) := by subst hW0 hz; exact al1 _ _
  obtain ⟨W1, hW1⟩ : ∃ W1, W0.alloc (.cells #[.slice none 0 0, .slice none 0 0] 40) = W1 := ⟨_, rfl⟩
  have q1 : Below W0.heap.size W0 W1 := by subst hW1; exact below_alloc _ _
  have H1 : Hid (W1.heap[z + 1]? = some (.cells #[.slice none 0 0, .slice none 0 0] 40 (0, 0))) := by have := al1 W0 (.cells #[.slice none 0 0, .slice none 0 0] 40); rw [hW1, z0] at this; exact this
  have R1 : Hid (W1.heap[z]? = some (.cells #[.slice none 0 0, .slice none 0 0] 40 (0, 0))) := box_on H0.out q1
  obtain ⟨x0, x1, f0, f1⟩ := box2_cells H1.out
  obtain ⟨W2, hW2⟩ : ∃ W2, (W1.setCell ⟨z + 1, 0, none⟩ (.slice none 0 0)).setCell ⟨z + 1, 1, none⟩ (.slice none 0 0) = W2 := ⟨_, rfl⟩
  have o2 : Out (z + 1) (z + 1 + 1) W1 W2 := by subst hW2; exact ((Out.refl _ _ _).setCell (by omega) (by omega) _ _).setCell (by omega) (by omega) _ _
  have H2 : Hid (W2.heap[z + 1]? = some (.cells #[.slice none 0 0, .slice none 0 0] 40 (0, 0))) := by subst hW2; exact box2_set H1.out
  have R2 : Hid (W2.heap[z]? = some (.cells #[.slice none 0 0, .slice none 0 0] 40 (0, 0))) := box_out R1.out o2 (by omega)
  have g2 : Below w.heap.size w W2 := (Below.comp q0 q1).trans ((o2.below (Nat.le_of_lt (box_lt H1.out))).mono (by omega))
  have hz2 : z + 2 ≤ W2.heap.size := box_lt H2.out
  have HFin : Hid (∀ (ws : World) (p1 : Option Addr) (p2 p3 : Nat) (p4 : Option Addr) (p5 p6 : Nat) (D : Va), (ws.heap[z + 1]? = some (.cells #[.slice p1 p2 p3, .slice p4 p5 p6] 40 (0, 0)) ∧ ws.heap[z]? = some (.cells #[.slice none 0 0, .slice none 0 0] 40 (0, 0)) ∧ VOwn ws (z + 2) ws.heap.size (vv p1 p2 p3 p4 p5 p6) D ∧ Below w.heap.size w ws ∧ z + 2 ≤ ws.heap.size) →
      ∃ W9, (ws.setCell ⟨z, 0, none⟩ (.slice p1 p2 p3)).setCell ⟨z, 1, none⟩ (.slice p4 p5 p6) = W9 ∧ (ws.cell? ⟨z, 0, none⟩ = some (.slice none 0 0) ∧ ws.cell? ⟨z, 1, none⟩ = some (.slice none 0 0) ∧ ws.frozen? ⟨z, 0, none⟩ = false ∧ ws.frozen? ⟨z, 1, none⟩ = false) ∧ (ws.cell? ⟨z + 1, 0, none⟩ = some (.slice p1 p2 p3) ∧ ws.cell? ⟨z + 1, 1, none⟩ = some (.slice p4 p5 p6)) ∧ (W9.cell? ⟨z, 0, none⟩ = some (.slice p1 p2 p3) ∧ W9.cell? ⟨z, 1, none⟩ = some (.slice p4 p5 p6)) ∧ Hid (Below w.heap.size w W9 ∧ VOwn W9 w.heap.size W9.heap.size (vv p1 p2 p3 p4 p5 p6) D)) := fun ws p1 p2 p3 p4 p5 p6 D ⟨i1, i2, i3, i4, i5⟩ => by
    obtain ⟨c0, c1, -, -⟩ := box2_cells i1
    have o5 : Out z (z + 1) ws ((ws.setCell ⟨z, 0, none⟩ (.slice p1 p2 p3)).setCell ⟨z, 1, none⟩ (.slice p4 p5 p6)) := ((Out.refl _ _ _).setCell (by omega) (by omega) _ _).setCell (by omega) (by omega) _ _
    obtain ⟨t0, t1, -, -⟩ := box2_cells (box2_set (x0 := .slice p1 p2 p3) (x1 := .slice p4 p5 p6) i2)
    have h1 := Hz.out
    exact ⟨_, rfl, box2_cells i2, ⟨c0, c1⟩, ⟨t0, t1⟩, i4.trans ((o5.below (Nat.le_of_lt (box_lt i2))).mono (by omega)), (i3.out o5 (.inr (by omega))).mono (by omega) o5.size⟩
  go_enter Try.func31, Try.ntmps31
  go_wp2
  clear hW0 hW1 hW2 x0 x1 f0 f1
  go_loopw [5, 6] (fun bb ii ws => ∃ (k : Nat) (b : Bool) (p1 : Option Addr) (p2 p3 : Nat) (p4 : Option Addr) (p5 p6 : Nat), k ≤ n ∧ bb = .bool b ∧ ii = .int .i64 (k : Int) ∧ Hid ((nvS f S k).2 = b) ∧ Hid (ws.heap[z + 1]? = some (.cells #[.slice p1 p2 p3, .slice p4 p5 p6] 40 (0, 0)) ∧ ws.heap[z]? = some (.cells #[.slice none 0 0, .slice none 0 0] 40 (0, 0)) ∧ VOwn ws (z + 2) ws.heap.size (vv p1 p2 p3 p4 p5 p6) (nvS f S k).1 ∧ Below w.heap.size w ws ∧ z + 2 ≤ ws.heap.size)) (fun _ ii _ => n - (intOf ii).toNat)
  case atStart => exact ⟨0, true, none, 0, 0, none, 0, 0, Nat.zero_le _, rfl, rfl, rfl, H2.out, R2.out, vz_own hz2, g2, hz2⟩
  case round =>
    obtain ⟨k, b, p1, p2, p3, p4, p5, p6, hk, rfl, rfl, HB, HI⟩ := hrel
    cases b with
    | true =>
      by_cases hlt : k < n
      · obtain ⟨tb, toff, rfl, hcell⟩ := (HC.out wr HI.out.2.2.2.1) (by omega)
        have t0 : wr.cell? ⟨tb, toff + k, none⟩ = some (.string (S k)) := hcell k hlt
        clear hcell
        have hkn : (k : Int) < (n : Int) := by omega
        obtain ⟨x0, x1, -, -⟩ := box2_cells HI.out.1
        have HN : Hid (nvS f S (k + 1) = f (nvS f S k).1 (S k)) := by show _ = _; rw [nvS, if_pos HB.out]
        have HCall : Hid (∀ W, Below wr.heap.size wr W → Calls Try.prog 40 #[vv p1 p2 p3 p4 p5 p6, .string (S k)] W fun e w' => Below W.heap.size W w' ∧ ∃ r1 r2 r3 r4 r5 r6, e = .returned (.tuple #[vv r1 r2 r3 r4 r5 r6, .bool (nvS f S (k + 1)).2]) ∧ (w'.cell? ⟨z + 1, 0, none⟩ = some (.slice p1 p2 p3) ∧ w'.cell? ⟨z + 1, 1, none⟩ = some (.slice p4 p5 p6) ∧ w'.frozen? ⟨z + 1, 0, none⟩ = false ∧ w'.frozen? ⟨z + 1, 1, none⟩ = false) ∧
            Hid (((w'.setCell ⟨z + 1, 0, none⟩ (.slice r1 r2 r3)).setCell ⟨z + 1, 1, none⟩ (.slice r4 r5 r6)).heap[z + 1]? = some (.cells #[.slice r1 r2 r3, .slice r4 r5 r6] 40 (0, 0)) ∧ ((w'.setCell ⟨z + 1, 0, none⟩ (.slice r1 r2 r3)).setCell ⟨z + 1, 1, none⟩ (.slice r4 r5 r6)).heap[z]? = some (.cells #[.slice none 0 0, .slice none 0 0] 40 (0, 0)) ∧ VOwn ((w'.setCell ⟨z + 1, 0, none⟩ (.slice r1 r2 r3)).setCell ⟨z + 1, 1, none⟩ (.slice r4 r5 r6)) (z + 2) ((w'.setCell ⟨z + 1, 0, none⟩ (.slice r1 r2 r3)).setCell ⟨z + 1, 1, none⟩ (.slice r4 r5 r6)).heap.size (vv r1 r2 r3 r4 r5 r6) (nvS f S (k + 1)).1 ∧ Below w.heap.size w ((w'.setCell ⟨z + 1, 0, none⟩ (.slice r1 r2 r3)).setCell ⟨z + 1, 1, none⟩ (.slice r4 r5 r6)) ∧ z + 2 ≤ ((w'.setCell ⟨z + 1, 0, none⟩ (.slice r1 r2 r3)).setCell ⟨z + 1, 1, none⟩ (.slice r4 r5 r6)).heap.size)) := fun W hb => by
          obtain ⟨i1, i2, i3, i4, i5⟩ := HI.out
          refine (HP.out (vv p1 p2 p3 p4 p5 p6) k W hlt (i3.at_.below hb)).mono ?_
          rintro e w' ⟨b1, v', rfl, hv⟩
          rw [← HN.out] at hv ⊢
          obtain ⟨r1, r3, r4, r6, e1, -⟩ := hv.at_
          subst e1
          have X := box_on (box_on i1 hb) b1
          have Y := box_on (box_on i2 hb) b1
          obtain ⟨c0, c1, c2, c3⟩ := box2_cells X
          refine ⟨b1, _, _, _, _, _, _, rfl, ⟨c0, c1, c2, c3⟩, ?_⟩
          have o5 : ∀ u1 u2, Out (z + 1) (z + 1 + 1) w' ((w'.setCell ⟨z + 1, 0, none⟩ u1).setCell ⟨z + 1, 1, none⟩ u2) := fun u1 u2 => ((Out.refl _ _ _).setCell (by omega) (by omega) _ _).setCell (by omega) (by omega) _ _
          have hzW : z + 2 ≤ W.heap.size := Nat.le_trans i5 hb.size
          exact ⟨box2_set X, box_out Y (o5 _ _) (by omega), (hv.out (o5 _ _) (.inr hzW)).mono hzW (o5 _ _).size, (Below.comp (Below.comp i4 hb) b1).trans (((o5 _ _).below (Nat.le_of_lt (box_lt X))).mono (by have := Hz.out; omega)), Nat.le_trans hzW (Nat.le_trans b1.size (o5 _ _).size)⟩
        have cc := HCall.out wr.drew (Below.drew (Below.refl _ _))
        go_wp2_with fail
        go_region_with (go_at_call 40; refine cc.mono ?_; rintro e w5 ⟨-, r1, r2, r3, r4, r5, r6, rfl, ⟨c0, c1, c2, c3⟩, HNx⟩)
        all_goals go_wp2
        all_goals go_roundw
        all_goals first
          | exact ⟨k + 1, _, r1, r2, r3, r4, r5, r6, by omega, rfl, by go_num, rfl, HNx.out⟩
          | (simp [intOf]; omega)
      · have hkn : k = n := by omega
        subst hkn
        obtain ⟨W9, hW9, ⟨r0, r1, f0, f1⟩, ⟨c0, c1⟩, ⟨t0, t1⟩, H9⟩ := HFin.out _ _ _ _ _ _ _ _ HI.out
        go_wp2
        exact bodyPost_ret (v := .tuple #[vv p1 p2 p3 p4 p5 p6, .bool true]) (by simp [results, Try.results31, go_sem, t0, t1]) rfl ⟨H9.out.1, _, by rw [HB.out], H9.out.2⟩
    | false =>
      obtain ⟨W9, hW9, ⟨r0, r1, f0, f1⟩, ⟨c0, c1⟩, ⟨t0, t1⟩, H9⟩ := HFin.out _ _ _ _ _ _ _ _ HI.out
      have HE : Hid (nvS f S n = nvS f S k) := nvS_stuck f S HB.out n hk
      go_wp2
      exact bodyPost_ret (v := .tuple #[vv p1 p2 p3 p4 p5 p6, .bool false]) (by simp [results, Try.results31, go_sem, t0, t1]) rfl ⟨H9.out.1, _, by rw [HE.out, HB.out], by rw [HE.out]; exact H9.out.2⟩
end Go.Proofs.Ytnanemkmmokdfaa
