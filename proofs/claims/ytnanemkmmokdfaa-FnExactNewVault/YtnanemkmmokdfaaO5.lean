import Derived.Test.YtnanemkmmokdfaaI2
/- spec.NewVault. -/
namespace Go.Proofs.Ytnanemkmmokdfaa
open Go.ChangeShapes Go.WideShapes Go.ChangeAt Go.RowKit
set_option linter.unusedVariables false
open Hd

attribute [local go_sem] Oper.semAt_some

theorem ptF_false {f : Va → ByteArray → Va × Bool} (hF : ∀ u s, ptR u s (f u s).1 (f u s).2) {u : Va} {s : ByteArray} (h : (f u s).2 = false) : (f u s).1 = vz := by
  rcases hF u s with ⟨-, -, e⟩ | ⟨-, e, -⟩
  · rw [e] at h; cases h
  · exact e
set_option maxRecDepth 20000 in
set_option maxHeartbeats 4000000 in
theorem specNew_any (f : Va → ByteArray → Va × Bool) (hF : ∀ u s, ptR u s (f u s).1 (f u s).2) (a : Option Addr) (n cap : Nat) (S : Nat → ByteArray) (w : World) (hn : n ≤ 1048576) (hS : ∀ i, i < n → (S i).size ≤ 9223372036854775807) (hc : At w a n fun i => .string (S i)) :
    Calls Try.prog 29 #[.slice a n cap] w fun e w' => Below w.heap.size w w' ∧ ∃ v', e = .returned (.tuple #[v', .bool (nvS f S n).2]) ∧ VAt w' v' (nvS f S n).1 := by
  have HC : Hid (∀ W, Below w.heap.size w W → At W a n fun i => .string (S i)) := fun W h => At.below hc h
  have cP := fun (x : Value) (k : Nat) (W : World) (hk : k < n) (h : VAt W x (nvS f S k).1) => specPut_any x (nvS f S k).1 (f (nvS f S k).1 (S k)).1 (f (nvS f S k).1 (S k)).2 (S k) W h (nvS_few f hF S k).1 (nvS_few f hF S k).2.1 (hS k hk) (hF _ _)
  have HP : Hid _ := cP
  clear hc hS cP
  obtain ⟨z, hz⟩ : ∃ z, w.heap.size = z := ⟨_, rfl⟩
  have Hz : Hid (w.heap.size = z) := hz
  obtain ⟨W0, hW0⟩ : ∃ W0, w.alloc (.cells #[.slice none 0 0, .slice none 0 0] 40) = W0 := ⟨_, rfl⟩
  have q0 : Below w.heap.size w W0 := by subst hW0; exact below_alloc _ _
  have z0 : W0.heap.size = z + 1 := by subst hW0; simp [hz]
  have H0 : Hid (W0.heap[z]? = some (.cells #[.slice none 0 0, .slice none 0 0] 40 (0, 0))) := by subst hW0 hz; exact al1 _ _
  obtain ⟨W1, hW1⟩ : ∃ W1, W0.alloc (.cells #[.slice none 0 0, .slice none 0 0] 40) = W1 := ⟨_, rfl⟩
  have q1 : Below W0.heap.size W0 W1 := by subst hW1; exact below_alloc _ _
  have H1 : Hid (W1.heap[z + 1]? = some (.cells #[.slice none 0 0, .slice none 0 0] 40 (0, 0))) := by have := al1 W0 (.cells #[.slice none 0 0, .slice none 0 0] 40); rw [hW1, z0] at this; exact this
  have R1 : Hid (W1.heap[z]? = some (.cells #[.slice none 0 0, .slice none 0 0] 40 (0, 0))) := box_on H0.out q1
  obtain ⟨x0, x1, f0, f1⟩ := box2_cells H1.out
  obtain ⟨W2, hW2⟩ : ∃ W2, (W1.setCell ⟨z + 1, 0, none⟩ (.slice none 0 0)).setCell ⟨z + 1, 1, none⟩ (.slice none 0 0) = W2 := ⟨_, rfl⟩
  have o2 : Out (z + 1) (z + 1 + 1) W1 W2 := by subst hW2; exact ((Out.refl _ _ _).setCell (by omega) (by omega) _ _).setCell (by omega) (by omega) _ _
  have H2 : Hid (W2.heap[z + 1]? = some (.cells #[.slice none 0 0, .slice none 0 0] 40 (0, 0))) := by subst hW2; exact box2_set H1.out
  have R2 : Hid (W2.heap[z]? = some (.cells #[.slice none 0 0, .slice none 0 0] 40 (0, 0))) := box_out R1.out o2 (by omega)
  have g2 : Below w.heap.size w W2 := (Below.comp q0 q1).trans ((o2.below (Nat.le_of_lt (box_lt H1.out))).mono (by omega))
  have HFin : Hid (∀ (ws : World) (p1 : Option Addr) (p2 p3 : Nat) (p4 : Option Addr) (p5 p6 : Nat) (D : Va), ws.heap[z]? = some (.cells #[.slice none 0 0, .slice none 0 0] 40 (0, 0)) → RdV ws (vv p1 p2 p3 p4 p5 p6) D → Below w.heap.size w ws →
      ∃ W9, (ws.setCell ⟨z, 0, none⟩ (.slice p1 p2 p3)).setCell ⟨z, 1, none⟩ (.slice p4 p5 p6) = W9 ∧ (ws.cell? ⟨z, 0, none⟩ = some (.slice none 0 0) ∧ ws.cell? ⟨z, 1, none⟩ = some (.slice none 0 0) ∧ ws.frozen? ⟨z, 0, none⟩ = false ∧ ws.frozen? ⟨z, 1, none⟩ = false) ∧ (W9.cell? ⟨z, 0, none⟩ = some (.slice p1 p2 p3) ∧ W9.cell? ⟨z, 1, none⟩ = some (.slice p4 p5 p6)) ∧ Hid (Below w.heap.size w W9 ∧ VAt W9 (vv p1 p2 p3 p4 p5 p6) D)) := fun ws p1 p2 p3 p4 p5 p6 D i2 i3 i4 => by
    have o5 : Out z (z + 1) ws ((ws.setCell ⟨z, 0, none⟩ (.slice p1 p2 p3)).setCell ⟨z, 1, none⟩ (.slice p4 p5 p6)) := ((Out.refl _ _ _).setCell (by omega) (by omega) _ _).setCell (by omega) (by omega) _ _
    obtain ⟨t0, t1, -, -⟩ := box2_cells (box2_set (x0 := .slice p1 p2 p3) (x1 := .slice p4 p5 p6) i2)
    have h1 := Hz.out
    exact ⟨_, rfl, box2_cells i2, ⟨t0, t1⟩, i4.trans ((o5.below (Nat.le_of_lt (box_lt i2))).mono (by omega)), (i3.out o5 i2).at_⟩
  go_enter Try.func29, Try.ntmps29
  go_wp2
  clear hW0 hW1 hW2 x0 x1 f0 f1
  go_loopw [12] (fun ii ws => ∃ (k : Nat) (p1 : Option Addr) (p2 p3 : Nat) (p4 : Option Addr) (p5 p6 : Nat), k ≤ n ∧ ii = .int .i64 (k : Int) ∧ Hid ((nvS f S k).2 = true) ∧ Hid (ws.heap[z + 1]? = some (.cells #[.slice p1 p2 p3, .slice p4 p5 p6] 40 (0, 0)) ∧ ws.heap[z]? = some (.cells #[.slice none 0 0, .slice none 0 0] 40 (0, 0)) ∧ RdV ws (vv p1 p2 p3 p4 p5 p6) (nvS f S k).1 ∧ Below w.heap.size w ws)) (fun ii _ => n - (intOf ii).toNat)
  case atStart => exact ⟨0, none, 0, 0, none, 0, 0, Nat.zero_le _, rfl, rfl, H2.out, R2.out, vz_at _, g2⟩
  case round =>
    obtain ⟨k, p1, p2, p3, p4, p5, p6, hk, rfl, HB, HI⟩ := hrel
    by_cases hlt : k < n
    · obtain ⟨tb, toff, rfl, hcell⟩ := (HC.out wr HI.out.2.2.2) (by omega)
      have t0 : wr.cell? ⟨tb, toff + k, none⟩ = some (.string (S k)) := hcell k hlt
      clear hcell
      have hkn : (k : Int) < (n : Int) := by omega
      obtain ⟨x0, x1, -, -⟩ := box2_cells HI.out.1
      have HN : Hid (nvS f S (k + 1) = f (nvS f S k).1 (S k)) := by show _ = _; rw [nvS, if_pos HB.out]
      have cc := HP.out (vv p1 p2 p3 p4 p5 p6) k wr hlt HI.out.2.2.1.at_
      go_wp2_with fail
      refine cc.mono ?_
      rintro e w5 ⟨b5, v', rfl, hv⟩
      rw [← HN.out] at hv ⊢
      clear x0 x1 t0 cc
      obtain ⟨r1, r3, r4, r6, B1, B2, e1, -⟩ := id hv
      subst e1
      have HV : Hid (RdV w5 (vv r1 (nvS f S (k + 1)).1.pc.length r3 r4 (nvS f S (k + 1)).1.fs.length r6) (nvS f S (k + 1)).1) := hv
      have X5 : Hid (w5.heap[z + 1]? = some (.cells #[.slice p1 p2 p3, .slice p4 p5 p6] 40 (0, 0))) := box_on HI.out.1 b5
      have Y5 : Hid (w5.heap[z]? = some (.cells #[.slice none 0 0, .slice none 0 0] 40 (0, 0))) := box_on HI.out.2.1 b5
      have g5 : Below w.heap.size w w5 := Below.comp HI.out.2.2.2 b5
      clear hv
      generalize (nvS f S (k + 1)).1.pc.length = r2 at *
      generalize (nvS f S (k + 1)).1.fs.length = r5 at *
      obtain ⟨W6, hW6⟩ : ∃ W6, w5.alloc (.cells #[.slice r1 r2 r3, .slice r4 r5 r6] 40) = W6 := ⟨_, rfl⟩
      have b6 : Below w5.heap.size w5 W6 := by subst hW6; exact below_alloc _ _
      obtain ⟨E, hE⟩ : ∃ E, w5.heap.size = E := ⟨_, rfl⟩
      obtain ⟨u0, u1, -, -⟩ := box2_cells (show W6.heap[E]? = some (.cells #[.slice r1 r2 r3, .slice r4 r5 r6] 40 (0, 0)) by subst hW6 hE; exact al1 _ _)
      have X6 : Hid (W6.heap[z + 1]? = some (.cells #[.slice p1 p2 p3, .slice p4 p5 p6] 40 (0, 0))) := box_on X5.out b6
      have Y6 : Hid (W6.heap[z]? = some (.cells #[.slice none 0 0, .slice none 0 0] 40 (0, 0))) := box_on Y5.out b6
      have g6 : Below w.heap.size w W6 := Below.comp g5 b6
      have HV6 : Hid (RdV W6 (vv r1 r2 r3 r4 r5 r6) (nvS f S (k + 1)).1) := RdV.below HV.out b6
      cases hb : (nvS f S (k + 1)).2 with
      | true =>
        have HB1 : Hid ((nvS f S (k + 1)).2 = true) := hb
        clear hb
        obtain ⟨m0, m1, m2, m3⟩ := box2_cells X6.out
        obtain ⟨W7, hW7⟩ : ∃ W7, (W6.setCell ⟨z + 1, 0, none⟩ (.slice r1 r2 r3)).setCell ⟨z + 1, 1, none⟩ (.slice r4 r5 r6) = W7 := ⟨_, rfl⟩
        have o7 : Out (z + 1) (z + 1 + 1) W6 W7 := by subst hW7; exact ((Out.refl _ _ _).setCell (by omega) (by omega) _ _).setCell (by omega) (by omega) _ _
        have X7 : Hid (W7.heap[z + 1]? = some (.cells #[.slice r1 r2 r3, .slice r4 r5 r6] 40 (0, 0))) := by subst hW7; exact box2_set X6.out
        have Y7 : Hid (W7.heap[z]? = some (.cells #[.slice none 0 0, .slice none 0 0] 40 (0, 0))) := box_out Y6.out o7 (by omega)
        have HV7 : Hid (RdV W7 (vv r1 r2 r3 r4 r5 r6) (nvS f S (k + 1)).1) := RdV.out HV6.out o7 X6.out
        have g7 : Hid (Below w.heap.size w W7) := g6.trans ((o7.below (Nat.le_of_lt (box_lt X6.out))).mono (by omega))
        go_wp2
        go_roundw
        case rel => exact ⟨k + 1, r1, r2, r3, r4, r5, r6, by omega, by go_num, HB1, X7.out, Y7.out, HV7.out, g7.out⟩
        case measure => simp [intOf]; omega
      | false =>
        have HE : Hid (nvS f S n = nvS f S (k + 1)) := nvS_stuck f S hb n hlt
        have HZ : Hid ((nvS f S (k + 1)).1 = vz) := by show _ = _; rw [HN.out] at hb ⊢; exact ptF_false hF hb
        have HBF : Hid ((nvS f S (k + 1)).2 = false) := hb
        clear hb
        obtain ⟨W9, hW9, ⟨r0, r1', f0, f1⟩, ⟨t0, t1⟩, H9⟩ := HFin.out W6 none 0 0 none 0 0 vz Y6.out (vz_at _) g6
        go_wp2
        exact bodyPost_ret (v := .tuple #[vv none 0 0 none 0 0, .bool false]) (by simp [results, Try.results29, go_sem, t0, t1]) rfl ⟨H9.out.1, _, by rw [HE.out, HBF.out], by rw [HE.out, HZ.out]; exact H9.out.2⟩
    · have hkn : k = n := by omega
      subst hkn
      obtain ⟨c0, c1, -, -⟩ := box2_cells HI.out.1
      obtain ⟨W9, hW9, ⟨r0, r1', f0, f1⟩, ⟨t0, t1⟩, H9⟩ := HFin.out wr p1 p2 p3 p4 p5 p6 _ HI.out.2.1 HI.out.2.2.1 HI.out.2.2.2
      go_wp2
      exact bodyPost_ret (v := .tuple #[vv p1 p2 p3 p4 p5 p6, .bool true]) (by simp [results, Try.results29, go_sem, t0, t1]) rfl ⟨H9.out.1, _, by rw [HB.out], H9.out.2⟩
end Go.Proofs.Ytnanemkmmokdfaa
