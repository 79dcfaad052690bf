import Derived.Test.YtfmgaenedkjmkaaA3
/- The program: rows of names that rise, that are good; slots that mean a bucket. -/
namespace Go.Proofs.Ytfmgaenedkjmkaa
open Go.ChangeShapes Go.WideShapes Go.ChangeAt Go.RowKit
set_option linter.unusedVariables false
open Hd

attribute [local go_sem] Oper.semAt_some

theorem cmpNm_any (x y : Nm) (w : World) : Calls Try.prog 83 #[nv x, nv y] w fun e w' => e = .returned (.int .i64 (cm x.nm y.nm)) ∧ Below w.heap.size w w' :=
  (compareNames_any x.nm y.nm x.fl y.fl w).mono fun e w' h => ⟨h.1, by rw [h.2]; exact ba2 _ _ _⟩
set_option maxHeartbeats 1000000 in
theorem areRising_any (a : Option Addr) (l : List Nm) (cap : Nat) (w : World) (hn : l.length ≤ 9223372036854775807) (hc : Nms w a l) :
    Calls Try.prog 80 #[.slice a l.length cap] w fun e w' => Tel e (∀ i, i < l.length → 0 < i → les (gm l (i - 1)).nm (gm l i).nm = true) ∧ Below w.heap.size w w' := by
  unfold Nms at hc
  have Hc : Hid _ := hc
  clear hc
  obtain ⟨n, hln⟩ : ∃ n, l.length = n := ⟨_, rfl⟩
  rw [hln] at hn Hc ⊢
  clear hln
  go_enter Try.func80, Try.ntmps80
  go_wp2
  go_loopw [3] (fun i wr => ∃ (k : Nat), 1 ≤ k ∧ (k ≤ n ∨ k = 1) ∧ i = .int .i64 k ∧ Hid (∀ i, i < k → 0 < i → les (gm l (i - 1)).nm (gm l i).nm = true) ∧ Below w.heap.size w wr) (fun i _ => n + 1 - (intOf i).toNat)
  case atStart => exact ⟨1, by omega, .inr rfl, rfl, fun i hi h0 => absurd hi (by omega), Below.refl _ _⟩
  case round =>
    obtain ⟨k, hk1, hk, rfl, HI, hb⟩ := hrel
    by_cases hlt : k < n
    · obtain ⟨b, off, rfl, hcell⟩ := Hc.out (by omega)
      obtain ⟨j, hj⟩ : ∃ j, k = j + 1 := ⟨k - 1, by omega⟩
      obtain ⟨k0, k1⟩ := (hcell k hlt).below hb
      obtain ⟨j0, j1⟩ := (hcell j (by omega)).below hb
      clear hcell Hc
      have hlt' : (k : Int) < (n : Int) := by omega
      have hjn : (j : Int) < (n : Int) := by omega
      have ej : IntKind.i64.wrap ((k : Int) - 1) = (j : Int) := by rw [wrapI (by omega) (by omega)]; omega
      have HL : Hid (les (gm l (k - 1)).nm (gm l k).nm = les (gm l j).nm (gm l k).nm) := by show _ = _; rw [hj]; rfl
      clear hj
      have cE := fun W => cmpNm_any (gm l j) (gm l k) W
      have hge := cm_ge (gm l j).nm (gm l k).nm
      generalize cm (gm l j).nm (gm l k).nm = r at *
      generalize les (gm l j).nm (gm l k).nm = o at *
      unfold nv at cE
      generalize (gm l k).nm = s at cE k0
      generalize (gm l k).fl = f at cE k1
      generalize (gm l j).nm = s' at cE j0
      generalize (gm l j).fl = f' at cE j1
      have SB : Hid (∀ W, Below wr.heap.size wr W → W.cell? ⟨b, off + j * 2, none⟩ = some (.string s') ∧ W.cell? ⟨b, off + j * 2 + 1, none⟩ = some (.int .i64 f') ∧ W.cell? ⟨b, off + k * 2, none⟩ = some (.string s) ∧ W.cell? ⟨b, off + k * 2 + 1, none⟩ = some (.int .i64 f) ∧ Below wr.heap.size wr W) := fun W g => ⟨cell_on j0 g, cell_on j1 g, cell_on k0 g, cell_on k1 g, g⟩
      clear k0 k1 j0 j1
      go_wp2
      go_region_held3 (fun W => W.cell? ⟨b, off + j * 2, none⟩ = some (.string s') ∧ W.cell? ⟨b, off + j * 2 + 1, none⟩ = some (.int .i64 f') ∧ W.cell? ⟨b, off + k * 2, none⟩ = some (.string s) ∧ W.cell? ⟨b, off + k * 2 + 1, none⟩ = some (.int .i64 f) ∧ Below wr.heap.size wr W)
        ((refine SB.out _ ?_; first | assumption | exact Below.drew (Below.refl _ _)))
        (first
        | (go_at_call 83; obtain ⟨-, -, -, -, hw0⟩ := ‹_ ∧ _ ∧ _ ∧ _ ∧ Below wr.heap.size wr _›; refine (cE _).mono ?_; rintro e w1 ⟨rfl, g1⟩; have g2 := Below.comp hw0 g1))
      all_goals
        cases o with
        | true =>
          simp only [Bool.not_true] at hge
          go_wp2
          go_roundw
          case rel => exact ⟨k + 1, by omega, .inl (by omega), by go_num, fun i hi h0 => by by_cases e : i = k; (· subst e; exact HL.out); (· exact HI.out i (by omega) h0), Below.comp hb (by assumption)⟩
          case measure => simp [intOf]; omega
        | false =>
          simp only [Bool.not_false] at hge
          go_wp2
          go_ret
          exact ⟨Tel.no rfl (fun h => by have := h k hlt (by omega); rw [HL.out] at this; cases this), Below.comp hb (by assumption)⟩
    · go_wp2
      go_ret
      exact ⟨Tel.yes rfl (fun i hi h0 => HI.out i (by omega) h0), hb⟩
set_option maxHeartbeats 1000000 in
theorem areGood_any (a : Option Addr) (l : List Nm) (cap : Nat) (d f : Nat) (w : World) (hf : l.length ≤ 9223372036854775807 ∧ ∀ i, i < l.length → (gm l i).nm.size ≤ 9223372036854775807) (hd : d ≤ 62) (hc : Nms w a l) :
    Calls Try.prog 62 #[.slice a l.length cap, pv d f] w fun e w' => Tel e (l.length ≤ 4 ∧ ∀ i, i < l.length → nmI d f l i) ∧ Below w.heap.size w w' := by
  obtain ⟨W0, hW0⟩ : ∃ W0, w.alloc (.cells #[.int .i64 (d : Int), .int .i64 (f : Int)] 92) = W0 := ⟨_, rfl⟩
  have q0 : Below w.heap.size w W0 := by subst hW0; exact below_alloc _ _
  have HA : Hid (W0.heap[w.heap.size]? = some (.cells #[.int .i64 (d : Int), .int .i64 (f : Int)] 92 (0, 0))) := by subst hW0; exact al1 _ _
  obtain ⟨x0, x1, -, -⟩ := box2_cells HA.out
  have c1 := fun W h => allAre_any a l cap 40 #[] #[] isE W hf.1 h (fun args u => enters_of Try.func40 (by kernel_rfl) rfl args u) (fun i W' hi => isEntry_any (gm l i) W' (hf.2 i hi))
  have c2 := fun W h => allAre_any a l cap 79 #[pv d f] #[] (fun x => decide (low (nh x.nm) d = f)) W hf.1 h (fun args u => enters_of Try.func79 (by kernel_rfl) rfl args u) (fun i W' hi => hasName_any d f (gm l i) W' (hf.2 i hi) hd)
  have c3 := fun W h => areRising_any a l cap W hf.1 h
  have HC : Hid (Nms w a l) := hc
  clear hc
  have HF : Hid (∀ {r1 r2 r3 : Bool}, (r1 = true ↔ ∀ i, i < l.length → isE (gm l i) = true) → (r2 = true ↔ ∀ i, i < l.length → decide (low (nh (gm l i).nm) d = f) = true) → (r3 = true ↔ ∀ i, i < l.length → 0 < i → les (gm l (i - 1)).nm (gm l i).nm = true) → ((r1 = true ∧ r2 = true ∧ r3 = true) ↔ ∀ i, i < l.length → nmI d f l i)) := by
    intro r1 r2 r3 h1 h2 h3
    rw [h1, h2, h3]
    constructor
    · rintro ⟨k1, k2, k3⟩ i hi
      have := k1 i hi
      simp only [isE, Bool.and_eq_true] at this
      exact ⟨this.1, this.2, by simpa using k2 i hi, k3 i hi⟩
    · intro k
      exact ⟨fun i hi => by simp only [isE, Bool.and_eq_true]; exact ⟨(k i hi).1, (k i hi).2.1⟩, fun i hi => by simpa using (k i hi).2.2.1, fun i hi => (k i hi).2.2.2⟩
  obtain ⟨n, hln⟩ : ∃ n, l.length = n := ⟨_, rfl⟩
  rw [hln] at hf c1 c2 c3 HF ⊢
  clear hln
  obtain ⟨hn, -⟩ := hf
  unfold pv at *
  by_cases h4 : n ≤ 4
  · go_enter Try.func62, Try.ntmps62
    go_wp2_with fail
    refine (c1 _ (HC.out.below q0)).mono ?_
    rintro e w1 ⟨⟨r1, rfl, hr1⟩, b1⟩
    have g1 := Below.comp q0 b1
    have R1 : Hid _ := hr1
    clear x0 x1 hW0 c1 hr1
    cases r1 with
    | false =>
      go_wp2_with fail
      go_ret
      refine ⟨Tel.no rfl (fun hN => ?_), g1⟩
      have := R1.out.2 (fun i hi => by simp only [isE, Bool.and_eq_true]; exact ⟨(hN.2 i hi).1, (hN.2 i hi).2.1⟩)
      cases this
    | true =>
      obtain ⟨x0, x1, -, -⟩ := box2_cells (box_on HA.out b1)
      go_wp2_with fail
      refine (c2 _ (HC.out.below g1)).mono ?_
      rintro e w2 ⟨⟨r2, rfl, hr2⟩, b2⟩
      have g2 := Below.comp g1 b2
      have R2 : Hid _ := hr2
      clear x0 x1 c2 hr2
      cases r2 with
      | false =>
        go_wp2_with fail
        go_ret
        refine ⟨Tel.no rfl (fun hN => ?_), g2⟩
        have := R2.out.2 (fun i hi => by simpa using (hN.2 i hi).2.2.1)
        cases this
      | true =>
        go_wp2_with fail
        refine (c3 _ (HC.out.below g2)).mono ?_
        rintro e w3 ⟨⟨r3, rfl, hr3⟩, b3⟩
        have g3 := Below.comp g2 b3
        have R3 : Hid _ := hr3
        clear hr3 c3
        go_wp2_with fail
        go_ret
        refine ⟨⟨r3, rfl, ?_⟩, g3⟩
        have := HF.out (r1 := true) (r2 := true) (r3 := r3) (by simpa using R1.out) (by simpa using R2.out) R3.out
        rw [← this]
        simp [h4]
  · have h4' : decide ((n : Int) ≤ 4) = false := by simp; omega
    go_enter Try.func62, Try.ntmps62
    go_wp2_with fail
    go_ret
    exact ⟨Tel.no rfl (fun h => h4 h.1), q0⟩
set_option maxHeartbeats 1000000 in
theorem isMeant_any (a : Option Addr) (S : List Int) (cap : Nat) (d f : Nat) (k : Int) (w : World) (hn : S.length ≤ 1048576) (hf : f ≤ 1048576) (hd : d ≤ 20) (hc : Ints w a S) :
    Calls Try.prog 61 #[.int .i64 k, pv d f, .slice a S.length cap] w fun e w' => Tel e (∀ m, f + m * 2 ^ d < S.length → gi S (f + m * 2 ^ d) = k) ∧ Below w.heap.size w w' := by
  have hc' : At w a S.length fun i => iv (gi S i) := hc
  clear hc
  obtain ⟨n, hln⟩ : ∃ n, S.length = n := ⟨_, rfl⟩
  rw [hln] at hn hc' ⊢
  clear hln
  have hp : 2 ^ d ≤ 1048576 := Nat.pow_le_pow_right (n := 2) (by omega) hd
  have hp0 := Nat.two_pow_pos d
  have hw := pow_wrap (d := d) (by omega)
  generalize 2 ^ d = P at *
  obtain ⟨W0, hW0⟩ : ∃ W0, w.alloc (.cells #[.int .i64 (d : Int), .int .i64 (f : Int)] 92) = W0 := ⟨_, rfl⟩
  have q0 : Below w.heap.size w W0 := by subst hW0; exact below_alloc _ _
  have HA : Hid (W0.heap[w.heap.size]? = some (.cells #[.int .i64 (d : Int), .int .i64 (f : Int)] 92 (0, 0))) := by subst hW0; exact al1 _ _
  obtain ⟨x0, x1, -, -⟩ := box2_cells HA.out
  have Hc0 : Hid (At W0 a n fun i => iv (gi S i)) := hc'.below q0
  clear hc'
  go_enter Try.func61, Try.ntmps61
  go_wp2
  clear hW0
  go_loop [7] (fun i => ∃ (x m : Nat), i = .int .i64 (x : Int) ∧ Hid (x = f + m * P) ∧ x ≤ n + f + P ∧ Hid (∀ j, j < m → f + j * P < n → gi S (f + j * P) = k)) (fun i => n + P - (intOf i).toNat)
  case atStart => exact ⟨f, 0, rfl, by show _ = _; omega, by omega, fun j hj => absurd hj (by omega)⟩
  case round =>
    obtain ⟨x, m, rfl, HX, hx, HI⟩ := hrel
    by_cases hlt : x < n
    · obtain ⟨b, off, rfl, hcell⟩ := Hc0.out (by omega)
      have k0 : W0.cell? ⟨b, off + x, none⟩ = some (.int .i64 (gi S x)) := hcell x hlt
      clear hcell Hc0
      obtain ⟨y, hy⟩ : ∃ y, gi S x = y := ⟨_, rfl⟩
      rw [hy] at k0
      have HY : Hid _ := hy
      clear hy
      by_cases hk : y = k
      · have hk' : (y != k) = false := by simp [hk]
        have HK : Hid _ := hk
        clear hk
        go_wp2
        go_round
        case rel =>
          refine ⟨x + P, m + 1, by go_num, ?_, by omega, ?_⟩
          · show _ = _; rw [HX.out, Nat.add_mul]; omega
          · intro j hj hjn
            by_cases e : j = m
            · subst e; rw [← HX.out, HY.out, HK.out]
            · exact HI.out j (by omega) hjn
        case measure => simp [intOf]; omega
      · have hk' : (y != k) = true := by simp [hk]
        have HK : Hid _ := hk
        clear hk
        go_wp2
        go_ret
        refine ⟨Tel.no rfl (fun h => ?_), q0⟩
        have := h m (by rw [← HX.out]; exact hlt)
        rw [← HX.out, HY.out] at this
        exact HK.out this
    · go_wp2
      go_ret
      refine ⟨Tel.yes rfl (fun j hj => ?_), q0⟩
      refine HI.out j ?_ hj
      have := HX.out
      rcases Nat.lt_or_ge j m with h | h
      · exact h
      · have := Nat.mul_le_mul_right P h
        omega
end Go.Proofs.Ytfmgaenedkjmkaa
