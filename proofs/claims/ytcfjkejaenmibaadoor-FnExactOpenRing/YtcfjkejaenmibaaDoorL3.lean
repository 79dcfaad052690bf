import Derived.Test.YtcfjkejaenmibaaDoorL2
/- What the laws do with rings: count and copy. -/
namespace Go.Proofs.YtcfjkejaenmibaaDoor
open Go.ChangeShapes Go.WideShapes Go.ChangeAt Go.RowKit
set_option linter.unusedVariables false
open Lg

attribute [local go_sem] Oper.semAt_some

set_option maxHeartbeats 2000000 in
theorem szSlotS_any (a : Option Addr) (n c : Nat) (g : Nat → Sl) (left : Int) (w : World) (hn : n ≤ 9223372036854775807) (hf : ∀ i, i < n → Few (g i)) (h0 : 0 ≤ left) (h1 : left ≤ 1048576) (ha : RowS w a n g) :
    Calls Tryd.prog 35 #[.slice a n c, .int .i64 left] w fun e w' => Below w.heap.size w w' ∧ ∃ r : Int, e = .returned (.int .i64 r) ∧ (r < 0 ∨ n ≤ 1048576) := by
  by_cases hl : left - (n : Int) < 0
  · go_enter Tryd.func35, Tryd.ntmps35
    go_wp2
    go_ret
    exact ⟨Below.refl _ _, _, rfl, .inl (by decide)⟩
  · have hl' : 0 ≤ left - (n : Int) := by omega
    have HN : Hid (n ≤ 1048576) := by show _ ≤ _; omega
    have HV : Hid (left - (n : Int) ≤ 1048576) := by show _ ≤ _; omega
    have HF : Hid _ := hf
    have HR : Hid _ := ha
    clear hf ha
    go_enter Tryd.func35, Tryd.ntmps35
    go_wp2
    go_loopw [1, 5] (fun le i wr => ∃ (k : Nat) (K : Int), k ≤ n ∧ i = .int .i64 (k : Int) ∧ le = .int .i64 K ∧ 0 ≤ K ∧ K ≤ 1048576 ∧ Below w.heap.size w wr) (fun _ i _ => n - (intOf i).toNat)
    case atStart => exact ⟨0, left - (n : Int), Nat.zero_le _, rfl, rfl, by omega, HV.out, Below.refl _ _⟩
    case round =>
      obtain ⟨k, K, hk, rfl, rfl, hK0, hK1, hb⟩ := hrel
      by_cases hlt : k < n
      · obtain ⟨b, off, rfl, hcell⟩ := (RowS.below HR.out hb) (by omega)
        obtain ⟨c0, c1, c2, c3⟩ := hcell k hlt
        have hfx := HF.out k hlt
        have hlt' : (k : Int) < (n : Int) := by omega
        clear hcell HR HF
        obtain ⟨x, hx⟩ : ∃ x, g k = x := ⟨_, rfl⟩
        rw [hx] at c0 c1 c2 c3 hfx
        clear hx
        have cS := fun W => szSlot_any x K hfx ⟨hK0, hK1⟩ W
        obtain ⟨xc, xt, xd, xs⟩ := x
        simp only at c0 c1 c2 c3 cS
        clear hfx
        go_wp2_with fail
        refine (cS _).mono ?_
        rintro e w1 ⟨b1, r, rfl, hr⟩
        clear cS c0 c1 c2 c3
        by_cases hr0 : r < 0
        · clear hr
          go_wp2
          go_ret
          exact ⟨Below.comp hb b1, _, rfl, .inl (by decide)⟩
        · have hr1 : 0 ≤ r ∧ r ≤ 1048576 := by rcases hr with h | h; omega; omega
          have hw1 : IntKind.i64.wrap ((k : Int) + 1) = (k : Int) + 1 := wrapI (by omega) (by omega)
          clear hr
          go_wp2
          go_roundw
          case rel => exact ⟨k + 1, r, by omega, by go_num, rfl, hr1.1, hr1.2, Below.comp hb b1⟩
          case measure => simp [intOf]; omega
      · go_wp2
        go_ret
        exact ⟨hb, _, rfl, .inr HN.out⟩
set_option maxHeartbeats 1000000 in
theorem szRing_any (a : Option Addr) (n c : Nat) (g : Nat → Sl) (h cy t : Int) (w : World) (hn : n ≤ 9223372036854775807) (hf : ∀ i, i < n → Few (g i)) (ha : RowS w a n g) :
    Calls Tryd.prog 16 #[rv a n c h cy t, .int .i64 1048576] w fun e w' => Below w.heap.size w w' ∧ ∃ r : Int, e = .returned (.int .i64 r) ∧ (r < 0 ∨ n ≤ 1048576) := by
  have q0 := below_alloc w (.cells #[.slice a n c, .int .i64 h, .int .i64 cy, .int .i64 t] 32)
  have c1 := szSlotS_any a n c g 1048576 _ hn hf (by omega) (by omega) (ha.below q0)
  clear ha hf
  go_enter Tryd.func16, Tryd.ntmps16
  go_wp2_with fail
  refine c1.mono ?_
  rintro e w1 ⟨b1, r, rfl, hr⟩
  have g1 := Below.comp q0 b1
  by_cases hr0 : r < 0
  · go_wp2_with fail
    go_ret
    exact ⟨g1, _, rfl, .inl (by decide)⟩
  · go_wp2_with fail
    go_ret
    exact ⟨g1, _, rfl, .inr (hr.resolve_left (by omega))⟩
set_option maxHeartbeats 2000000 in
theorem toRing_any (a : Option Addr) (n c : Nat) (g : Nat → Sl) (h cy t : Int) (w : World) (hn : n ≤ 1048576) (ha : RowS w a n g) :
    Calls Tryd.prog 18 #[rv a n c h cy t] w fun e w' => Below w.heap.size w w' ∧ ∃ a', e = .returned (rv a' n n h cy t) ∧ MineS w' w.heap.size w'.heap.size a' n g := by
  obtain ⟨D, hD⟩ : ∃ D, w.heap.size = D := ⟨_, rfl⟩
  obtain ⟨W0, hW0⟩ : ∃ W0, ((w.alloc (.cells #[.slice a n c, .int .i64 h, .int .i64 cy, .int .i64 t] 32)).alloc (.cells #[.slice none 0 0, .int .i64 0, .int .i64 0, .int .i64 0] 24)).alloc (.cells #[.slice none 0 0, .int .i64 0, .int .i64 0, .int .i64 0] 24) = W0 := ⟨_, rfl⟩
  have q0 : Below w.heap.size w W0 := by subst hW0; exact ba3 _ _ _ _
  obtain ⟨B1, B2, B3⟩ : W0.heap[D]? = some (.cells #[.slice a n c, .int .i64 h, .int .i64 cy, .int .i64 t] 32 (0, 0)) ∧ W0.heap[D + 1]? = some (.cells #[.slice none 0 0, .int .i64 0, .int .i64 0, .int .i64 0] 24 (0, 0)) ∧ W0.heap[D + 1 + 1]? = some (.cells #[.slice none 0 0, .int .i64 0, .int .i64 0, .int .i64 0] 24 (0, 0)) := by subst hW0 hD; exact al3 _ _ _ _
  have HB : Hid _ := And.intro B1 (And.intro B2 B3)
  have c1 := toSlotS_any a n c g W0 hn (ha.below q0)
  obtain ⟨x0, x1, x2, x3⟩ := box4_cells B1
  clear B1 B2 B3 ha
  go_enter Tryd.func18, Tryd.ntmps18
  go_wp2_with fail
  refine c1.mono ?_
  rintro e w1 ⟨b1, a', rfl, m1⟩
  have g1 := Below.comp q0 b1
  have M1 : Hid (MineS w1 W0.heap.size w1.heap.size a' n g) := m1
  clear x0 x1 x2 x3 hW0 c1 m1
  have HB1 : Hid (w1.heap[D]? = some (.cells #[.slice a n c, .int .i64 h, .int .i64 cy, .int .i64 t] 32 (0, 0)) ∧ w1.heap[D + 1]? = some (.cells #[.slice none 0 0, .int .i64 0, .int .i64 0, .int .i64 0] 24 (0, 0)) ∧ w1.heap[D + 1 + 1]? = some (.cells #[.slice none 0 0, .int .i64 0, .int .i64 0, .int .i64 0] 24 (0, 0))) := ⟨box_on HB.out.1 b1, box_on HB.out.2.1 b1, box_on HB.out.2.2 b1⟩
  have hz : D + 1 + 1 < W0.heap.size := box_lt HB.out.2.2
  have HZ : Hid _ := hz
  clear hz
  obtain ⟨x0, x1, x2, x3⟩ := box4_cells HB1.out.1
  obtain ⟨y0, y1, y2, y3⟩ := box4_cells HB1.out.2.1
  obtain ⟨f0, f1, f2, f3⟩ := box4_free HB1.out.2.1
  obtain ⟨z0, z1, z2, z3⟩ := box4_cells HB1.out.2.2
  obtain ⟨e0, e1, e2, e3⟩ := box4_free HB1.out.2.2
  go_wp2_with fail
  have o1 := set4_out w1 (D + 1 + 1) (.slice a' n n) (.int .i64 h) (.int .i64 cy) (.int .i64 t)
  have hY := box_out HB1.out.2.1 o1 (by omega)
  obtain ⟨t0, t1, t2, t3⟩ := box4_cells (box4_set hY (x0 := .slice a' n n) (x1 := .int .i64 h) (x2 := .int .i64 cy) (x3 := .int .i64 t))
  refine bodyPost_ret (v := rv a' n n h cy t) (by simp [results, Tryd.results18, go_sem, t0, t1, t2, t3]) rfl ⟨set4_below (set4_below g1 (by omega) _ _ _ _) (by omega) _ _ _ _, _, rfl, ?_⟩
  have hz := HZ.out
  exact (Mine.out (Mine.out M1.out o1 (.inr (by omega))) (set4_out _ _ _ _ _ _) (.inr (by omega))).mono (by have := q0.size; omega) (Nat.le_trans o1.size (set4_out _ _ _ _ _ _).size)
end Go.Proofs.YtcfjkejaenmibaaDoor
