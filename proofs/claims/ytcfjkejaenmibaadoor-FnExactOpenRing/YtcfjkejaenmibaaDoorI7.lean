import Derived.Test.YtcfjkejaenmibaaDoorI6
import Derived.Test.YtcfjkejaenmibaaDoorH2
/- The program: the tail pushed. -/
namespace Go.Proofs.YtcfjkejaenmibaaDoor
open Go.ChangeShapes Go.WideShapes Go.ChangeAt Go.RowKit
set_option linter.unusedVariables false
open Lg

attribute [local go_sem] Oper.semAt_some

set_option maxRecDepth 20000 in
set_option maxHeartbeats 4000000 in
theorem implPush_any (a : Option Addr) (c : Nat) (l : List Sl) (h cy t m : Int) (w : World) (hn : l.length ≤ 1048576) (hf : ∀ i, i < l.length → Few (gs l i)) (hh : i64 h) (hcy : i64 cy) (ht : i64 t) (hm : i64 m) (ha : Sls w a l) (a0 a1 : Addr) (hT : Tb w) (hS : Sn w a0 a1) :
    Calls Tryd.prog 27 #[rv a l.length c h cy t, .int .i64 m] w fun e w' => Below w.heap.size w w' ∧ ∃ v, e = .returned (.tuple #[v, .bool (puB l h cy t m)]) ∧ ROwn w' w.heap.size w'.heap.size v (bifL (puB l h cy t m) l) (bifI (puB l h cy t m) h) (bifI (puB l h cy t m) cy) (bifI (puB l h cy t m) (t + m)) := by
  have HP : Hid (puB l h cy t m = (gdB l h cy t && (decide (0 ≤ m) && decide (m ≤ h - t)))) := rfl
  have HBd : Hid (gdB l h cy t = true → 2 ≤ l.length ∧ l.length ≤ 24 ∧ 0 ≤ h ∧ h ≤ 10000000 ∧ 0 ≤ t ∧ t ≤ h ∧ h - t ≤ l.length ∧ cy = h / l.length + 1) := fun q => gd_bd q
  obtain ⟨D, hD⟩ : ∃ D, w.heap.size = D := ⟨_, rfl⟩
  obtain ⟨W0, hW0⟩ : ∃ W0, (w.alloc (.cells #[.slice a l.length c, .int .i64 h, .int .i64 cy, .int .i64 t] 24)).alloc (.cells #[.slice none 0 0, .int .i64 0, .int .i64 0, .int .i64 0] 24) = W0 := ⟨_, rfl⟩
  have q0 : Below w.heap.size w W0 := by subst hW0; exact ba2 _ _ _
  obtain ⟨B1, B2⟩ : W0.heap[D]? = some (.cells #[.slice a l.length c, .int .i64 h, .int .i64 cy, .int .i64 t] 24 (0, 0)) ∧ W0.heap[D + 1]? = some (.cells #[.slice none 0 0, .int .i64 0, .int .i64 0, .int .i64 0] 24 (0, 0)) := by subst hW0 hD; exact al2 _ _ _
  have HA : Hid _ := B1
  have HB : Hid _ := B2
  have HZ : Hid (D + 1 < W0.heap.size) := box_lt B2
  have cG := implGood_any a c l h cy t W0 a0 a1 hn hf hh hcy ht (ha.below q0) (hT.on q0) (hS.on q0)
  have HC : Hid (∀ W, Below w.heap.size w W → Calls Tryd.prog 57 #[.slice a l.length c] W fun e w' => Below W.heap.size W w' ∧ ∃ a', e = .returned (.slice a' l.length l.length) ∧ MineS w' W.heap.size w'.heap.size a' l.length (gs l)) := fun W q => copyList_any a c l W hn (ha.below q)
  obtain ⟨G, hG⟩ : ∃ G, gdB l h cy t = G := ⟨_, rfl⟩
  obtain ⟨P, hP⟩ : ∃ P, puB l h cy t m = P := ⟨_, rfl⟩
  rw [hG] at cG HBd HP
  rw [hP] at HP
  simp only [hP]
  obtain ⟨x0, x1, x2, x3⟩ := box4_cells B1
  clear hG hP hf hh hcy ht hn ha hT hS B1 B2
  unfold i64 at hm
  go_enter Tryd.func27, Tryd.ntmps27
  go_wp2_with fail
  refine cG.mono ?_
  rintro e w1 ⟨rfl, b1⟩
  clear x0 x1 x2 x3 hW0 cG
  have g1 := Below.comp q0 b1
  have HA1 : Hid _ := box_on HA.out b1
  have HB1 : Hid _ := box_on HB.out b1
  obtain ⟨x0, x1, x2, x3⟩ := box4_cells HA1.out
  obtain ⟨y0, y1, y2, y3⟩ := box4_cells HB1.out
  obtain ⟨f0, f1, f2, f3⟩ := box4_free HB1.out
  cases G with
  | false =>
    obtain rfl : P = false := HP.out
    go_wp2_with fail
    obtain ⟨t0, t1, t2, t3⟩ := box4_cells (box4_set HB1.out (x0 := .slice none 0 0) (x1 := .int .i64 0) (x2 := .int .i64 0) (x3 := .int .i64 0))
    exact bodyPost_ret (v := .tuple #[rv none 0 0 0 0 0, .bool false]) (by simp [results, Tryd.results27, go_sem, t0, t1, t2, t3]) rfl ⟨set4_below g1 (by omega) _ _ _ _, _, rfl, rown_zero _ _ _⟩
  | true =>
    have hbd := HBd.out rfl
    have hw : IntKind.i64.wrap (h - t) = h - t := wrapI (by omega) (by omega)
    have Hbd : Hid _ := hbd
    clear HBd hbd
    by_cases h1 : m < 0
    · have h1' : decide (m < 0) = true := decide_eq_true h1
      obtain rfl : P = false := by rw [HP.out]; simp; omega
      go_wp2_with fail
      obtain ⟨t0, t1, t2, t3⟩ := box4_cells (box4_set HB1.out (x0 := .slice none 0 0) (x1 := .int .i64 0) (x2 := .int .i64 0) (x3 := .int .i64 0))
      exact bodyPost_ret (v := .tuple #[rv none 0 0 0 0 0, .bool false]) (by simp [results, Tryd.results27, go_sem, t0, t1, t2, t3]) rfl ⟨set4_below g1 (by omega) _ _ _ _, _, rfl, rown_zero _ _ _⟩
    · have h1' : decide (m < 0) = false := decide_eq_false h1
      by_cases h2 : h - t < m
      · have h2' : decide (h - t < m) = true := decide_eq_true h2
        obtain rfl : P = false := by rw [HP.out]; simp; omega
        clear h2
        go_wp2_with fail
        obtain ⟨t0, t1, t2, t3⟩ := box4_cells (box4_set HB1.out (x0 := .slice none 0 0) (x1 := .int .i64 0) (x2 := .int .i64 0) (x3 := .int .i64 0))
        exact bodyPost_ret (v := .tuple #[rv none 0 0 0 0 0, .bool false]) (by simp [results, Tryd.results27, go_sem, t0, t1, t2, t3]) rfl ⟨set4_below g1 (by omega) _ _ _ _, _, rfl, rown_zero _ _ _⟩
      · have h2' : decide (h - t < m) = false := decide_eq_false h2
        obtain rfl : P = true := by rw [HP.out]; simp; omega
        have hw2 : IntKind.i64.wrap (t + m) = t + m := by have := Hbd.out; exact wrapI (by omega) (by omega)
        have hC := HC.out
        have cR : ∀ (x : Option Addr) (W : World), Calls Tryd.prog 44 #[.slice x l.length l.length, .int .i64 h, .int .i64 (t + m)] W fun e w' => e = .returned (rv x l.length l.length h cy (t + m)) ∧ Below W.heap.size W w' := fun x W => by
          have hb := Hbd.out
          obtain ⟨k, rfl⟩ : ∃ k : Nat, h = k := ⟨h.toNat, by omega⟩
          have q := ringOf_any x l.length l.length k (t + m) W (by omega) (by omega)
          rw [show (((k / l.length + 1 : Nat) : Nat) : Int) = cy by rw [hb.2.2.2.2.2.2.2]; simp] at q
          exact q
        have HZ1 : Hid (W0.heap.size ≤ w1.heap.size) := b1.size
        have SB : Hid (∀ W, Out (D + 1) (D + 2) w1 W → (W.cell? ⟨D, 0, none⟩ = some (.slice a l.length c) ∧ W.cell? ⟨D, 1, none⟩ = some (.int .i64 h) ∧ W.cell? ⟨D, 3, none⟩ = some (.int .i64 t)) ∧ Out (D + 1) (D + 2) w1 W) := fun W g => by
          obtain ⟨z0, z1, z2, z3⟩ := box4_cells (box_out HA1.out g (by omega))
          exact ⟨⟨z0, z1, z3⟩, g⟩
        clear h1 h2 hm HP HC
        go_wp2_with fail
        clear x0 x1 x2 x3 y0 y1 y2 y3 f0 f1 f2 f3
        go_region_held3 (fun W => (W.cell? ⟨D, 0, none⟩ = some (.slice a l.length c) ∧ W.cell? ⟨D, 1, none⟩ = some (.int .i64 h) ∧ W.cell? ⟨D, 3, none⟩ = some (.int .i64 t)) ∧ Out (D + 1) (D + 2) w1 W)
          ((refine SB.out _ ?_; first | exact Out.of_below (Below.drew (Below.refl _ _)) | exact Out.of_below hb3 | exact Out.of_below hb2 | exact (Out.of_below hb3).trans (set4_out _ _ _ _ _ _)))
          (first
          | (go_at_call 57; have hw0 : Below w1.heap.size w1 w1.drew := Below.drew (Below.refl _ _); refine (hC _ (Below.comp g1 hw0)).mono ?_; rintro e w2 ⟨b2, ya, rfl, m2⟩; have hb2 := Below.comp hw0 b2; have M2 : Hid (MineS w2 w1.heap.size w2.heap.size ya l.length (gs l)) := m2; clear m2)
          | (go_at_call 44; refine (cR _ _).mono ?_; rintro e w3 ⟨rfl, b3⟩; have hb3 := Below.comp hb2 b3; obtain ⟨y0, y1, y2, y3⟩ := box4_cells (box_on HB1.out hb3); obtain ⟨f0, f1, f2, f3⟩ := box4_free (box_on HB1.out hb3)))
        all_goals go_wp2_with fail
        obtain ⟨t0, t1, t2, t3⟩ := box4_cells (box4_set (box_on HB1.out hb3) (x0 := .slice ya l.length l.length) (x1 := .int .i64 h) (x2 := .int .i64 cy) (x3 := .int .i64 (t + m)))
        have hz := HZ.out
        have hz1 := HZ1.out
        refine bodyPost_ret (v := .tuple #[rv ya l.length l.length h cy (t + m), .bool true]) (by simp [results, Tryd.results27, go_sem, t0, t1, t2, t3]) rfl ⟨set4_below (Below.comp g1 hb3) (by omega) _ _ _ _, _, rfl, ya, l.length, rfl, Nat.le_refl _, ?_⟩
        exact (Mine.out (Mine.below M2.out b3) (set4_out _ _ _ _ _ _) (.inr (by omega))).mono (by have := g1.size; omega) (Nat.le_trans b3.size (set4_out _ _ _ _ _ _).size)
end Go.Proofs.YtcfjkejaenmibaaDoor
