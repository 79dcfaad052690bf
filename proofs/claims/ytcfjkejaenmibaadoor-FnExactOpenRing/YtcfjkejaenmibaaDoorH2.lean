import Derived.Test.YtcfjkejaenmibaaDoorH1
/- The specification: the tail pushed. -/
namespace Go.Proofs.YtcfjkejaenmibaaDoor
open Go.ChangeShapes Go.WideShapes Go.ChangeAt Go.RowKit
set_option linter.unusedVariables false
open Lg

attribute [local go_sem] Oper.semAt_some

/-- A ring's answer: the ring or none. -/
def bifL (b : Bool) (l : List Sl) : List Sl := bif b then l else []
def bifI (b : Bool) (x : Int) : Int := bif b then x else 0
/-- Whether so many may be passed. -/
def puB (l : List Sl) (h cy t m : Int) : Bool := gdB l h cy t && (decide (0 ≤ m) && decide (m ≤ h - t))
theorem rown_zero (w : World) (B C : Nat) : ROwn w B C (rv none 0 0 0 0 0) [] 0 0 0 := ⟨none, 0, rfl, Nat.le_refl _, .inl rfl⟩
set_option maxHeartbeats 4000000 in
theorem specPush_any (a : Option Addr) (c : Nat) (l : List Sl) (h cy t m : Int) (w : World) (hn : l.length ≤ 1048576) (hf : ∀ i, i < l.length → Few (gs l i)) (hh : i64 h) (hcy : i64 cy) (ht : i64 t) (ha : Sls w a l) :
    Calls Tryd.prog 26 #[rv a l.length c h cy t, .int .i64 m] w fun e w' => Below w.heap.size w w' ∧ ∃ v, e = .returned (.tuple #[v, .bool (puB l h cy t m)]) ∧ ROwn w' w.heap.size w'.heap.size v (bifL (puB l h cy t m) l) (bifI (puB l h cy t m) h) (bifI (puB l h cy t m) cy) (bifI (puB l h cy t m) (t + m)) := by
  obtain ⟨D, hD⟩ : ∃ D, w.heap.size = D := ⟨_, rfl⟩
  obtain ⟨W0, hW0⟩ : ∃ W0, (w.alloc (.cells #[.slice a l.length c, .int .i64 h, .int .i64 cy, .int .i64 t] 24)).alloc (.cells #[.slice none 0 0, .int .i64 0, .int .i64 0, .int .i64 0] 24) = W0 := ⟨_, rfl⟩
  have q0 : Below w.heap.size w W0 := by subst hW0; exact ba2 _ _ _
  obtain ⟨B1, B2⟩ : W0.heap[D]? = some (.cells #[.slice a l.length c, .int .i64 h, .int .i64 cy, .int .i64 t] 24 (0, 0)) ∧ W0.heap[D + 1]? = some (.cells #[.slice none 0 0, .int .i64 0, .int .i64 0, .int .i64 0] 24 (0, 0)) := by subst hW0 hD; exact al2 _ _ _
  have HB : Hid _ := And.intro B1 B2
  have HZ : Hid (D + 1 < W0.heap.size) := box_lt B2
  have cG := specGood_any a c l h cy t W0 hn hf hh hcy ht (ha.below q0)
  have HBd : Hid (gdB l h cy t = true → l.length ≤ 24 ∧ 0 ≤ h ∧ h ≤ 10000000 ∧ 0 ≤ t ∧ t ≤ h) := fun q => by have := gd_bd q; exact ⟨this.2.1, this.2.2.1, this.2.2.2.1, this.2.2.2.2.1, this.2.2.2.2.2.1⟩
  have HO : Hid (l.length ≤ 24 → ∀ W, Below w.heap.size w W → Calls Tryd.prog 56 #[rv a l.length c h cy t] W fun e w' => Below W.heap.size W w' ∧ ∃ v, e = .returned v ∧ ROwn w' W.heap.size w'.heap.size v l h cy t) := fun q W hb => l10Own_any a c l h cy t W q (ha.below hb)
  have HP : Hid (puB l h cy t m = (gdB l h cy t && (decide (0 ≤ m) && decide (m ≤ h - t)))) := rfl
  obtain ⟨G, hG⟩ : ∃ G, gdB l h cy t = G := ⟨_, rfl⟩
  obtain ⟨P, hP⟩ : ∃ P, puB l h cy t m = P := ⟨_, rfl⟩
  rw [hG] at cG HBd HP
  rw [hP] at HP ⊢
  clear hG hP ha hf hh hcy ht hn
  have c1 := fun W => l1In_any m 0 (h - t) W
  obtain ⟨u, hu⟩ : ∃ u, (decide (0 ≤ m) && decide (m ≤ h - t)) = u := ⟨_, rfl⟩
  rw [hu] at c1 HP
  have Hu : Hid _ := hu
  clear hu
  obtain ⟨x0, x1, x2, x3⟩ := box4_cells B1
  clear B1 B2
  go_enter Tryd.func26, Tryd.ntmps26
  go_wp2_with fail
  refine cG.mono ?_
  rintro e w1 ⟨rfl, b1⟩
  clear x0 x1 x2 x3 hW0 cG
  have g1 := Below.comp q0 b1
  have HA1 : Hid _ := box_on HB.out.1 b1
  have HB1 : Hid _ := box_on HB.out.2 b1
  obtain ⟨x0, x1, x2, x3⟩ := box4_cells HA1.out
  obtain ⟨e0, e1, e2, e3⟩ := box4_free HA1.out
  obtain ⟨y0, y1, y2, y3⟩ := box4_cells HB1.out
  obtain ⟨f0, f1, f2, f3⟩ := box4_free HB1.out
  cases G with
  | false =>
    obtain rfl : P = false := HP.out
    go_wp2_with fail
    obtain ⟨t0, t1, t2, t3⟩ := box4_cells (box4_set HB1.out (x0 := .slice none 0 0) (x1 := .int .i64 0) (x2 := .int .i64 0) (x3 := .int .i64 0))
    exact bodyPost_ret (v := .tuple #[rv none 0 0 0 0 0, .bool false]) (by simp [results, Tryd.results26, go_sem, t0, t1, t2, t3]) rfl ⟨set4_below g1 (by omega) _ _ _ _, _, rfl, rown_zero _ _ _⟩
  | true =>
    have hbd := HBd.out rfl
    have hw : IntKind.i64.wrap (h - t) = h - t := wrapI (by omega) (by omega)
    have cO := HO.out hbd.1 w1 g1
    have Hbd : Hid _ := hbd
    clear HBd HO hbd
    cases u with
    | false =>
      obtain rfl : P = false := HP.out
      go_wp2_with (go_at_call 41; refine (c1 _).mono ?_; rintro e w' ⟨rfl, hww⟩; have hww := hww.symm; subst hww)
      obtain ⟨t0, t1, t2, t3⟩ := box4_cells (box4_set HB1.out (x0 := .slice none 0 0) (x1 := .int .i64 0) (x2 := .int .i64 0) (x3 := .int .i64 0))
      exact bodyPost_ret (v := .tuple #[rv none 0 0 0 0 0, .bool false]) (by simp [results, Tryd.results26, go_sem, t0, t1, t2, t3]) rfl ⟨set4_below g1 (by omega) _ _ _ _, _, rfl, rown_zero _ _ _⟩
    | true =>
      obtain rfl : P = true := HP.out
      have hm : 0 ≤ m ∧ m ≤ h - t := by have := Hu.out; simpa using this
      have hw2 : IntKind.i64.wrap (t + m) = t + m := by have := Hbd.out; exact wrapI (by omega) (by omega)
      have Hm : Hid _ := hm
      clear hm HP
      go_wp2_with fail
      refine (c1 _).mono ?_
      rintro e w' ⟨rfl, hww⟩
      have hww := hww.symm
      subst hww
      go_wp2_with fail
      refine cO.mono ?_
      rintro e w2 ⟨b2, v, rfl, ya, yc, rfl, hyc, my⟩
      clear x0 x1 x2 x3 e0 e1 e2 e3 y0 y1 y2 y3 f0 f1 f2 f3 c1 cO
      have HA2 : Hid _ := box_on HA1.out b2
      have HB2 : Hid _ := box_on HB1.out b2
      have g2 := Below.comp g1 b2
      have HZ2 : Hid (W0.heap.size ≤ w1.heap.size) := b1.size
      obtain ⟨W3, hW3⟩ : ∃ W3, (((w2.setCell ⟨D, 0, none⟩ (.slice ya l.length yc)).setCell ⟨D, 1, none⟩ (.int .i64 h)).setCell ⟨D, 2, none⟩ (.int .i64 cy)).setCell ⟨D, 3, none⟩ (.int .i64 t) = W3 := ⟨_, rfl⟩
      have o3 : Out D (D + 1) w2 W3 := by subst hW3; exact set4_out _ _ _ _ _ _
      have HA3 : Hid (W3.heap[D]? = some (.cells #[.slice ya l.length yc, .int .i64 h, .int .i64 cy, .int .i64 t] 24 (0, 0))) := by subst hW3; exact box4_set HA2.out
      have HB3 : Hid _ := box_out HB2.out o3 (by omega)
      have g3 : Below w.heap.size w W3 := by subst hW3; exact set4_below g2 (by omega) _ _ _ _
      obtain ⟨x0, x1, x2, x3⟩ := box4_cells HA2.out
      obtain ⟨e0, e1, e2, e3⟩ := box4_free HA2.out
      obtain ⟨r0, r1, r2, r3⟩ := box4_cells HA3.out
      obtain ⟨s0, s1, s2, s3⟩ := box4_free HA3.out
      have hA4 := set3 (v := .int .i64 (t + m)) HA3.out
      obtain ⟨q0', q1', q2', q3'⟩ := box4_cells hA4
      have hB4 := box_out HB3.out (out_setCell W3 D 3 (.int .i64 (t + m))) (by omega)
      obtain ⟨y0, y1, y2, y3⟩ := box4_cells hB4
      obtain ⟨f0, f1, f2, f3⟩ := box4_free hB4
      have HB4 : Hid _ := hB4
      have MY : Hid (MineS w2 w1.heap.size w2.heap.size ya l.length (gs l)) := my
      clear hA4 hB4 my
      go_wp2_with fail
      obtain ⟨t0, t1, t2, t3⟩ := box4_cells (box4_set HB4.out (x0 := .slice ya l.length yc) (x1 := .int .i64 h) (x2 := .int .i64 cy) (x3 := .int .i64 (t + m)))
      have hz := HZ.out
      have hz2 := HZ2.out
      refine bodyPost_ret (v := .tuple #[rv ya l.length yc h cy (t + m), .bool true]) (by simp [results, Tryd.results26, go_sem, t0, t1, t2, t3]) rfl ⟨set4_below (g3.setCell (by simp; omega) _) (by omega) _ _ _ _, _, rfl, ya, yc, rfl, hyc, ?_⟩
      have o4 := out_setCell W3 D 3 (.int .i64 (t + m))
      exact (Mine.out (Mine.out (Mine.out MY.out o3 (.inr (by omega))) o4 (.inr (by omega))) (set4_out _ _ _ _ _ _) (.inr (by omega))).mono (by have := g1.size; omega) (Nat.le_trans o3.size (Nat.le_trans o4.size (set4_out _ _ _ _ _ _).size))
end Go.Proofs.YtcfjkejaenmibaaDoor
