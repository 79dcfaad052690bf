import Derived.Test.YtcfjkejaenmibaaDoorG4
import Derived.Test.YtcfjkejaenmibaaDoorV3
/- The specification: room, a ring copied, its tail pushed. -/
namespace Go.Proofs.YtcfjkejaenmibaaDoor
open Go.ChangeShapes Go.WideShapes Go.ChangeAt Go.RowKit
set_option linter.unusedVariables false
open Lg

attribute [local go_sem] Oper.semAt_some

/-- A good ring's bounds. -/
theorem gd_bd {l : List Sl} {h cy t : Int} (hg : gdB l h cy t = true) : 2 ≤ l.length ∧ l.length ≤ 24 ∧ 0 ≤ h ∧ h ≤ 10000000 ∧ 0 ≤ t ∧ t ≤ h ∧ h - t ≤ l.length ∧ cy = h / l.length + 1 := by
  unfold gdB at hg
  simp only [Bool.and_eq_true] at hg
  exact bd_is.1 hg.1
/-- How many may be put. -/
def rmI (l : List Sl) (h cy t : Int) : Int := bif gdB l h cy t then (l.length : Int) - (h - t) else 0
set_option maxHeartbeats 2000000 in
theorem specRoom_any (a : Option Addr) (c : Nat) (l : List Sl) (h cy t : Int) (w : World) (hn : l.length ≤ 1048576) (hf : ∀ i, i < l.length → Few (gs l i)) (hh : i64 h) (hcy : i64 cy) (ht : i64 t) (ha : Sls w a l) :
    Calls Tryd.prog 33 #[rv a l.length c h cy t] w fun e w' => e = .returned (.tuple #[.int .i64 (rmI l h cy t), .bool (gdB l h cy t)]) ∧ Below w.heap.size w w' := by
  obtain ⟨D, hD⟩ : ∃ D, w.heap.size = D := ⟨_, rfl⟩
  obtain ⟨W0, hW0⟩ : ∃ W0, w.alloc (.cells #[.slice a l.length c, .int .i64 h, .int .i64 cy, .int .i64 t] 24) = W0 := ⟨_, rfl⟩
  have q0 : Below w.heap.size w W0 := by subst hW0; exact below_alloc _ _
  have HA : Hid (W0.heap[D]? = some (.cells #[.slice a l.length c, .int .i64 h, .int .i64 cy, .int .i64 t] 24 (0, 0))) := by subst hW0 hD; exact al1 _ _
  have cG := specGood_any a c l h cy t W0 hn hf hh hcy ht (ha.below q0)
  have HB : Hid (gdB l h cy t = true → 2 ≤ l.length ∧ l.length ≤ 24 ∧ 0 ≤ h ∧ h ≤ 10000000 ∧ 0 ≤ t ∧ t ≤ h ∧ h - t ≤ l.length) := fun q => by have := gd_bd q; exact ⟨this.1, this.2.1, this.2.2.1, this.2.2.2.1, this.2.2.2.2.1, this.2.2.2.2.2.1, this.2.2.2.2.2.2.1⟩
  have HR : Hid (rmI l h cy t = bif gdB l h cy t then (l.length : Int) - (h - t) else 0) := rfl
  obtain ⟨G, hG⟩ : ∃ G, gdB l h cy t = G := ⟨_, rfl⟩
  obtain ⟨R, hR⟩ : ∃ R, rmI l h cy t = R := ⟨_, rfl⟩
  rw [hG] at cG HB HR ⊢
  rw [hR] at HR ⊢
  clear hG hR ha hf hh hcy ht hn
  generalize l.length = n at *
  obtain ⟨x0, x1, x2, x3⟩ := box4_cells HA.out
  go_enter Tryd.func33, Tryd.ntmps33
  go_wp2_with fail
  refine cG.mono ?_
  rintro e w1 ⟨rfl, b1⟩
  clear x0 x1 x2 x3 hW0 cG
  have g1 := Below.comp q0 b1
  cases G with
  | false =>
    obtain rfl : R = 0 := HR.out
    go_wp2_with fail
    go_ret2
    exact ⟨rfl, by first | exact g1 | exact (hD ▸ g1)⟩
  | true =>
    obtain ⟨x0, x1, x2, x3⟩ := box4_cells (box_on HA.out b1)
    have hb := HB.out rfl
    have h1 : IntKind.i64.wrap (h - t) = h - t := wrapI (by omega) (by omega)
    have h2 : IntKind.i64.wrap ((n : Int) - (h - t)) = R := by rw [HR.out]; exact wrapI (by omega) (by omega)
    have Hb : Hid _ := hb
    clear hb HR HB
    go_wp2_with fail
    go_ret2
    exact ⟨rfl, by first | exact g1 | exact (hD ▸ g1)⟩
set_option maxHeartbeats 2000000 in
/-- A ring copied. -/
theorem l10Own_any (a : Option Addr) (c : Nat) (l : List Sl) (h cy t : Int) (w : World) (hn : l.length ≤ 24) (ha : Sls w a l) :
    Calls Tryd.prog 56 #[rv a l.length c h cy t] w fun e w' => Below w.heap.size w w' ∧ ∃ v, e = .returned v ∧ ROwn w' w.heap.size w'.heap.size v l h cy t := by
  obtain ⟨D, hD⟩ : ∃ D, w.heap.size = D := ⟨_, rfl⟩
  obtain ⟨W0, hW0⟩ : ∃ W0, (w.alloc (.cells #[.slice a l.length c, .int .i64 h, .int .i64 cy, .int .i64 t] 24)).alloc (.cells #[.slice none 0 0, .int .i64 0, .int .i64 0, .int .i64 0] 24) = W0 := ⟨_, rfl⟩
  have q0 : Below w.heap.size w W0 := by subst hW0; exact ba2 _ _ _
  obtain ⟨B1, B2⟩ : W0.heap[D]? = some (.cells #[.slice a l.length c, .int .i64 h, .int .i64 cy, .int .i64 t] 24 (0, 0)) ∧ W0.heap[D + 1]? = some (.cells #[.slice none 0 0, .int .i64 0, .int .i64 0, .int .i64 0] 24 (0, 0)) := by subst hW0 hD; exact al2 _ _ _
  have HB : Hid _ := And.intro B1 B2
  have qz := below_alloc W0 (.cells #[] 41)
  have hS : Sls (W0.alloc (.cells #[] 41)) a l := RowS.below (RowS.below ha q0) qz
  have src := RowS.src hS
  have HZ : Hid (D + 1 < W0.heap.size) := box_lt B2
  have own0 := own_empty W0 41 4
  have hzs := qz.size
  obtain ⟨x0, x1, x2, x3⟩ := box4_cells B1
  obtain ⟨x0a, -, -, -⟩ := box4_cells (box_on B1 qz)
  have Hlen : Hid _ := css_len l
  have hone := css_one l
  clear B1 B2 hS
  go_enter Tryd.func56, Tryd.ntmps56
  go_wp2_with (refine wpList_append_src rfl _ _ 22 rfl W0.heap.size 41 _ 4 40 Tryd.underlying22 infoSl rfl (by decide) (.slice (some ⟨W0.heap.size, 0, none⟩) 0 0) 0 [] rfl own0 a l.length c (css l) rfl Hlen.out src hone (by omega) (by decide) hzs ?_; intro v1 w1 own1 gr1; have b1 : Below W0.heap.size W0 w1 := grown_on qz hzs own0 gr1; rw [Nat.zero_add, List.nil_append] at own1; obtain ⟨y, cy', rfl⟩ := owns_form own1; obtain ⟨z0, z1, z2, z3⟩ := box4_cells (box_on HB.out.1 b1); obtain ⟨e0, e1, e2, e3⟩ := box4_free (box_on HB.out.1 b1); obtain ⟨y0, y1, y2, y3⟩ := box4_cells (box_on HB.out.2 b1); obtain ⟨f0, f1, f2, f3⟩ := box4_free (box_on HB.out.2 b1))
  have HB1 : Hid _ := box_on HB.out.2 b1
  have hY := box_out HB1.out (out_setCell w1 D 0 (.slice y l.length cy')) (by omega)
  obtain ⟨t0, t1, t2, t3⟩ := box4_cells (box4_set hY (x0 := .slice y l.length cy') (x1 := .int .i64 h) (x2 := .int .i64 cy) (x3 := .int .i64 t))
  have g1 := Below.comp q0 b1
  obtain ⟨ym, ycl, hyc⟩ := OwnS.own (l := l) own1
  have hz := HZ.out
  refine bodyPost_ret (v := rv y l.length cy' h cy t) (by simp [results, Tryd.results56, go_sem, t0, t1, t2, t3]) rfl ⟨set4_below (g1.setCell (by simp; omega) _) (by omega) _ _ _ _, _, rfl, y, cy', rfl, hyc, ?_⟩
  exact (Mine.out (Mine.out ym (out_setCell w1 D 0 _) (.inr (by omega))) (set4_out _ _ _ _ _ _) (.inr (by omega))).mono (by have := q0.size; omega) (Nat.le_trans (out_setCell w1 D 0 _).size (set4_out _ _ _ _ _ _).size)
end Go.Proofs.YtcfjkejaenmibaaDoor
