import Derived.Test.YtpolhigpcllhiaaIE
import Derived.Test.YtpolhigpcllhiaaR0
/- The law of PromisedIn. -/
namespace Go.Proofs.Ytpolhigpcllhiaa
open Go.ChangeShapes Go.WideShapes Go.ChangeAt Go.RowKit
set_option linter.unusedVariables false
open Room

attribute [local go_sem] Oper.semAt_some

set_option maxHeartbeats 2000000 in
theorem lawPromisedIn (b : Int) (a : Option Addr) (ca : Nat) (a' : Option Addr) (ca' : Nat) (l s : List Ex) (nx : Int) (i : Option Addr) (ci : Nat) (t : List It) (w : World) (hb : -9223372036854775808 ≤ b ∧ b ≤ 9223372036854775807) (hn : l.length ≤ 9223372036854775807) (hn' : s.length ≤ 9223372036854775807) (hm : t.length ≤ 9223372036854775807) (ha : Exs w a l) (ha' : Exs w a' s) (hi : Its w i t) (hx : ∀ x, x ∈ l → Fit x) (hxi : ∀ x, x ∈ t → FitI x) :
    Calls Try.prog 8 #[wv b a l.length ca a' s.length ca' nx i t.length ci] w fun e w' => e = .returned (.bool true) ∧ Below w.heap.size w w' := by
  obtain ⟨D, hD⟩ : ∃ D, w.heap.size = D := ⟨_, rfl⟩
  obtain ⟨W0, hW0⟩ : ∃ W0, w.alloc (.cells #[.int .i64 b, .slice a l.length ca, .slice a' s.length ca', .int .i64 nx, .slice i t.length ci] 38) = W0 := ⟨_, rfl⟩
  have g0 : Below w.heap.size w W0 := by subst hW0; exact below_alloc _ _
  have B1 : W0.heap[D]? = some (.cells #[.int .i64 b, .slice a l.length ca, .slice a' s.length ca', .int .i64 nx, .slice i t.length ci] 38 (0, 0)) := by subst hW0 hD; exact al1 _ _
  have HB : Hid (W0.heap[D]? = some (.cells #[.int .i64 b, .slice a l.length ca, .slice a' s.length ca', .int .i64 nx, .slice i t.length ci] 38 (0, 0))) := B1
  obtain ⟨i0, i1, i2, i3, i4⟩ := box5_cells B1
  clear B1
  have cZ := fun W => szWork_any b a l.length ca a' s.length ca' nx i t.length ci W hn hn' hm
  have cT := fun W h1 h2 h3 h => toWork_any b a l.length ca a' s.length ca' nx i t.length ci (gx l) (gx s) (gi t) W h1 h2 h3 (ha.below h) (ha'.below h) (hi.below h)
  have cE := fun W v u h1 h2 => eqWork_same v u b l.length s.length t.length (gx l) (gx s) nx (gi t) W hn hn' hm h1 h2
  have cS := fun (W : World) (v : Value) (h1 : l.length ≤ 1048576) (h2 : s.length ≤ 1048576) (h3 : t.length ≤ 1048576) (h : WkR W v b l.length s.length t.length (gx l) (gx s) nx (gi t)) => show Calls Try.prog 28 #[v] W fun e w' => e = .returned (.tuple #[.int .i64 (sm (opn (prO b l s nx t))), .bool (prO b l s nx t).isSome]) ∧ Below W.heap.size W w' by
    obtain ⟨x, c, x', c', y, cy, rfl, k1, k2, k3, k4⟩ := h
    exact specPromised_any b x c x' c' l s nx y cy t W hb.1 hb.2 h1 h2 (by omega) k4 hxi k1 k2 k3
  have cI := fun (W : World) (v : Value) (h1 : l.length ≤ 1048576) (h2 : s.length ≤ 1048576) (h3 : t.length ≤ 1048576) (h : WkR W v b l.length s.length t.length (gx l) (gx s) nx (gi t)) => show Calls Try.prog 29 #[v] W fun e w' => e = .returned (.tuple #[.int .i64 (sm (opn (prO b l s nx t))), .bool (prO b l s nx t).isSome]) ∧ Below W.heap.size W w' by
    obtain ⟨x, c, x', c', y, cy, rfl, k1, k2, k3, k4⟩ := h
    exact implPromised_any b x c x' c' l s nx y cy t W h1 h2 (by omega) (fun x hx' => (hx x hx').1.2) (fun x hx' => (hxi x hx').1) k1 k2 k3
  generalize (prO b l s nx t).isSome = r at cS cI
  generalize sm (opn (prO b l s nx t)) = ri at cS cI
  clear ha ha' hi hx hxi
  go_enter Try.func8, Try.ntmps8
  go_wp2_with fail
  refine (cZ _).mono ?_
  rintro e w1 ⟨b1, q, rfl, hq⟩
  clear cZ hW0 i0 i1 i2 i3 i4
  have g1 := Below.comp g0 b1
  obtain ⟨i0, i1, i2, i3, i4⟩ := box5_cells (box_on HB.out b1)
  by_cases hq0 : q < 0
  · go_wp2
    go_ret
    exact ⟨rfl, by first | exact g1 | exact (hD ▸ g1)⟩
  · have hl := hq.resolve_left hq0
    clear hq
    go_wp2_with fail
    refine (cT _ hl.1 hl.2.1 hl.2.2 g1).mono ?_
    rintro e w2 ⟨b2, v2, rfl, m2⟩
    have M2 : Hid (WkR w2 v2 b l.length s.length t.length (gx l) (gx s) nx (gi t)) := m2.r
    have g2 := Below.comp g1 b2
    clear i0 i1 i2 i3 i4 m2
    go_wp2_with fail
    refine (cS _ v2 hl.1 hl.2.1 hl.2.2 M2.out).mono ?_
    rintro e w3 ⟨rfl, b3⟩
    have g3 := Below.comp g2 b3
    obtain ⟨i0, i1, i2, i3, i4⟩ := box5_cells (box_on HB.out (Below.comp b1 (Below.comp b2 b3)))
    go_wp2_with fail
    refine (cT _ hl.1 hl.2.1 hl.2.2 g3).mono ?_
    rintro e w4 ⟨b4, v4, rfl, m4⟩
    clear i0 i1 i2 i3 i4
    have M4 : Hid (WkR w4 v4 b l.length s.length t.length (gx l) (gx s) nx (gi t)) := m4.r
    obtain ⟨y, cy, y', cy', z, cz, -, -, -, -, -, -, rfl, -⟩ := m4
    have g4 := Below.comp g3 b4
    obtain ⟨E, hE⟩ : ∃ E, w4.heap.size = E := ⟨_, rfl⟩
    obtain ⟨W4, hW4⟩ : ∃ W4, w4.alloc (.cells #[.int .i64 b, .slice y l.length cy, .slice y' s.length cy', .int .i64 nx, .slice z t.length cz] 27) = W4 := ⟨_, rfl⟩
    have b5 : Below w4.heap.size w4 W4 := by subst hW4; exact below_alloc _ _
    have HE : Hid (W4.heap[E]? = some (.cells #[.int .i64 b, .slice y l.length cy, .slice y' s.length cy', .int .i64 nx, .slice z t.length cz] 27 (0, 0))) := by subst hW4 hE; exact al1 _ _
    obtain ⟨j0, j1, j2, j3, j4⟩ := box5_cells HE.out
    have M5 : Hid (WkR W4 (wv b y l.length cy y' s.length cy' nx z t.length cz) b l.length s.length t.length (gx l) (gx s) nx (gi t)) := M4.out.below b5
    go_wp2_with fail
    refine (cI _ _ hl.1 hl.2.1 hl.2.2 M5.out).mono ?_
    rintro e w6 ⟨rfl, b6⟩
    clear hW4 j0 j1 j2 j3 j4
    have g6 := Below.comp (Below.comp g4 b5) b6
    have M6 : Hid (WkR w6 (wv b y l.length cy y' s.length cy' nx z t.length cz) b l.length s.length t.length (gx l) (gx s) nx (gi t)) := M5.out.below b6
    have hB6 := box_on HB.out (Below.comp b1 (Below.comp b2 (Below.comp b3 (Below.comp b4 (Below.comp b5 b6)))))
    have hE6 := box_on HE.out b6
    have SB : Hid (∀ W, Below w6.heap.size w6 W → W.cell? ⟨D, 0, none⟩ = some (.int .i64 b) ∧ W.cell? ⟨D, 1, none⟩ = some (.slice a l.length ca) ∧ W.cell? ⟨D, 2, none⟩ = some (.slice a' s.length ca') ∧ W.cell? ⟨D, 3, none⟩ = some (.int .i64 nx) ∧ W.cell? ⟨D, 4, none⟩ = some (.slice i t.length ci) ∧ W.cell? ⟨E, 0, none⟩ = some (.int .i64 b) ∧ W.cell? ⟨E, 1, none⟩ = some (.slice y l.length cy) ∧ W.cell? ⟨E, 2, none⟩ = some (.slice y' s.length cy') ∧ W.cell? ⟨E, 3, none⟩ = some (.int .i64 nx) ∧ W.cell? ⟨E, 4, none⟩ = some (.slice z t.length cz) ∧ Below w6.heap.size w6 W) := fun W zz => by
      obtain ⟨h0, h1, h2, h3, h4⟩ := box5_cells (box_on hB6 zz)
      obtain ⟨k0, k1, k2, k3, k4⟩ := box5_cells (box_on hE6 zz)
      exact ⟨h0, h1, h2, h3, h4, k0, k1, k2, k3, k4, zz⟩
    clear hB6 hE6
    go_wp2
    go_region_held3 (fun W => W.cell? ⟨D, 0, none⟩ = some (.int .i64 b) ∧ W.cell? ⟨D, 1, none⟩ = some (.slice a l.length ca) ∧ W.cell? ⟨D, 2, none⟩ = some (.slice a' s.length ca') ∧ W.cell? ⟨D, 3, none⟩ = some (.int .i64 nx) ∧ W.cell? ⟨D, 4, none⟩ = some (.slice i t.length ci) ∧ W.cell? ⟨E, 0, none⟩ = some (.int .i64 b) ∧ W.cell? ⟨E, 1, none⟩ = some (.slice y l.length cy) ∧ W.cell? ⟨E, 2, none⟩ = some (.slice y' s.length cy') ∧ W.cell? ⟨E, 3, none⟩ = some (.int .i64 nx) ∧ W.cell? ⟨E, 4, none⟩ = some (.slice z t.length cz) ∧ Below w6.heap.size w6 W)
      ((refine SB.out _ ?_; first | assumption | exact Below.drew (Below.refl _ _)))
      (first
      | (go_at_call 16; obtain ⟨-, -, -, -, -, -, -, -, -, -, hw0⟩ := ‹_ ∧ _ ∧ _ ∧ _ ∧ _ ∧ _ ∧ _ ∧ _ ∧ _ ∧ _ ∧ Below w6.heap.size w6 _›; refine (cT _ hl.1 hl.2.1 hl.2.2 (Below.comp g6 hw0)).mono ?_; rintro e w7 ⟨b7, v7, rfl, m7⟩; obtain ⟨p, cp, p', cp', r, cr, -, -, -, -, -, -, rfl, -⟩ := id m7; have M7 : Hid (WkR w7 (wv b p l.length cp p' s.length cp' nx r t.length cr) b l.length s.length t.length (gx l) (gx s) nx (gi t)) := WkM.r m7; have b8 := Below.comp hw0 b7; clear hw0 m7)
      | (go_at_call 11; refine (cE _ _ _ (M6.out.below b8) M7.out).mono ?_; rintro e w9 ⟨rfl, b9⟩; have b10 := Below.comp b8 b9))
    all_goals go_wp2
    all_goals
      go_ret
      exact ⟨rfl, by first | exact Below.comp g6 (by assumption) | exact (hD ▸ Below.comp g6 (by assumption))⟩
end Go.Proofs.Ytpolhigpcllhiaa
