import Derived.Test.YtoodioaflaklmaaX6
import Derived.Test.YtoodioaflaklmaaX7
/- Both lists in step. -/
namespace Go.Proofs.Ytoodioaflaklmaa
open Go.ChangeShapes Go.WideShapes Go.ChangeAt Go.RowKit
set_option linter.unusedVariables false
open Room

attribute [local go_sem] Oper.semAt_some

theorem Out.drew1 {B C : Nat} (w : World) : Out B C w w.drew := Out.of_below (Below.drew (Below.refl _ _))
theorem exch_no (b : Int) (a : Option Addr) (n ca : Nat) (a' : Option Addr) (n' ca' : Nat) (ga : Option Addr) (gn gca : Nat) (ma : Option Addr) (mn mca : Nat) (w : World) (h1 : n ≤ 60) (h2 : gn ≤ 100) (h3 : mn ≤ 10) (h : 60 + gn < n + mn) :
    Calls Try.prog 53 #[fv b a n ca a' n' ca', .slice ga gn gca, .slice ma mn mca] w fun e w' => Below w.heap.size w w' ∧ e = .returned (.tuple #[fv 0 none 0 0 none 0 0, .bool false]) := by
  have hd : (60 : Int) < (n : Int) - (gn : Int) + (mn : Int) := by omega
  go_enter Try.func53, Try.ntmps53
  go_wp2
  refine bodyPost_ret (v := .tuple #[fv 0 none 0 0 none 0 0, .bool false]) (by simp [results, Try.results53, go_sem]) rfl ?_
  exact ⟨ba2 _ _ _, rfl⟩

set_option maxHeartbeats 4000000 in
set_option maxRecDepth 20000 in
theorem exch_yes (b : Int) (a : Option Addr) (ca : Nat) (a' : Option Addr) (ca' : Nat) (l : List Ex) (ga : Option Addr) (gca : Nat) (gone : List Ex) (ma : Option Addr) (mca : Nat) (come : List Ex) (w : World) (hl : l.length ≤ 60) (hgl : gone.length ≤ 100) (hcl : come.length ≤ 10) (hca : l.length ≤ ca) (hca' : l.length ≤ ca') (hok : l.length + come.length ≤ 60 + gone.length)
    (h : Pl b l) (hg : ∀ x, x ∈ gone → x ∈ l) (hgn : gone.Nodup) (hc : ∀ x, x ∈ come → ∀ y, y ∈ l → y ∉ gone → x.1 ≠ y.1) (hcn : come.Pairwise fun x y => x.1 ≠ y.1) (hne : 0 < gone.length + come.length) (ha : Exs w a l) (ha' : Exs w a' (srt l)) (hga : Exs w ga gone) (hma : Exs w ma come) :
    Calls Try.prog 53 #[fv b a l.length ca a' (srt l).length ca', .slice ga gone.length gca, .slice ma come.length mca] w fun e w' => Below w.heap.size w w' ∧ ∃ v, e = .returned (.tuple #[v, .bool true]) ∧ FreeAt w.heap.size w' v b (exch ltP l gone come) (exch ltS (srt l) gone come) := by
  have hd : ¬ (60 : Int) < (l.length : Int) - (gone.length : Int) + (come.length : Int) := by omega
  have moP := (so_outs ordP h.so hg hgn).2.1
  have moS := (so_outs ordS (gone := gone) h.so_srt (fun x hx => mem_srt.2 (hg x hx)) hgn).2.1
  have cP := fun W h1 h2 h3 => exchangedP_any a ca l ga gca gone ma mca come W (by omega) hgl hcl hca h.so hg hgn (fun x hx y hy => apP (hc x hx y ((moP y).1 hy).1 ((moP y).1 hy).2)) (hcn.imp fun q => apP (Ne.symm q)) hne h1 h2 h3
  have cS := fun W h1 h2 h3 => exchangedS_any a' ca' (srt l) ga gca gone ma mca come W (by rw [len_srt]; omega) hgl hcl (by rw [len_srt]; exact hca') h.so_srt (fun x hx => mem_srt.2 (hg x hx)) hgn (fun x hx y hy => apS (hc x hx y (mem_srt.1 ((moS y).1 hy).1) ((moS y).1 hy).2)) (hcn.imp fun q => apS (Ne.symm q)) hne h1 h2 h3
  have HA : Hid (Exs w a l ∧ Exs w a' (srt l) ∧ Exs w ga gone ∧ Exs w ma come) := ⟨ha, ha', hga, hma⟩
  clear moP moS h hg hgn hc hcn ha ha' hga hma
  generalize hPn : exch ltP l gone come = LP at *
  generalize hSn : exch ltS (srt l) gone come = LS at *
  have HPn : Hid _ := hPn
  have HSn : Hid _ := hSn
  clear hPn hSn
  obtain ⟨n', hn'⟩ : ∃ n', (srt l).length = n' := ⟨_, rfl⟩
  rw [hn'] at cS ⊢
  have HN' : Hid _ := hn'
  clear hn'
  obtain ⟨D, hD⟩ : ∃ D, w.heap.size = D := ⟨_, rfl⟩
  obtain ⟨W0, hW0⟩ : ∃ W0, (((w.alloc (.cells #[.int .i64 b, .slice a l.length ca, .slice a' n' ca'] 29)).alloc (.cells #[.int .i64 0, .slice none 0 0, .slice none 0 0] 29)).alloc (.cells #[.slice a l.length ca, .func (.func 65) #[] #[]] 81)).alloc (.cells #[.slice a' n' ca', .func (.func 59) #[] #[]] 81) = W0 := ⟨_, rfl⟩
  have g0 : Below w.heap.size w W0 := by subst hW0; exact ba4 _ _ _ _ _
  obtain ⟨B1, B2, B3, B4⟩ : W0.heap[D]? = some (.cells #[.int .i64 b, .slice a l.length ca, .slice a' n' ca'] 29 (0, 0)) ∧ W0.heap[D + 1]? = some (.cells #[.int .i64 0, .slice none 0 0, .slice none 0 0] 29 (0, 0)) ∧ W0.heap[D + 1 + 1]? = some (.cells #[.slice a l.length ca, .func (.func 65) #[] #[]] 81 (0, 0)) ∧ W0.heap[D + 1 + 1 + 1]? = some (.cells #[.slice a' n' ca', .func (.func 59) #[] #[]] 81 (0, 0)) := by subst hW0 hD; exact al4 _ _ _ _ _
  have z0 := box_lt B4
  have SB : Hid (∀ W, Out (D + 1) (D + 1 + 1) W0 W → W.cell? ⟨D, 0, none⟩ = some (.int .i64 b) ∧ W.cell? ⟨D + 1 + 1, 0, none⟩ = some (.slice a l.length ca) ∧ W.cell? ⟨D + 1 + 1, 1, none⟩ = some (.func (.func 65) #[] #[]) ∧ W.cell? ⟨D + 1 + 1 + 1, 0, none⟩ = some (.slice a' n' ca') ∧ W.cell? ⟨D + 1 + 1 + 1, 1, none⟩ = some (.func (.func 59) #[] #[]) ∧ Out (D + 1) (D + 1 + 1) W0 W) := fun W z => by
    obtain ⟨h0, -, -, -⟩ := box3_cells (box_out B1 z (by omega))
    obtain ⟨h1, h2, -, -⟩ := box2_cells (box_out B3 z (by omega))
    obtain ⟨h3, h4, -, -⟩ := box2_cells (box_out B4 z (by omega))
    exact ⟨h0, h1, h2, h3, h4, z⟩
  have HB2 : Hid (W0.heap[D + 1]? = _) := B2
  clear B1 B2 B3 B4
  have Hlow : Hid (∀ W, Out (D + 1) (D + 1 + 1) W0 W → Below w.heap.size w W) := fun W z => g0.trans ((z.below (by omega)).mono (by omega))
  go_enter Try.func53, Try.ntmps53
  go_wp2
  clear hW0
  have tok1 : Hid True := trivial
  go_region_held3 (fun W => W.cell? ⟨D, 0, none⟩ = some (.int .i64 b) ∧ W.cell? ⟨D + 1 + 1, 0, none⟩ = some (.slice a l.length ca) ∧ W.cell? ⟨D + 1 + 1, 1, none⟩ = some (.func (.func 65) #[] #[]) ∧ W.cell? ⟨D + 1 + 1 + 1, 0, none⟩ = some (.slice a' n' ca') ∧ W.cell? ⟨D + 1 + 1 + 1, 1, none⟩ = some (.func (.func 59) #[] #[]) ∧ Out (D + 1) (D + 1 + 1) W0 W)
    ((refine SB.out _ ?_; first | assumption | exact Out.drew1 _ | exact Out.trans (by assumption) (box3_out _ _ _ _ _)))
    (first
    | (go_at_call 66; have tok2 := tok1; clear tok1; refine (cP _ (HA.out.1.below (Hlow.out _ (Out.drew1 _))) (HA.out.2.2.1.below (Hlow.out _ (Out.drew1 _))) (HA.out.2.2.2.below (Hlow.out _ (Out.drew1 _)))).mono ?_; rintro e w3 ⟨b3, y, cy, rfl, my⟩; have o3 : Out (D + 1) (D + 1 + 1) W0 w3 := (Out.drew1 W0).trans (Out.of_below b3); have B3 : Hid (w3.heap[D + 1]? = some (.cells #[.int .i64 0, .slice none 0 0, .slice none 0 0] 29 (0, 0))) := box_on (w := W0.drew) HB2.out b3)
    | (go_at_call 66; have tok3 := o3; refine (cS _ (HA.out.2.1.below (Hlow.out _ o3)) (HA.out.2.2.1.below (Hlow.out _ o3)) (HA.out.2.2.2.below (Hlow.out _ o3))).mono ?_; rintro e w4 ⟨b4, z, cz, rfl, mz⟩; have o4 : Out (D + 1) (D + 1 + 1) W0 w4 := o3.trans (Out.of_below b4); have B4 : Hid (w4.heap[D + 1]? = some (.cells #[.int .i64 0, .slice none 0 0, .slice none 0 0] 29 (0, 0))) := box_on B3.out b4; obtain ⟨r0, r1, r2, q0, q1, q2⟩ := box3_cells B4.out))
  all_goals go_wp2
  all_goals
    obtain ⟨W5, hW5⟩ : ∃ W5, ((w4.setCell ⟨D + 1, 0, none⟩ (.int .i64 b)).setCell ⟨D + 1, 1, none⟩ (.slice y LP.length cy)).setCell ⟨D + 1, 2, none⟩ (.slice z LS.length cz) = W5 := ⟨_, rfl⟩
    have o5 : Out (D + 1) (D + 1 + 1) w4 W5 := by subst hW5; exact box3_out _ _ _ _ _
    have R : W5.heap[D + 1]? = some (.cells #[.int .i64 b, .slice y LP.length cy, .slice z LS.length cz] 29 (0, 0)) := by subst hW5; exact box3_set B4.out
    rw [hW5]
    clear hW5 r0 r1 r2 q0 q1 q2
    obtain ⟨t0, t1, t2, -, -, -⟩ := box3_cells R
    have hP := HPn.out
    have hS := HSn.out
    have hN := HN'.out
    have z3 := b3.size
    have z4 := b4.size
    have z5 := o5.size
    have z3' : W0.heap.size ≤ w3.heap.size := z3
    have my' : Own w3 W0.heap.size w3.heap.size y LP := my
    refine bodyPost_ret (v := .tuple #[fv b y LP.length cy z LS.length cz, .bool true]) (by simp [results, Try.results53, go_sem, t0, t1, t2]) rfl ?_
    refine ⟨by first | exact Hlow.out _ (o4.trans o5) | exact (hD ▸ Hlow.out _ (o4.trans o5)), _, rfl, y, cy, z, cz, w3.heap.size, rfl, by omega, by omega, ?_, ?_⟩
    · exact ((my'.below b4).out o5 (.inr (by omega))).mono (by omega) (Nat.le_refl _)
    · exact (mz.out o5 (.inr (by omega))).mono (Nat.le_refl _) (by omega)
end Go.Proofs.Ytoodioaflaklmaa
