import Derived.Test.YtggkpcgjmanelaaE3
import Derived.Test.YtggkpcgjmanelaaB2
import Derived.OwnWalkIn
/- slices.AppendSeq and slices.Collect over the keys of a node. -/
namespace Go.Proofs.Ytggkpcgjmanelaa
open Go.ChangeShapes Go.WideShapes Go.ChangeAt Go.RowKit Go.Shelf
set_option linter.unusedVariables false
open Bt

attribute [local go_sem] Oper.semAt_some

theorem own_row {w : World} {B : Nat} {e : TypeId} {size : Nat} {v : Value} {n : Nat} {xs : List Value} (h : w.ownsRow B e size v n xs) : ∀ k, v.ownBlock = some k → B ≤ k ∧ ∃ cur, w.heap[k]? = some (.cells cur e (0, 0)) := by
  intro k hk
  rcases h.2 with ⟨rfl, _⟩ | ⟨g, cap, cur, rfl, hb, hg, _⟩
  · simp [Value.ownBlock] at hk
  · simp [Value.ownBlock] at hk
    subst hk
    exact ⟨hb, cur, hg⟩
theorem own_kept {w w' : World} {B : Nat} {e : TypeId} {size : Nat} {v : Value} {n : Nat} {xs : List Value} {row : Option Nat} (h : w.ownsRow B e size v n xs) (hg : w.grownBy w' row) (hr : ∀ r, row = some r → ∃ o : Obj, w.heap[r]? = some o ∧ o.isCells = false) : w'.ownsRow B e size v n xs := by
  refine h.kept hg ?_
  cases hb : v.ownBlock with
  | none => exact .inl rfl
  | some k =>
  refine .inr fun hrow => ?_
  obtain ⟨-, cur, hc⟩ := own_row h k hb
  obtain ⟨o, ho, hn⟩ := hr k hrow.symm
  rw [hc] at ho
  simp only [Option.some.injEq] at ho
  subst ho
  simp [Obj.isCells] at hn
/-- A box that holds a row which may be appended to. -/
def BxR (W : World) (s : Nat) (l : List Int) : Prop := ∃ v, W.heap[s]? = some (.cells #[v] 23 (0, 0)) ∧ OwnI W (s + 1) v l
set_option maxRecDepth 100000 in
set_option maxHeartbeats 4000000 in
theorem appendSeq_any (d : Nat) (v : Value) (t : Tr) (w : World) (Bs : Nat) (hs : IN w d v t) (hwf : Wf t) (hN : (flat t).length ≤ 100000000) (hBs : w.heap[Bs]? = some (.cells #[v] 75 (0, 0))) :
    Calls Try.prog 81 #[.slice none 0 0, .func (.func 82) #[] #[.pointer (some ⟨Bs, 0, none⟩)]] w fun e w' => Below w.heap.size w w' ∧ ∃ u, e = .returned u ∧ OwnI w' w.heap.size u (flat t) := by
  refine (callsIn_wide (n := 8)).1 ?_
  refine callsIn_of_wp_marks Try.func81 rfl trivial ?_ rfl
  simp only [Try.ntmps81, List.size_toArray, List.length_cons, List.length_nil, Nat.reduceAdd, Nat.reduceSub, Array.replicate_succ, Array.replicate_zero, List.push_toArray, List.append_toArray, List.nil_append, List.cons_append]
  gi_wp2
  obtain ⟨W0, hW0⟩ : ∃ W0, w.alloc (.cells #[.slice none 0 0] 23) = W0 := ⟨_, rfl⟩
  rw [hW0]
  have hB0 : Below w.heap.size w W0 := by rw [← hW0]; exact below_alloc _ _
  have hsz : W0.heap.size = w.heap.size + 1 := by rw [← hW0]; simp
  have x0 : W0.heap[w.heap.size]? = some (.cells #[.slice none 0 0] 23 (0, 0)) := by rw [← hW0]; exact al1 _ _
  have x1 := box_on hBs hB0
  clear hW0
  refine wpIn_rangeFunc_ownH rfl (by omega) (gf := 82) (lb := #[.pointer (some ⟨Bs, 0, none⟩)]) rfl trivial (enters_of Try.func82 (by kernel_rfl) rfl)
    (keys_stops _ d v t w W0 Bs hs hwf hB0 x1 hN) Kc.trans (Kc.put (by omega)) (Below.refl _ _) (fun _ => rfl)
    (fun pre W => BxR W w.heap.size pre ∧ Below w.heap.size w W)
    (fun _ _ _ => False)
    (OwnFrom.and (fun s A B row hs hg hr => by obtain ⟨u, h1, h2⟩ := hs; exact ⟨u, (grownBy_keeps_cells hg (fun r e => (hr r e).2) h1 rfl).trans h1, own_kept h2 hg (fun r e => (hr r e).2)⟩) (ownFrom_below (Nat.le_refl _) (by omega)))
    (fun c => Own.from (fun s A B row hs hg hr => hs) _)
    ⟨⟨_, x0, OwnI.nil _ _⟩, hB0⟩
    (fun x a' W => a' = { tmps := #[.slice none 0 0, .func (.func 82) #[] #[.pointer (some ⟨Bs, 0, none⟩)], .pointer (some ⟨w.heap.size, 0, none⟩), undef, .slice none 0 0, iv x, .func (.func 82) #[] #[.pointer (some ⟨Bs, 0, none⟩)], iv x, undef, undef, undef, undef, undef], defers := [] })
    (fun x a' => Own.from (fun s A B row hs hg hr => hs) _) ?assign ?body ?done ?stop
  case assign =>
    rintro l pre x W K hI hK
    gi_wp2
    exact hK _ _ ((keeps_of_below (Below.refl _ _)).from _) (Kc.refl _ _) hI (by simp)
  case body =>
    rintro l pre x a' W hl hr ⟨⟨u, c0, own0⟩, hB⟩ rfl hlen
    obtain ⟨y0, z0⟩ := cell1 c0
    obtain ⟨o, co, rfl⟩ := owns_form own0
    obtain ⟨Wa, hWa⟩ : ∃ Wa, W.alloc (.cells #[iv x] 3) = Wa := ⟨_, rfl⟩
    have ba : Below W.heap.size W Wa := by subst hWa; exact below_alloc _ _
    have own1 := owns_below own0 ba
    have c1 := box_on c0 ba
    have zz : w.heap.size + 1 ≤ W.heap.size := box_lt c0
    have za : w.heap.size + 1 ≤ Wa.heap.size := Nat.le_trans zz ba.size
    obtain ⟨i, hi, hz0, hz1, hz2⟩ := info_parts info3
    have src := new_one W (iv x) 3
    rw [hWa] at src
    gi_wp2_with (gi_at_builtin; refine wpListIn_append_own _ rfl _ _ 23 rfl (w.heap.size + 1) 3 i _ 1 8 Try.underlying23 hi hz0 hz1 hz2 rfl (by decide) (.slice o pre.length co) pre.length (cis pre) rfl own1 ⟨W.heap.size, 0, none⟩ 1 1 [iv x] rfl rfl src (by simp [Value.oneCell']) (by unfold maxLen; omega) (by omega) za ?_; intro v3 w3 own3 gr3 _; have c3 : w3.heap[w.heap.size]? = some (.cells #[.slice o pre.length co] 23 (0, 0)) := (gr3.block _ (box_lt c1) (fun e => by have := (own_row own1 _ e.symm).1; omega)).trans c1; obtain ⟨y3, z3⟩ := cell1 c3; obtain ⟨o3, co3, eo3⟩ := owns_form own3; subst eo3)
    have hrw := own_row own1
    have g3 : Below w.heap.size w w3 := (hB.trans (ba.mono (by omega))).trans (Grown.below gr3 (by omega) (fun k e => by have := (hrw k e).1; omega))
    refine ⟨?_, ?_, ⟨.slice o3 (pre.length + 1) co3, ?_, ?_⟩, g3.setCell (by simp) _⟩
    · exact (((keeps_of_below ba).trans (KeepsOthers.of_grownBy gr3 (fun j o e h => by obtain ⟨-, cur, hc⟩ := hrw j e; rw [hc] at h; simp only [Option.some.injEq] at h; subst h; rfl))).trans (KeepsOthers.setCell _ _ _)).from _
    · exact ((Kc.of_below ba (by omega)).trans (Kc.grown gr3 (by omega) (fun k e => by have := (hrw k e).1; omega) (fun k e c z h => by obtain ⟨-, cur, hc⟩ := hrw k e; rw [hc] at h; simp at h))).trans (Kc.set c3 (by decide) (by omega))
    · rw [block_set c3]; rfl
    · have : OwnI w3 (w.heap.size + 1) (.slice o3 (pre.length + 1) co3) (pre ++ [x]) := by simpa [OwnI, cis] using own3
      exact this.kept (grownBy_setCell' w3 w.heap.size _) (by
        cases hb : (Value.slice o3 (pre.length + 1) co3).ownBlock with
        | none => exact .inl rfl
        | some k => exact .inr fun e => by have := (own_row this k hb).1; simp at e; omega)
  case done =>
    rintro Df ys W hDf hys ⟨⟨u, c0, own0⟩, hB⟩ hKd
    obtain ⟨y0, z0⟩ := cell1 c0
    gi_wp2
    refine ⟨by simp, .inl ⟨_, _, rfl, run_takeDeferred hKd, ?_⟩⟩
    subst hys
    have gp' := grownBy_putObj' W Df (.deferred none)
    refine ⟨u, by simp [results, Try.f81, go_sem], hB.trans (belowK_b (w := w) (Nat.le_refl _) W Df _ _ (by omega) hKd rfl rfl), u, rfl, owns_mono (own_kept own0 gp' (fun r e => by cases e; exact ⟨_, hKd, rfl⟩)) (by omega)⟩
  case stop =>
    rintro Df c pre W hDf hpre h
    exact h.elim
theorem collect_any (d : Nat) (v : Value) (t : Tr) (w : World) (Bs : Nat) (hs : IN w d v t) (hwf : Wf t) (hN : (flat t).length ≤ 100000000) (hBs : w.heap[Bs]? = some (.cells #[v] 75 (0, 0))) :
    Calls Try.prog 53 #[.func (.func 82) #[] #[.pointer (some ⟨Bs, 0, none⟩)]] w fun e w' => Below w.heap.size w w' ∧ ∃ u, e = .returned u ∧ OwnI w' w.heap.size u (flat t) := by
  have cA := appendSeq_any d v t w Bs hs hwf hN hBs
  go_enter Try.func53, Try.ntmps53
  go_wp2_with fail
  refine cA.mono ?_
  rintro e w1 ⟨b1, u, rfl, hu⟩
  go_wp2_with fail
  go_ret
  exact ⟨b1, u, rfl, hu⟩
end Go.Proofs.Ytggkpcgjmanelaa
