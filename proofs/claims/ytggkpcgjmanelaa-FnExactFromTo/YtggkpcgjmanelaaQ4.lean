import Derived.Test.YtggkpcgjmanelaaQ1
import Derived.Test.YtggkpcgjmanelaaQ3
/- FromTo, the program's. -/
namespace Go.Proofs.Ytggkpcgjmanelaa
open Go.ChangeShapes Go.WideShapes Go.ChangeAt Go.RowKit Go.Shelf
set_option linter.unusedVariables false
open Bt

attribute [local go_sem] Oper.semAt_some

theorem ftL_stop {fr to : Int} {l pre : List Int} {x : Int} (hl : Ris l) (hp : (pre ++ [x]) <+: l) (hx : to ≤ x) : ftL fr to pre = ftL fr to l := by
  obtain ⟨rest, rfl⟩ := hp
  have h1 := (List.pairwise_append.1 hl.1).2.2
  have hr : ftL fr to rest = [] := by
    refine List.filter_eq_nil_iff.2 fun y hy => ?_
    have := h1 x (by simp) y hy
    simp
    intro _
    omega
  have hx0 : ftL fr to [x] = [] := by
    refine List.filter_eq_nil_iff.2 fun y hy => ?_
    simp at hy
    subst hy
    simp
    intro _
    omega
  have key : ftL fr to (pre ++ [x] ++ rest) = ftL fr to pre ++ ftL fr to [x] ++ ftL fr to rest := by simp only [ftL, List.filter_append]
  rw [key, hr, hx0, List.append_nil, List.append_nil]
set_option maxRecDepth 100000 in
set_option maxHeartbeats 4000000 in
theorem implFrom_any (N : List Nd) (a : Option Addr) (cap : Nat) (root : Int) (fr to : Int) (o : Option Tr) (w : World) (hN : Nodes w a N) (hn : N.length ≤ 1048576) (hbk : bk N N.length ≤ 1048576) (ho : ∀ t, o = some t ↔ Is N root t) :
    Calls Try.prog 21 #[tv a N.length cap root, .int .i64 fr, .int .i64 to] w fun e w' => Below w.heap.size w w' ∧ ∃ u, e = .returned (.tuple #[u, .bool o.isSome]) ∧ ∃ g, IB w' w.heap.size w'.heap.size u (fOf fr to o) g := by
  have cR := fun W h => rootOf_any N a cap root o W h hn hbk ho
  obtain ⟨W0, hW0⟩ : ∃ W0, ((w.alloc (.cells #[.slice a N.length cap, .int .i64 root] 27)).alloc (.cells #[.int .i64 fr] 3)).alloc (.cells #[.int .i64 to] 3) = W0 := ⟨_, rfl⟩
  have q0 : Below w.heap.size w W0 := by subst hW0; exact ba3 _ _ _ _
  obtain ⟨x0, x1, x2⟩ : W0.heap[w.heap.size]? = some (.cells #[.slice a N.length cap, .int .i64 root] 27 (0, 0)) ∧ W0.heap[w.heap.size + 1]? = some (.cells #[.int .i64 fr] 3 (0, 0)) ∧ W0.heap[w.heap.size + 1 + 1]? = some (.cells #[.int .i64 to] 3 (0, 0)) := by subst hW0; exact al3 _ _ _ _
  obtain ⟨y0, y1, -, -⟩ := box2_cells x0
  refine (callsIn_wide (n := 8)).1 ?_
  refine callsIn_of_wp_marks Try.func21 rfl trivial ?_ rfl
  simp only [Try.ntmps21, List.size_toArray, List.length_cons, List.length_nil, Nat.reduceAdd, Nat.reduceSub, Array.replicate_succ, Array.replicate_zero, List.push_toArray, List.append_toArray, List.nil_append, List.cons_append]
  cases o with
  | none =>
    gi_wp2_with (refine ⟨trivial, ?_⟩; gi_at_call 51; refine (callsIn_wide.2 (cR _ (hN.below q0))).mono ?_; rintro e w1 ⟨b1, v, rfl, hv⟩)
    exact ⟨.tuple #[.slice none 0 0, .bool false], by simp [results, Try.f21, go_sem], Below.comp q0 b1, _, rfl, 0, IB.nil⟩
  | some t =>
    have hs := (ho t).1 rfl
    obtain ⟨hwf, hfl⟩ := is_small hs
    gi_wp2_with (first
      | (refine ⟨trivial, ?_⟩; gi_at_call 51; refine (callsIn_wide.2 (cR _ (hN.below q0))).mono ?_; rintro e w1 ⟨b1, v, rfl, hv⟩; obtain ⟨T, u, eu⟩ := (hv t rfl).form; subst eu)
      | (refine ⟨trivial, ?_⟩; gi_at_call 54; refine (keysIn_any _ T u _).mono ?_; rintro e w2 ⟨rfl, rfl⟩))
    have hin := hv t rfl
    have hris : Ris (flat t) := hs.2.2.2.1
    have g1 := Below.comp q0 b1
    have X1 := box_on x1 b1
    have X2 := box_on x2 b1
    obtain ⟨W2, hW2⟩ : ∃ W2, (w1.alloc (.cells #[.slice none 0 0] 23)).alloc (.cells #[.iface T u] 75) = W2 := ⟨_, rfl⟩
    rw [hW2]
    have hB0 : Below w1.heap.size w1 W2 := by rw [← hW2]; exact ba2 _ _ _
    have hsz : W2.heap.size = w1.heap.size + 2 := by rw [← hW2]; simp
    obtain ⟨p0, p1⟩ : W2.heap[w1.heap.size]? = some (.cells #[.slice none 0 0] 23 (0, 0)) ∧ W2.heap[w1.heap.size + 1]? = some (.cells #[.iface T u] 75 (0, 0)) := by rw [← hW2]; exact al2 _ _ _
    have fin : ∀ (Df : Nat) (W : World), W2.heap.size ≤ Df → BxR W w1.heap.size (ftL fr to (flat t)) → Below w1.heap.size w1 W → W.heap[Df]? = some (.deferred (some [])) → ∃ v, W.cell? ⟨w1.heap.size, 0, none⟩ = some v ∧ Below w.heap.size w (W.putObj Df (.deferred none)) ∧ ∃ g, IB (W.putObj Df (.deferred none)) w.heap.size (W.putObj Df (.deferred none)).heap.size v (fOf fr to (some t)) g := by
      rintro Df W hDf ⟨v, c0, own⟩ hB hKd
      have gp' := grownBy_putObj' W Df (.deferred none)
      have own' := own_kept own gp' (fun r e => by cases e; exact ⟨_, hKd, rfl⟩)
      obtain ⟨g, hg⟩ := OwnI.ib own'
      have hz : w.heap.size ≤ w1.heap.size := g1.size
      exact ⟨v, (cell1 c0).1, (g1.trans (hB.mono hz)).trans (belowK_b (w := w1) hz W Df _ _ (by omega) hKd rfl rfl), g, hg.mono (by omega) (Nat.le_refl _)⟩
    clear hW2 hv cR
    refine wpIn_rangeFunc_ownH rfl (by omega) (gf := 82) (lb := #[.pointer (some ⟨w1.heap.size + 1, 0, none⟩)]) rfl trivial (enters_of Try.func82 (by kernel_rfl) rfl)
      (keys_stops _ 101 (.iface T u) t w1 W2 (w1.heap.size + 1) hin hwf hB0 p1 (by omega)) Kc.trans (Kc.put (by omega)) (Below.refl _ _) (fun _ => rfl)
      (fun pre W => BxR W w1.heap.size (ftL fr to pre) ∧ Below w1.heap.size w1 W)
      (fun c ys W => (c = .exit 0 ∧ ∃ pre x, ys = pre ++ [x] ∧ to ≤ x ∧ BxR W w1.heap.size (ftL fr to pre)) ∧ Below w1.heap.size w1 W)
      (OwnFrom.and (fun s A B row hs hg hr => by obtain ⟨u, h1, h2⟩ := hs; exact ⟨u, (grownBy_keeps_cells hg (fun r e => (hr r e).2) h1 rfl).trans h1, own_kept h2 hg (fun r e => (hr r e).2)⟩) (ownFrom_below (Nat.le_refl _) (by omega)))
      (fun c => OwnFrom.and (fun s A B row hs hg hr => by obtain ⟨e0, pre, x, e1, e2, u, h1, h2⟩ := hs; exact ⟨e0, pre, x, e1, e2, u, (grownBy_keeps_cells hg (fun r e => (hr r e).2) h1 rfl).trans h1, own_kept h2 hg (fun r e => (hr r e).2)⟩) (ownFrom_below (Nat.le_refl _) (by omega)))
      ⟨⟨_, p0, OwnI.nil _ _⟩, hB0⟩
      (fun x a' W => a' = { tmps := #[tv a N.length cap root, .int .i64 fr, .int .i64 to, .pointer (some ⟨w.heap.size, 0, none⟩), .pointer (some ⟨w.heap.size + 1, 0, none⟩), .pointer (some ⟨w.heap.size + 1 + 1, 0, none⟩), .slice none 0 0, .bool false, .iface T u, .bool true, .pointer (some ⟨w1.heap.size, 0, none⟩), iv x, .tuple #[.iface T u, .bool true], .agg #[.slice a N.length cap, .int .i64 root], .tuple #[.iface T u, .bool true], .iface T u, .bool true, .bool true, .bool false, .iface T u, .func (.func 82) #[] #[.pointer (some ⟨w1.heap.size + 1, 0, none⟩)], iv x, undef, undef, undef, undef, undef, undef, undef, undef, undef, undef, undef], defers := [] })
      (fun x a' => Own.from (fun s A B row hs hg hr => hs) _) ?assign ?body ?done ?stop
    case assign =>
      rintro l pre x W K hI hK
      gi_wp2
      exact hK _ _ ((keeps_of_below (Below.refl _ _)).from _) (Kc.refl _ _) hI (by simp)
    case body =>
      rintro l pre x a' W hl hr ⟨⟨u', c0, own0⟩, hB⟩ rfl hlen
      obtain ⟨r1, -⟩ := cell1 (box_on X1 hB)
      obtain ⟨r2, -⟩ := cell1 (box_on X2 hB)
      by_cases h2 : to ≤ x
      · gi_wp2
        exact ⟨(keeps_of_below (Below.refl _ _)).from _, ⟨rfl, pre, x, rfl, h2, u', c0, own0⟩, hB⟩
      · have hsn := ftL_snoc fr to pre x
        have Hsn : Hid _ := hsn
        clear hsn
        by_cases h1 : fr ≤ x
        · rw [if_pos ⟨h1, by omega⟩] at Hsn
          have hpl : (ftL fr to pre).length ≤ 200 := Nat.le_trans (ftL_len _ _ _) (by omega)
          generalize ftL fr to pre = acc at *
          obtain ⟨y0, z0⟩ := cell1 c0
          obtain ⟨o', co, rfl⟩ := owns_form own0
          obtain ⟨Wa, hWa⟩ : ∃ Wa, W.alloc (.cells #[iv x] 3) = Wa := ⟨_, rfl⟩
          have ba : Below W.heap.size W Wa := by subst hWa; exact below_alloc _ _
          have own1 := owns_below own0 ba
          have c1 := box_on c0 ba
          have zz : w1.heap.size + 1 ≤ W.heap.size := box_lt c0
          have za : w1.heap.size + 1 ≤ Wa.heap.size := Nat.le_trans zz ba.size
          obtain ⟨i, hi, hz0, hz1, hz2⟩ := info_parts info3
          have src := new_one W (iv x) 3
          rw [hWa] at src
          gi_wp2_with (gi_at_builtin; refine wpListIn_append_own _ rfl _ _ 23 rfl (w1.heap.size + 1) 3 i _ 1 8 Try.underlying23 hi hz0 hz1 hz2 rfl (by decide) (.slice o' acc.length co) acc.length (cis acc) rfl own1 ⟨W.heap.size, 0, none⟩ 1 1 [iv x] rfl rfl src (by simp [Value.oneCell']) (by unfold maxLen; omega) (by omega) za ?_; intro v3 w3 own3 gr3 _; have c3 : w3.heap[w1.heap.size]? = some (.cells #[.slice o' acc.length co] 23 (0, 0)) := (gr3.block _ (box_lt c1) (fun e => by have := (own_row own1 _ e.symm).1; omega)).trans c1; obtain ⟨y3, z3⟩ := cell1 c3; obtain ⟨o3, co3, eo3⟩ := owns_form own3; subst eo3)
          have hrw := own_row own1
          have g3 : Below w1.heap.size w1 w3 := (hB.trans (ba.mono (by omega))).trans (Grown.below gr3 (by omega) (fun k e => by have := (hrw k e).1; omega))
          refine ⟨?_, ?_, ⟨.slice o3 (acc.length + 1) co3, ?_, ?_⟩, g3.setCell (by simp) _⟩
          · exact (((keeps_of_below ba).trans (KeepsOthers.of_grownBy gr3 (fun j o e h => by obtain ⟨-, cur, hc⟩ := hrw j e; rw [hc] at h; simp only [Option.some.injEq] at h; subst h; rfl))).trans (KeepsOthers.setCell _ _ _)).from _
          · exact ((Kc.of_below ba (by omega)).trans (Kc.grown gr3 (by omega) (fun k e => by have := (hrw k e).1; omega) (fun k e c z h => by obtain ⟨-, cur, hc⟩ := hrw k e; rw [hc] at h; simp at h))).trans (Kc.set c3 (by decide) (by omega))
          · rw [block_set c3]; rfl
          · rw [Hsn.out]
            have : OwnI w3 (w1.heap.size + 1) (.slice o3 (acc.length + 1) co3) (acc ++ [x]) := by simpa [OwnI, cis] using own3
            exact this.kept (grownBy_setCell' w3 w1.heap.size _) (by
              cases hb : (Value.slice o3 (acc.length + 1) co3).ownBlock with
              | none => exact .inl rfl
              | some k => exact .inr fun e => by have := (own_row this k hb).1; simp at e; omega)
        · rw [if_neg (fun h => h1 h.1), List.append_nil] at Hsn
          gi_wp2
          exact ⟨(keeps_of_below (Below.refl _ _)).from _, Kc.refl _ _, ⟨u', c0, by rw [Hsn.out]; exact own0⟩, hB⟩
    case done =>
      rintro Df ys W hDf hys ⟨hbx, hB⟩ hKd
      subst hys
      obtain ⟨r, hr, hb, hg⟩ := fin Df W hDf hbx hB hKd
      gi_wp2
      refine ⟨by simp, .inl ⟨_, _, rfl, run_takeDeferred hKd, ?_⟩⟩
      exact ⟨.tuple #[r, .bool true], by simp [results, Try.f21, go_sem], hb, r, rfl, hg⟩
    case stop =>
      rintro Df c ys W hDf hys ⟨⟨rfl, pre, x, rfl, hx, hbx⟩, hB⟩ hKd
      rw [ftL_stop hris hys hx] at hbx
      obtain ⟨r, hr, hb, hg⟩ := fin Df W hDf hbx hB hKd
      gi_wp2
      refine ⟨by simp, .inl ⟨_, _, rfl, run_takeDeferred hKd, ?_⟩⟩
      exact ⟨.tuple #[r, .bool true], by simp [results, Try.f21, go_sem], hb, r, rfl, hg⟩
end Go.Proofs.Ytggkpcgjmanelaa
