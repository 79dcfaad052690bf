import Derived.Test.YtggkpcgjmanelaaE3
/- The program: whether keys rise; the root of a good tree. -/
namespace Go.Proofs.Ytggkpcgjmanelaa
open Go.ChangeShapes Go.WideShapes Go.ChangeAt Go.RowKit Go.Shelf
set_option linter.unusedVariables false
open Bt

attribute [local go_sem] Oper.semAt_some

/-- The last key, or one ahead of all. -/
def lst (l : List Int) : Int := l.getLast?.getD (-1)
theorem lst_nil : lst [] = -1 := rfl
theorem lst_snoc (l : List Int) (x : Int) : lst (l ++ [x]) = x := by simp [lst]
theorem snoc_or (l : List Int) : l = [] ∨ ∃ m y, l = m ++ [y] := by
  rcases List.eq_nil_or_concat l with h | ⟨m, y, h⟩
  · exact .inl h
  · exact .inr ⟨m, y, by simpa using h⟩
theorem ris_snoc {l : List Int} {x : Int} : Ris (l ++ [x]) ↔ Ris l ∧ lst l < x ∧ x ≤ 1000000 := by
  constructor
  · intro h
    have h1 := List.pairwise_append.1 h.1
    refine ⟨h.sub (List.sublist_append_left _ _), ?_, (h.2 x (by simp)).2⟩
    rcases snoc_or l with rfl | ⟨m, y, rfl⟩
    · have := (h.2 x (by simp)).1
      rw [lst_nil]; omega
    · rw [lst_snoc]
      exact h1.2.2 y (by simp) x (by simp)
  · rintro ⟨h, h1, h2⟩
    have key : ∀ a, a ∈ l → a < x := by
      intro a ha
      rcases snoc_or l with rfl | ⟨m, y, rfl⟩
      · simp at ha
      · rw [lst_snoc] at h1
        rcases List.mem_append.1 ha with ha | ha
        · have := (List.pairwise_append.1 h.1).2.2 a ha y (by simp)
          omega
        · simp at ha; omega
    refine ⟨List.pairwise_append.2 ⟨h.1, by simp, fun a ha b hb => by simp at hb; subst hb; exact key a ha⟩, fun a ha => ?_⟩
    rcases List.mem_append.1 ha with ha | ha
    · exact h.2 a ha
    · simp at ha
      subst ha
      refine ⟨?_, h2⟩
      rcases snoc_or l with rfl | ⟨m, y, rfl⟩
      · rw [lst_nil] at h1; omega
      · rw [lst_snoc] at h1
        have := (h.2 y (by simp)).1
        omega
theorem ris_nil : Ris [] := ⟨List.Pairwise.nil, by simp⟩
set_option maxRecDepth 100000 in
set_option maxHeartbeats 4000000 in
theorem isRising_any (d : Nat) (v : Value) (t : Tr) (w : World) (hs : IN w d v t) (hwf : Wf t) (hN : (flat t).length ≤ 100000000) :
    Calls Try.prog 79 #[v] w fun e w' => (∃ r, e = .returned (.bool r) ∧ (r = true ↔ Ris (flat t) ∧ (flat t).length ≤ 200)) ∧ Below w.heap.size w w' := by
  obtain ⟨T, u, rfl⟩ := hs.form
  refine (callsIn_wide (n := 8)).1 ?_
  refine callsIn_of_wp_marks Try.func79 rfl trivial ?_ rfl
  simp only [Try.ntmps79, List.size_toArray, List.length_cons, List.length_nil, Nat.reduceAdd, Nat.reduceSub, Array.replicate_succ, Array.replicate_zero, List.push_toArray, List.append_toArray, List.nil_append, List.cons_append]
  gi_wp2_with (refine ⟨trivial, ?_⟩; gi_at_call 54; refine (keysIn_any _ T u _).mono ?_; rintro e w1 ⟨rfl, rfl⟩)
  obtain ⟨W0, hW0⟩ : ∃ W0, ((w.alloc (.cells #[.bool false] 4)).alloc (.cells #[.int .i64 (-1)] 3)).alloc (.cells #[.iface T u] 75) = W0 := ⟨_, rfl⟩
  rw [hW0]
  have hB0 : Below w.heap.size w W0 := by rw [← hW0]; exact ba3 _ _ _ _
  have hsz : W0.heap.size = w.heap.size + 3 := by rw [← hW0]; simp
  obtain ⟨x0, x1, x2⟩ : W0.heap[w.heap.size]? = some (.cells #[.bool false] 4 (0, 0)) ∧ W0.heap[w.heap.size + 1]? = some (.cells #[.int .i64 (-1)] 3 (0, 0)) ∧ W0.heap[w.heap.size + 1 + 1]? = some (.cells #[.iface T u] 75 (0, 0)) := by rw [← hW0]; exact al3 _ _ _ _
  clear hW0
  refine wpIn_rangeFunc_ownH rfl (by omega) (gf := 82) (lb := #[.pointer (some ⟨w.heap.size + 1 + 1, 0, none⟩)]) rfl trivial (enters_of Try.func82 (by kernel_rfl) rfl)
    (keys_stops _ d (.iface T u) t w W0 (w.heap.size + 1 + 1) hs hwf hB0 x2 hN) Kc.trans (Kc.put (by omega)) (Below.refl _ _) (fun _ => rfl)
    (fun pre W => (Ris pre ∧ (W.heap[w.heap.size]? = some (.cells #[.bool false] 4 (0, 0)) ∧ W.heap[w.heap.size + 1]? = some (.cells #[.int .i64 (lst pre)] 3 (0, 0)))) ∧ Below w.heap.size w W)
    (fun c pre W => (c = .ret ∧ ¬ Ris pre ∧ W.heap[w.heap.size]? = some (.cells #[.bool false] 4 (0, 0))) ∧ Below w.heap.size w W)
    (OwnFrom.and (fun s A B row hs hg hr => ⟨hs.1, (grownBy_keeps_cells hg (fun r e => (hr r e).2) hs.2.1 rfl).trans hs.2.1, (grownBy_keeps_cells hg (fun r e => (hr r e).2) hs.2.2 rfl).trans hs.2.2⟩) (ownFrom_below (Nat.le_refl _) (by omega)))
    (fun c => OwnFrom.and (fun s A B row hs hg hr => ⟨hs.1, hs.2.1, (grownBy_keeps_cells hg (fun r e => (hr r e).2) hs.2.2 rfl).trans hs.2.2⟩) (ownFrom_below (Nat.le_refl _) (by omega)))
    ⟨⟨ris_nil, x0, x1⟩, hB0⟩
    (fun x a' W => a' = { tmps := #[.iface T u, undef, .pointer (some ⟨w.heap.size, 0, none⟩), .pointer (some ⟨w.heap.size + 1, 0, none⟩), iv x, .iface T u, .func (.func 82) #[] #[.pointer (some ⟨w.heap.size + 1 + 1, 0, none⟩)], iv x, undef, undef, undef, undef, undef, undef, undef, undef, undef, undef, undef], defers := [] })
    (fun x a' => Own.from (fun s A B row hs hg hr => hs) _) ?assign ?body ?done ?stop
  case assign =>
    rintro l pre x W K hI hK
    gi_wp2
    exact hK _ _ ((keeps_of_below (Below.refl _ _)).from _) (Kc.refl _ _) hI (by simp)
  case body =>
    rintro l pre x a' W hl hr ⟨⟨hR, c0, c1⟩, hB⟩ rfl hlen
    obtain ⟨y0, z0⟩ := cell1 c0
    obtain ⟨y1, z1⟩ := cell1 c1
    have hrs := ris_snoc (l := pre) (x := x)
    have Hrs : Hid _ := hrs
    clear hrs
    obtain ⟨L, hL⟩ : ∃ L, lst pre = L := ⟨_, rfl⟩
    rw [hL] at y1
    have HL : Hid _ := hL
    clear hL
    by_cases h1 : x ≤ L
    · have hno : ¬ Ris (pre ++ [x]) := fun h => by have := (Hrs.out.1 h).2.1; rw [HL.out] at this; omega
      gi_wp2
      exact ⟨(KeepsOthers.setCell _ _ _).from _, ⟨rfl, hno, by rw [block_set c0]; rfl⟩, hB.setCell (by simp) _⟩
    · by_cases h2 : 1000000 < x
      · have hno : ¬ Ris (pre ++ [x]) := fun h => by have := (Hrs.out.1 h).2.2; omega
        gi_wp2
        exact ⟨(KeepsOthers.setCell _ _ _).from _, ⟨rfl, hno, by rw [block_set c0]; rfl⟩, hB.setCell (by simp) _⟩
      · have hyes : Ris (pre ++ [x]) := Hrs.out.2 ⟨hR, by rw [HL.out]; omega, by omega⟩
        gi_wp2
        exact ⟨(KeepsOthers.setCell _ _ _).from _, Kc.set c1 (by decide) (by omega), ⟨hyes, box_out c0 (out_setCell _ _ _ _) (.inl (by omega)), by rw [block_set c1, lst_snoc]; rfl⟩, hB.setCell (by simp) _⟩
  case done =>
    rintro Df ys W hDf hys ⟨⟨hR, c0, c1⟩, hB⟩ hKd
    obtain ⟨y0, z0⟩ := cell1 c0
    have cC := countKeys_any d (.iface T u) t W (hs.below hB) hwf hN
    gi_wp2_with (refine ⟨trivial, ?_⟩; gi_at_call 67; refine (callsIn_wide.2 cC).mono ?_; rintro e w1 ⟨rfl, b1⟩; obtain ⟨m0, m1⟩ := cell1 (box_on c0 b1))
    have c0' := box_on c0 b1
    obtain ⟨X, hX⟩ : ∃ X, w1.setCell ⟨w.heap.size, 0, none⟩ (.bool (decide ((flat t).length ≤ 200))) = X := ⟨_, rfl⟩
    have hKd' : X.heap[Df]? = some (.deferred (some [])) := by subst hX; exact ((keeps_of_below b1).trans (KeepsOthers.setCell _ _ _)).same Df _ hKd rfl
    have gX : Below w.heap.size w X := by subst hX; exact (hB.trans (b1.mono hB.size)).setCell (by simp) _
    have hA : X.heap[w.heap.size]? = some (.cells #[.bool (decide ((flat t).length ≤ 200))] 4 (0, 0)) := by subst hX; exact (block_set c0').trans rfl
    have e200 : decide (((flat t).length : Int) ≤ 200) = decide ((flat t).length ≤ 200) := by rw [Bool.eq_iff_iff]; simp; omega
    first | rw [hX] | (rw [e200, hX])
    have gp' := grownBy_putObj' X Df (.deferred none)
    have hA' := (gp'.block _ (box_lt hA) (fun e => by cases e; omega)).trans hA
    obtain ⟨c7, -⟩ := cell1 hA'
    refine ⟨by simp, .inl ⟨_, _, rfl, run_takeDeferred hKd', ?_⟩⟩
    refine ⟨.bool (decide ((flat t).length ≤ 200)), by simp [results, Try.f79, go_sem, c7], ⟨_, rfl, ?_⟩, gX.trans (belowK_b (w := w) (Nat.le_refl _) X Df _ _ (by omega) hKd' rfl rfl)⟩
    rw [hys] at hR
    simp [hR]
  case stop =>
    rintro Df c pre W hDf hpre ⟨⟨rfl, hR, c0⟩, hB⟩ hKd
    gi_wp2
    have gp' := grownBy_putObj' W Df (.deferred none)
    have hA' := (gp'.block _ (box_lt c0) (fun e => by cases e; omega)).trans c0
    obtain ⟨c7, -⟩ := cell1 hA'
    refine ⟨by simp, .inl ⟨_, _, rfl, run_takeDeferred hKd, ?_⟩⟩
    refine ⟨.bool false, by simp [results, Try.f79, go_sem, c7], ⟨false, rfl, ?_⟩, hB.trans (belowK_b (w := w) (Nat.le_refl _) W Df _ _ (by omega) hKd rfl rfl)⟩
    simp only [Bool.false_eq_true, false_iff]
    rintro ⟨h, -⟩
    exact hR (h.sub hpre.sublist)
end Go.Proofs.Ytggkpcgjmanelaa
