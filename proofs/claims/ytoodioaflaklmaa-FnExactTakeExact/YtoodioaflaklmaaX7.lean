import Derived.Test.YtoodioaflaklmaaX5
/- A list kept in order: some out, others in. -/
namespace Go.Proofs.Ytoodioaflaklmaa
open Go.ChangeShapes Go.WideShapes Go.ChangeAt Go.RowKit
set_option linter.unusedVariables false
open Room

attribute [local go_sem] Oper.semAt_some

set_option maxHeartbeats 2000000 in
theorem exchangedS_any (a : Option Addr) (ca : Nat) (l : List Ex) (ga : Option Addr) (gca : Nat) (gone : List Ex) (ma : Option Addr) (mca : Nat) (come : List Ex) (w : World) (hl : l.length ≤ 100) (hgl : gone.length ≤ 100) (hcl : come.length ≤ 10) (hca : l.length ≤ ca)
    (hs : So ltS l) (hg : ∀ x, x ∈ gone → x ∈ l) (hgn : gone.Nodup) (hc : ∀ x, x ∈ come → ∀ y, y ∈ outs ltS l gone → Ap ltS x y) (hcn : come.Pairwise fun x y => Ap ltS y x) (hne : 0 < gone.length + come.length) (ha : Exs w a l) (hga : Exs w ga gone) (hma : Exs w ma come) :
    Calls Try.prog 66 #[ov a l.length ca 59, .slice ga gone.length gca, .slice ma come.length mca] w fun e w' => Below w.heap.size w w' ∧ ∃ y cy, e = .returned (.slice y (exch ltS l gone come).length cy) ∧ Own w' w.heap.size w'.heap.size y (exch ltS l gone come) := by
  have ho : ∀ k, k ≤ gone.length → So ltS (outs ltS l (gone.take k)) ∧ (∀ z, z ∈ outs ltS l (gone.take k) ↔ z ∈ l ∧ z ∉ gone.take k) ∧ (outs ltS l (gone.take k)).length ≤ l.length := fun k hk => by
    have h := so_outs ordS (gone := gone.take k) hs (fun x hx => hg x (List.mem_of_mem_take hx)) (hgn.sublist (List.take_sublist k gone))
    exact ⟨h.1, h.2.1, by have := h.2.2; omega⟩
  have ho2 : ∀ k, k < gone.length → gx gone k ∈ outs ltS l (gone.take k) ∧ outs ltS l (gone.take (k + 1)) = wout ltS (outs ltS l (gone.take k)) (gx gone k) := fun k hk => by
    refine ⟨((ho k (by omega)).2.1 _).2 ⟨hg _ (by rw [gx_eq hk]; exact List.getElem_mem hk), ?_⟩, ?_⟩
    · rw [gx_eq hk]
      intro hm
      obtain ⟨i, hi, e⟩ := List.mem_iff_getElem.1 hm
      simp at hi
      rw [List.getElem_take] at e
      exact List.pairwise_iff_getElem.1 hgn i k (by omega) hk (by omega) e
    · unfold outs
      rw [List.take_add_one, List.foldl_append, gx_eq hk]
      simp [hk]
  have hw0 := (ho gone.length (Nat.le_refl _)).1
  rw [List.take_length] at hw0
  have hwl := (ho gone.length (Nat.le_refl _)).2.2
  rw [List.take_length] at hwl
  have hw : ∀ k, k ≤ come.length → So ltS (withs ltS (outs ltS l gone) (come.take k)) ∧ (withs ltS (outs ltS l gone) (come.take k)).length ≤ 110 := fun k hk => by
    have h := so_withs ordS (come := come.take k) hw0 (fun x hx => hc x (List.mem_of_mem_take hx)) (hcn.sublist (List.take_sublist k come))
    exact ⟨h.1, by have := h.2.2; simp at this; omega⟩
  have hw2 : ∀ k, k < come.length → withs ltS (outs ltS l gone) (come.take (k + 1)) = wth ltS (withs ltS (outs ltS l gone) (come.take k)) (gx come k) := fun k hk => by
    unfold withs
    rw [List.take_add_one, List.foldl_append, gx_eq hk]
    simp [hk]
  have Ho : Hid _ := And.intro ho ho2
  have Hw : Hid _ := And.intro hw hw2
  have hex : exch ltS l gone come = withs ltS (outs ltS l gone) come := rfl
  rw [hex]
  clear ho ho2 hw hw2 hw0 hwl hs hg hgn hc hcn hex
  have Ha : Hid (Exs w ga gone ∧ Exs w ma come) := ⟨hga, hma⟩
  obtain ⟨D, hD⟩ : ∃ D, w.heap.size = D := ⟨_, rfl⟩
  obtain ⟨W0, hW0⟩ : ∃ W0, w.alloc (.cells #[.slice a l.length ca, .func (.func 59) #[] #[]] 81) = W0 := ⟨_, rfl⟩
  have g0 : Below D w W0 := by subst hW0 hD; exact below_alloc _ _
  have HB0 : Hid (W0.heap[D]? = some (.cells #[.slice a l.length ca, .func (.func 59) #[] #[]] 81 (0, 0))) := by subst hW0 hD; exact al1 _ _
  have Hr0 : Hid (Exs W0 a l) := ha.below (hD ▸ g0)
  clear ha hga hma
  go_enter Try.func66, Try.ntmps66
  go_wp2
  clear hW0
  go_loopw [13] (fun i wr => ∃ (k : Nat) (x : Option Addr) (cx : Nat), k ≤ gone.length ∧ i = .int .i64 k ∧ Hid (wr.heap[D]? = some (.cells #[.slice x (outs ltS l (gone.take k)).length cx, .func (.func 59) #[] #[]] 81 (0, 0)) ∧ Exs wr x (outs ltS l (gone.take k)) ∧ (outs ltS l (gone.take k)).length ≤ cx ∧ (0 < k → OwnR wr (D + 1) (.slice x (outs ltS l (gone.take k)).length cx) (outs ltS l (gone.take k)))) ∧ Below D w wr) (fun i _ => gone.length - (intOf i).toNat)
  case atStart => exact ⟨0, a, ca, Nat.zero_le _, rfl, ⟨by simpa [outs] using HB0.out, by simpa [outs] using Hr0.out, by simpa [outs] using hca, fun h => absurd h (by omega)⟩, g0⟩
  case round =>
    obtain ⟨k, x, cx, hk, rfl, HI, hb⟩ := hrel
    have hbw : Below w.heap.size w wr := hD ▸ hb
    by_cases hlt : k < gone.length
    · obtain ⟨hin, hnx⟩ := Ho.out.2 k hlt
      obtain ⟨hso, -, hlen⟩ := Ho.out.1 k hk
      obtain ⟨bb, off, rfl, hcell⟩ := (Ha.out.1.below hbw) (by omega)
      obtain ⟨k0, k1⟩ := hcell k hlt
      clear hcell
      obtain ⟨E, hE⟩ : ∃ E, wr.heap.size = E := ⟨_, rfl⟩
      generalize gx gone k = y at *
      obtain ⟨p, q⟩ := y
      simp only at k0 k1
      obtain ⟨W1, hW1⟩ : ∃ W1, wr.alloc (.cells #[.int .i64 p, .int .i64 q] 41) = W1 := ⟨_, rfl⟩
      have b1 : Below wr.heap.size wr W1 := by subst hW1; exact below_alloc _ _
      have HE : Hid (W1.heap[E]? = some (.cells #[.int .i64 p, .int .i64 q] 41 (0, 0))) := by subst hW1 hE; exact al1 _ _
      obtain ⟨e0, e1, -, -⟩ := box2_cells HE.out
      have HB1 : Hid (W1.heap[D]? = _) := box_on HI.out.1 b1
      obtain ⟨d0, d1, -, -⟩ := box2_cells HB1.out
      have zD := box_lt HI.out.1
      have z1 := b1.size
      have cc := withoutS_any x cx (outs ltS l (gone.take k)) (p, q) W1 (by omega) hso hin HI.out.2.2.1 (HI.out.2.1.below b1)
      rw [← hnx] at cc
      have HLn : Hid _ := hlen
      clear hso hin hnx hlen HI
      generalize outs ltS l (gone.take k) = cur at *
      generalize hnw : outs ltS l (gone.take (k + 1)) = nw at *
      have HN : Hid _ := hnw
      clear hnw
      go_wp2_with fail
      refine cc.mono ?_
      rintro e w2 ⟨b2, y, cy, rfl, ow⟩
      clear cc hW1 e0 e1 d0 d1
      have HB2 : Hid (w2.heap[D]? = _) := box_on HB1.out b2
      obtain ⟨d0, d1, d2, d3⟩ := box2_cells HB2.out
      have HOw : Hid (OwnR w2 W1.heap.size (.slice y nw.length cy) nw) := ow
      clear ow
      go_wp2
      obtain ⟨W3, hW3⟩ : ∃ W3, (w2.setCell ⟨D, 0, none⟩ (.slice y nw.length cy)).setCell ⟨D, 1, none⟩ (.func (.func 59) #[] #[]) = W3 := ⟨_, rfl⟩
      have o3 : Out D (D + 1) w2 W3 := by subst hW3; exact ((Out.refl _ _ _).setCell (by omega) (by omega) _ _).setCell (by omega) (by omega) _ _
      have R3 : W3.heap[D]? = some (.cells #[.slice y nw.length cy, .func (.func 59) #[] #[]] 81 (0, 0)) := by subst hW3; exact box2_set HB2.out
      rw [hW3]
      clear hW3 d0 d1 d2 d3
      have z2 := b2.size
      have ow3 : OwnR W3 (D + 1) (.slice y nw.length cy) nw := owns_mono (owns_out HOw.out o3 (by omega)) (by omega)
      have b3 : Below D w W3 := (hb.trans ((Below.comp b1 b2).mono (by omega))).trans (o3.below (by omega))
      have Ht : Hid (W3.heap[D]? = some (.cells #[.slice y nw.length cy, .func (.func 59) #[] #[]] 81 (0, 0)) ∧ Exs W3 y nw ∧ nw.length ≤ cy ∧ (0 < k + 1 → OwnR W3 (D + 1) (.slice y nw.length cy) nw)) := ⟨R3, MineX.row ow3.own.1, ow3.own.2.2, fun _ => ow3⟩
      clear R3 ow3 HOw HB1 HB2
      go_roundw
      case rel => exact ⟨k + 1, y, cy, by omega, by go_num, by rw [HN.out]; exact Ht, b3⟩
      case measure => simp [intOf]; omega
    · have hkn : k = gone.length := by omega
      subst hkn
      rw [List.take_length] at HI
      have Hs := Hw.out.1 0 (Nat.zero_le _)
      go_wp2
      go_loopw [23] (fun i wr => ∃ (k : Nat) (x : Option Addr) (cx : Nat), k ≤ come.length ∧ i = .int .i64 k ∧ Hid (wr.heap[D]? = some (.cells #[.slice x (withs ltS (outs ltS l gone) (come.take k)).length cx, .func (.func 59) #[] #[]] 81 (0, 0)) ∧ Exs wr x (withs ltS (outs ltS l gone) (come.take k)) ∧ (withs ltS (outs ltS l gone) (come.take k)).length ≤ cx ∧ (0 < gone.length + k → OwnR wr (D + 1) (.slice x (withs ltS (outs ltS l gone) (come.take k)).length cx) (withs ltS (outs ltS l gone) (come.take k)))) ∧ Below D w wr) (fun i _ => come.length - (intOf i).toNat)
      case atStart => exact ⟨0, x, cx, Nat.zero_le _, rfl, HI, hb⟩
      case round =>
        obtain ⟨k, x, cx, hk, rfl, HI, hb⟩ := hrel
        have hbw : Below w.heap.size w wr := hD ▸ hb
        by_cases hlt : k < come.length
        · have hnx := Hw.out.2 k hlt
          obtain ⟨hso, hlen⟩ := Hw.out.1 k hk
          obtain ⟨bb, off, rfl, hcell⟩ := (Ha.out.2.below hbw) (by omega)
          obtain ⟨k0, k1⟩ := hcell k hlt
          clear hcell
          obtain ⟨E, hE⟩ : ∃ E, wr.heap.size = E := ⟨_, rfl⟩
          generalize gx come k = y at *
          obtain ⟨p, q⟩ := y
          simp only at k0 k1
          obtain ⟨W1, hW1⟩ : ∃ W1, wr.alloc (.cells #[.int .i64 p, .int .i64 q] 41) = W1 := ⟨_, rfl⟩
          have b1 : Below wr.heap.size wr W1 := by subst hW1; exact below_alloc _ _
          have HE : Hid (W1.heap[E]? = some (.cells #[.int .i64 p, .int .i64 q] 41 (0, 0))) := by subst hW1 hE; exact al1 _ _
          obtain ⟨e0, e1, -, -⟩ := box2_cells HE.out
          have HB1 : Hid (W1.heap[D]? = _) := box_on HI.out.1 b1
          obtain ⟨d0, d1, -, -⟩ := box2_cells HB1.out
          have zD := box_lt HI.out.1
          have z1 := b1.size
          have cc := withS_any x cx (withs ltS (outs ltS l gone) (come.take k)) (p, q) W1 (by omega) hso trivial HI.out.2.2.1 (HI.out.2.1.below b1)
          rw [← hnx] at cc
          have HLn : Hid _ := hlen
          clear hso hnx hlen HI
          generalize withs ltS (outs ltS l gone) (come.take k) = cur at *
          generalize hnw : withs ltS (outs ltS l gone) (come.take (k + 1)) = nw at *
          have HN : Hid _ := hnw
          clear hnw
          go_wp2_with fail
          refine cc.mono ?_
          rintro e w2 ⟨b2, y, cy, rfl, ow⟩
          clear cc hW1 e0 e1 d0 d1
          have HB2 : Hid (w2.heap[D]? = _) := box_on HB1.out b2
          obtain ⟨d0, d1, d2, d3⟩ := box2_cells HB2.out
          have HOw : Hid (OwnR w2 W1.heap.size (.slice y nw.length cy) nw) := ow
          clear ow
          go_wp2
          obtain ⟨W3, hW3⟩ : ∃ W3, (w2.setCell ⟨D, 0, none⟩ (.slice y nw.length cy)).setCell ⟨D, 1, none⟩ (.func (.func 59) #[] #[]) = W3 := ⟨_, rfl⟩
          have o3 : Out D (D + 1) w2 W3 := by subst hW3; exact ((Out.refl _ _ _).setCell (by omega) (by omega) _ _).setCell (by omega) (by omega) _ _
          have R3 : W3.heap[D]? = some (.cells #[.slice y nw.length cy, .func (.func 59) #[] #[]] 81 (0, 0)) := by subst hW3; exact box2_set HB2.out
          rw [hW3]
          clear hW3 d0 d1 d2 d3
          have z2 := b2.size
          have ow3 : OwnR W3 (D + 1) (.slice y nw.length cy) nw := owns_mono (owns_out HOw.out o3 (by omega)) (by omega)
          have b3 : Below D w W3 := (hb.trans ((Below.comp b1 b2).mono (by omega))).trans (o3.below (by omega))
          have Ht : Hid (W3.heap[D]? = some (.cells #[.slice y nw.length cy, .func (.func 59) #[] #[]] 81 (0, 0)) ∧ Exs W3 y nw ∧ nw.length ≤ cy ∧ (0 < gone.length + (k + 1) → OwnR W3 (D + 1) (.slice y nw.length cy) nw)) := ⟨R3, MineX.row ow3.own.1, ow3.own.2.2, fun _ => ow3⟩
          clear R3 ow3 HOw HB1 HB2
          go_roundw
          case rel => exact ⟨k + 1, y, cy, by omega, by go_num, by rw [HN.out]; exact Ht, b3⟩
          case measure => simp [intOf]; omega
        · have hkn : k = come.length := by omega
          subst hkn
          rw [List.take_length] at HI
          obtain ⟨d0, d1, -, -⟩ := box2_cells HI.out.1
          have ow := HI.out.2.2.2 hne
          have HOw : Hid (OwnR wr (D + 1) (.slice x (withs ltS (outs ltS l gone) come).length cx) (withs ltS (outs ltS l gone) come)) := ow
          clear ow HI Hs
          go_wp2
          go_ret
          exact ⟨by first | exact hbw | exact hb, x, cx, rfl, (HOw.out.own.1).mono (by omega) (Nat.le_refl _)⟩
end Go.Proofs.Ytoodioaflaklmaa
