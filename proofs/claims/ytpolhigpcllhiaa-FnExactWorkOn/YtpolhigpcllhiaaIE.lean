import Derived.Test.YtpolhigpcllhiaaID
/- How many blocks are promised yet: both sides. -/
namespace Go.Proofs.Ytpolhigpcllhiaa
open Go.ChangeShapes Go.WideShapes Go.ChangeAt Go.RowKit
set_option linter.unusedVariables false
open Room

attribute [local go_sem] Oper.semAt_some

def sm (l : List It) : Int := (l.map fun x => x.x.2 - x.u).sum
theorem sm_take {Q : List It} {k : Nat} (h : k < Q.length) : sm (Q.take (k + 1)) = sm (Q.take k) + ((gi Q k).x.2 - (gi Q k).u) := by
  rw [take_gi h]
  unfold sm
  rw [List.map_append, List.sum_append]
  simp
theorem sm_sml : ∀ {l : List It}, (∀ x, x ∈ l → Sml x) → 0 ≤ sm l ∧ sm l ≤ 400 * l.length
  | [], _ => by simp [sm]
  | x :: l, h => by
    have h1 := sm_sml (l := l) (fun y hy => h y (by simp [hy]))
    obtain ⟨h2, h3, h4⟩ := h x (by simp)
    have e : sm (x :: l) = (x.x.2 - x.u) + sm l := by simp [sm]
    rw [e, List.length_cons]
    omega
theorem sm_bound {Q : List It} (h : ∀ x, x ∈ Q → Sml x) (hQ : Q.length ≤ 30) (k : Nat) : 0 ≤ sm (Q.take k) ∧ sm (Q.take k) ≤ 12000 := by
  have h1 := sm_sml (l := Q.take k) (fun x hx => h x (List.mem_of_mem_take hx))
  have h2 : (Q.take k).length ≤ 30 := by rw [List.length_take]; omega
  omega
set_option maxHeartbeats 4000000 in
theorem implPromised_any (b : Int) (a : Option Addr) (ca : Nat) (a' : Option Addr) (ca' : Nat) (l s : List Ex) (nx : Int) (i : Option Addr) (ci : Nat) (t : List It) (w : World) (hn : l.length ≤ 1048576) (hn' : s.length ≤ 1048576) (hm : t.length ≤ 1048577) (hx : ∀ x, x ∈ l → x.1 ≤ 9223372036854775807) (hxi : ∀ x, x ∈ t → x.x.1 ≤ 9223372036854775807) (ha : Exs w a l) (ha' : Exs w a' s) (hi : Its w i t) :
    Calls Try.prog 29 #[wv b a l.length ca a' s.length ca' nx i t.length ci] w fun e w' => e = .returned (.tuple #[.int .i64 (sm (opn (prO b l s nx t))), .bool (prO b l s nx t).isSome]) ∧ Below w.heap.size w w' := by
  have cP := fun W h => implOpen_any b a ca a' ca' l s nx i ci t W hn hn' hm hx hxi (ha.below h) (ha'.below h) (hi.below h)
  obtain ⟨hsm, hQ30⟩ := opn_sml (b := b) (l := l) (s := s) (nx := nx) (t := t)
  generalize (prO b l s nx t).isSome = ok at *
  generalize opn (prO b l s nx t) = Q at *
  clear ha ha' hi hx hxi
  generalize l.length = n at *
  generalize s.length = n' at *
  generalize t.length = m at *
  obtain ⟨D, hD⟩ : ∃ D, w.heap.size = D := ⟨_, rfl⟩
  obtain ⟨W0, hW0⟩ : ∃ W0, w.alloc (.cells #[.int .i64 b, .slice a n ca, .slice a' n' ca', .int .i64 nx, .slice i m ci] 27) = W0 := ⟨_, rfl⟩
  have g0 : Below w.heap.size w W0 := by subst hW0; exact below_alloc _ _
  have B1 : W0.heap[D]? = some (.cells #[.int .i64 b, .slice a n ca, .slice a' n' ca', .int .i64 nx, .slice i m ci] 27 (0, 0)) := by subst hW0 hD; exact al1 _ _
  obtain ⟨i0, i1, i2, i3, i4⟩ := box5_cells B1
  clear B1
  · skip
    have HSm : Hid (∀ k, k < Q.length → Sml (gi Q k)) := fun k hk => by rw [gi_eq hk]; exact hsm _ (List.getElem_mem hk)
    have HSt : Hid (∀ k, k < Q.length → sm (Q.take (k + 1)) = sm (Q.take k) + ((gi Q k).x.2 - (gi Q k).u)) := fun k hk => sm_take hk
    have HAll : Hid (Q.take Q.length = Q) := List.take_length
    have HBd : Hid (∀ k, k ≤ Q.length → 0 ≤ sm (Q.take k) ∧ sm (Q.take k) ≤ 12000) := fun k hk => sm_bound hsm hQ30 k
    clear hsm
    go_enter Try.func29, Try.ntmps29
    go_wp2_with fail
    refine (cP _ g0).mono ?_
    rintro e w1 ⟨b1, y, cy, rfl, ho⟩
    have g1 : Below w.heap.size w w1 := Below.comp g0 b1
    have HRw : Hid (RowI w1 y Q.length (gi Q)) := MineI.row (OwnI.own ho).1
    clear hW0 i0 i1 i2 i3 i4 ho
    obtain ⟨qn, hqn⟩ : ∃ qn, Q.length = qn := ⟨_, rfl⟩
    rw [hqn] at HSm HSt HAll HBd HRw hQ30
    rw [hqn]
    clear hqn
    generalize gi Q = Gq at *
    go_wp2
    go_loopw [16, 6] (fun q sv wr => ∃ (k : Nat), k ≤ qn ∧ q = .int .i64 k ∧ sv = .int .i64 (sm (Q.take k)) ∧ Below w1.heap.size w1 wr) (fun q _ _ => qn - (intOf q).toNat)
    case atStart => exact ⟨0, Nat.zero_le _, rfl, by rw [List.take_zero]; rfl, Below.refl _ _⟩
    case round =>
      obtain ⟨k, hk, rfl, rfl, hb1⟩ := hrel
      by_cases hlt : k < qn
      · obtain ⟨bb, off, rfl, hcell⟩ := (HRw.out.below hb1) (by omega)
        obtain ⟨c0, c1, c2, c3, c4⟩ := hcell k hlt
        clear hcell
        have hsm := HSm.out k hlt
        have hst := HSt.out k hlt
        have hbd := HBd.out k hk
        generalize Gq k = x at c0 c1 c2 c3 c4 hsm hst
        have HSt' : Hid (sm (Q.take (k + 1)) = sm (Q.take k) + (x.x.2 - x.u)) := hst
        clear hst
        obtain ⟨S, hS⟩ : ∃ S, sm (Q.take k) = S := ⟨_, rfl⟩
        rw [hS] at HSt' hbd
        rw [hS]
        clear hS
        have hsx : 0 ≤ x.x.2 - x.u ∧ x.x.2 - x.u ≤ 400 := by obtain ⟨h1, h2, h3⟩ := hsm; omega
        have cL := fun W => leftOf_any x W hsm
        obtain ⟨E, hE⟩ : ∃ E, wr.heap.size = E := ⟨_, rfl⟩
        obtain ⟨W1, hW1⟩ : ∃ W1, wr.alloc (.cells #[.int .i64 x.k, .int .i64 x.i, .int .i64 x.x.1, .int .i64 x.x.2, .int .i64 x.u] 71) = W1 := ⟨_, rfl⟩
        have b2 : Below wr.heap.size wr W1 := by subst hW1; exact below_alloc _ _
        have HE : Hid (W1.heap[E]? = some (.cells #[.int .i64 x.k, .int .i64 x.i, .int .i64 x.x.1, .int .i64 x.x.2, .int .i64 x.u] 71 (0, 0))) := by subst hW1 hE; exact al1 _ _
        obtain ⟨pk, pi, ⟨px, py⟩, pu⟩ := x
        simp only at c0 c1 c2 c3 c4 hW1 HE cL hsx HSt'
        clear hsm
        obtain ⟨e0, e1, e2, e3, e4⟩ := box5_cells HE.out
        have ew1 : IntKind.i64.wrap (py - pu) = py - pu := wrapI (by omega) (by omega)
        have ew2 : IntKind.i64.wrap (S + (py - pu)) = S + (py - pu) := wrapI (by omega) (by omega)
        go_wp2_with fail
        refine (cL _).mono ?_
        rintro e w3 ⟨rfl, b3⟩
        go_wp2
        go_roundw
        case rel => exact ⟨k + 1, by omega, by go_num, by rw [HSt'.out], Below.comp hb1 (Below.comp b2 b3)⟩
        case measure => simp [intOf]; omega
      · have hkn : k = qn := by omega
        subst hkn
        have gR : Below w.heap.size w wr := Below.comp g1 hb1
        have hAll := HAll.out
        rw [hAll]
        clear hAll HAll HSt HBd
        go_wp2
        refine bodyPost_ret (v := .tuple #[.int .i64 (sm Q), .bool ok]) (by simp [results, Try.results29, go_sem]) rfl ?_
        exact ⟨by first | rfl | simp, by first | exact gR | exact (hD ▸ gR)⟩
set_option maxHeartbeats 4000000 in
theorem specPromised_any (b : Int) (a : Option Addr) (ca : Nat) (a' : Option Addr) (ca' : Nat) (l s : List Ex) (nx : Int) (i : Option Addr) (ci : Nat) (t : List It) (w : World) (hb0 : -9223372036854775808 ≤ b) (hb1' : b ≤ 9223372036854775807) (hn : l.length ≤ 1048576) (hn' : s.length ≤ 1048576) (hm : t.length ≤ 1048577) (hci : t.length ≤ ci) (hxi : ∀ x, x ∈ t → FitI x) (ha : Exs w a l) (ha' : Exs w a' s) (hi : Its w i t) :
    Calls Try.prog 28 #[wv b a l.length ca a' s.length ca' nx i t.length ci] w fun e w' => e = .returned (.tuple #[.int .i64 (sm (opn (prO b l s nx t))), .bool (prO b l s nx t).isSome]) ∧ Below w.heap.size w w' := by
  have cG := fun W h => specGoodW_any b a ca a' ca' l s nx i ci t W hb0 hb1' hn hn' hm hci hxi (ha.below h) (ha'.below h) (hi.below h)
  have cO := fun W h => l12Open_any i ci t W hm (hi.below h)
  rw [gw_prO] at cG
  have HS : Hid (∀ P, prO b l s nx t = some P → P = prm t) := fun P h => (prO_inv h).2.2.1.eq
  obtain ⟨hsm, hQ30⟩ := opn_sml (b := b) (l := l) (s := s) (nx := nx) (t := t)
  generalize prO b l s nx t = R at *
  clear ha ha' hi hxi
  generalize l.length = n at *
  generalize s.length = n' at *
  generalize hmt : t.length = m at *
  clear hmt
  obtain ⟨D, hD⟩ : ∃ D, w.heap.size = D := ⟨_, rfl⟩
  obtain ⟨W0, hW0⟩ : ∃ W0, w.alloc (.cells #[.int .i64 b, .slice a n ca, .slice a' n' ca', .int .i64 nx, .slice i m ci] 27) = W0 := ⟨_, rfl⟩
  have g0 : Below w.heap.size w W0 := by subst hW0; exact below_alloc _ _
  have B1 : W0.heap[D]? = some (.cells #[.int .i64 b, .slice a n ca, .slice a' n' ca', .int .i64 nx, .slice i m ci] 27 (0, 0)) := by subst hW0 hD; exact al1 _ _
  have H1 : Hid (W0.heap[D]? = some (.cells #[.int .i64 b, .slice a n ca, .slice a' n' ca', .int .i64 nx, .slice i m ci] 27 (0, 0))) := B1
  obtain ⟨i0, i1, i2, i3, i4⟩ := box5_cells B1
  clear B1
  cases R with
  | none =>
    rw [show (none : Option (List It)).isSome = false from rfl] at cG
    go_enter Try.func28, Try.ntmps28
    go_wp2_with fail
    refine (cG _ g0).mono ?_
    rintro e w1 ⟨rfl, b1⟩
    have gR : Below w.heap.size w w1 := Below.comp g0 b1
    go_wp2
    refine bodyPost_ret (v := .tuple #[.int .i64 0, .bool false]) (by simp [results, Try.results28, go_sem]) rfl ?_
    exact ⟨rfl, by first | exact gR | exact (hD ▸ gR)⟩
  | some P =>
    obtain rfl : P = prm t := HS.out P rfl
    rw [show (some (prm t)).isSome = true from rfl] at cG ⊢
    rw [show opn (some (prm t)) = (prm t).filter isO from rfl] at hsm hQ30 ⊢
    generalize (prm t).filter isO = Q at *
    have HSm : Hid (∀ k, k < Q.length → Sml (gi Q k)) := fun k hk => by rw [gi_eq hk]; exact hsm _ (List.getElem_mem hk)
    have HSt : Hid (∀ k, k < Q.length → sm (Q.take (k + 1)) = sm (Q.take k) + ((gi Q k).x.2 - (gi Q k).u)) := fun k hk => sm_take hk
    have HAll : Hid (Q.take Q.length = Q) := List.take_length
    have HBd : Hid (∀ k, k ≤ Q.length → 0 ≤ sm (Q.take k) ∧ sm (Q.take k) ≤ 12000) := fun k hk => sm_bound hsm hQ30 k
    clear hsm
    go_enter Try.func28, Try.ntmps28
    go_wp2_with fail
    refine (cG _ g0).mono ?_
    rintro e w0 ⟨rfl, b0⟩
    clear hW0 i0 i1 i2 i3 i4
    obtain ⟨i0, i1, i2, i3, i4⟩ := box5_cells (box_on H1.out b0)
    have gz : Below w.heap.size w w0 := Below.comp g0 b0
    go_wp2_with fail
    refine (cO _ gz).mono ?_
    rintro e w1 ⟨b1, y, cy, rfl, ho⟩
    have g1 : Below w.heap.size w w1 := Below.comp gz b1
    have HRw : Hid (RowI w1 y Q.length (gi Q)) := MineI.row (OwnI.own ho).1
    clear i0 i1 i2 i3 i4 ho
    obtain ⟨qn, hqn⟩ : ∃ qn, Q.length = qn := ⟨_, rfl⟩
    rw [hqn] at HSm HSt HAll HBd HRw hQ30
    rw [hqn]
    clear hqn
    generalize gi Q = Gq at *
    go_wp2
    go_loopw [14, 4] (fun q sv wr => ∃ (k : Nat), k ≤ qn ∧ q = .int .i64 k ∧ sv = .int .i64 (sm (Q.take k)) ∧ Below w1.heap.size w1 wr) (fun q _ _ => qn - (intOf q).toNat)
    case atStart => exact ⟨0, Nat.zero_le _, rfl, by rw [List.take_zero]; rfl, Below.refl _ _⟩
    case round =>
      obtain ⟨k, hk, rfl, rfl, hb1⟩ := hrel
      by_cases hlt : k < qn
      · obtain ⟨bb, off, rfl, hcell⟩ := (HRw.out.below hb1) (by omega)
        obtain ⟨c0, c1, c2, c3, c4⟩ := hcell k hlt
        clear hcell
        have hsm := HSm.out k hlt
        have hst := HSt.out k hlt
        have hbd := HBd.out k hk
        generalize Gq k = x at c0 c1 c2 c3 c4 hsm hst
        have HSt' : Hid (sm (Q.take (k + 1)) = sm (Q.take k) + (x.x.2 - x.u)) := hst
        clear hst
        obtain ⟨S, hS⟩ : ∃ S, sm (Q.take k) = S := ⟨_, rfl⟩
        rw [hS] at HSt' hbd
        rw [hS]
        clear hS
        have hsx : 0 ≤ x.x.2 - x.u ∧ x.x.2 - x.u ≤ 400 := by obtain ⟨h1, h2, h3⟩ := hsm; omega
        have cL := fun W => leftOf_any x W hsm
        obtain ⟨E, hE⟩ : ∃ E, wr.heap.size = E := ⟨_, rfl⟩
        obtain ⟨W1, hW1⟩ : ∃ W1, wr.alloc (.cells #[.int .i64 x.k, .int .i64 x.i, .int .i64 x.x.1, .int .i64 x.x.2, .int .i64 x.u] 71) = W1 := ⟨_, rfl⟩
        have b2 : Below wr.heap.size wr W1 := by subst hW1; exact below_alloc _ _
        have HE : Hid (W1.heap[E]? = some (.cells #[.int .i64 x.k, .int .i64 x.i, .int .i64 x.x.1, .int .i64 x.x.2, .int .i64 x.u] 71 (0, 0))) := by subst hW1 hE; exact al1 _ _
        obtain ⟨pk, pi, ⟨px, py⟩, pu⟩ := x
        simp only at c0 c1 c2 c3 c4 hW1 HE cL hsx HSt'
        clear hsm
        obtain ⟨e0, e1, e2, e3, e4⟩ := box5_cells HE.out
        have ew1 : IntKind.i64.wrap (py - pu) = py - pu := wrapI (by omega) (by omega)
        have ew2 : IntKind.i64.wrap (S + (py - pu)) = S + (py - pu) := wrapI (by omega) (by omega)
        go_wp2
        go_roundw
        case rel => exact ⟨k + 1, by omega, by go_num, by rw [HSt'.out], Below.comp hb1 b2⟩
        case measure => simp [intOf]; omega
      · have hkn : k = qn := by omega
        subst hkn
        have gR : Below w.heap.size w wr := Below.comp g1 hb1
        have hAll := HAll.out
        rw [hAll]
        clear hAll HAll HSt HBd
        go_wp2
        refine bodyPost_ret (v := .tuple #[.int .i64 (sm Q), .bool true]) (by simp [results, Try.results28, go_sem]) rfl ?_
        exact ⟨by first | rfl | simp, by first | exact gR | exact (hD ▸ gR)⟩
end Go.Proofs.Ytpolhigpcllhiaa
