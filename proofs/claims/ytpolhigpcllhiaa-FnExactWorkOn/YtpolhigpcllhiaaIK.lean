import Derived.Test.YtpolhigpcllhiaaIJ
import Derived.Test.YtpolhigpcllhiaaZ2i
/- Work done on a promise: the program's side. -/
namespace Go.Proofs.Ytpolhigpcllhiaa
open Go.ChangeShapes Go.WideShapes Go.ChangeAt Go.RowKit
set_option linter.unusedVariables false
open Room

attribute [local go_sem] Oper.semAt_some

/-- The promise of a number, how much is done then, and the item of it. -/
def wkF (Q : List It) (id : Int) : Option It := Q.find? fun x => decide (x.i = id)
def wkU (x : It) (many : Int) : Int := if many < x.x.2 - x.u then x.u + many else x.x.2
def wkI (Q : List It) (id many : Int) : Option It := match wkF Q id with
  | none => none
  | some x => if 1 ≤ many then some ⟨2, id, (0, 0), wkU x many⟩ else none
def wkT (r : Option It) : It := r.getD ⟨0, 0, (0, 0), 0⟩
def okW (b : Int) (l s : List Ex) (nx : Int) (t : List It) (id many : Int) : Bool := match wkI (opn (prO b l s nx t)) id many with
  | none => false
  | some y => gw b l s nx (t ++ [y])
theorem wkF_first {Q : List It} {id : Int} {y : It} {r : Bool} (h : FstI Q.length (gi Q) (fun x => decide (x.i = id)) y r) : (r = true → wkF Q id = some y ∧ y ∈ Q ∧ y.i = id) ∧ (r = false → wkF Q id = none) := by
  unfold wkF
  rcases h with ⟨rfl, k, hk, rfl, hp, hn⟩ | ⟨rfl, -, hn⟩
  · refine ⟨fun _ => ⟨?_, by rw [gi_eq hk]; exact List.getElem_mem hk, by simpa using hp⟩, fun h => by cases h⟩
    rw [List.find?_eq_some_iff_getElem]
    refine ⟨hp, k, hk, (gi_eq hk).symm, fun j hj => ?_⟩
    have := hn j hj
    rw [gi_eq (by omega)] at this
    simp [this]
  · refine ⟨(fun h => by cases h), fun _ => ?_⟩
    rw [List.find?_eq_none]
    intro x hx
    obtain ⟨j, hj, rfl⟩ := List.getElem_of_mem hx
    have := hn j hj
    rw [gi_eq hj] at this
    simp [this]
theorem All_any (a : Option Addr) (n c : Nat) (w : World) : Calls Try.prog 47 #[.slice a n c] w fun e w' => e = .returned (.func (.func 67) #[] #[.pointer (some ⟨w.heap.size, 0, none⟩)]) ∧ w' = w.alloc (.cells #[.slice a n c] 25) := by
  go_enter Try.func47, Try.ntmps47
  go_wp2
  go_ret
  exact ⟨rfl, rfl⟩
theorem isId_any (x : It) (L : Nat) (id : Int) (w : World) (h : w.cell? ⟨L, 0, none⟩ = some (.int .i64 id)) : Calls Try.prog 48 #[iv x, .pointer (some ⟨L, 0, none⟩)] w fun e w' => e = .returned (.bool (decide (x.i = id))) ∧ Below w.heap.size w w' := by
  obtain ⟨pk, pi, ⟨px, py⟩, pu⟩ := x
  obtain ⟨D, hD⟩ : ∃ D, w.heap.size = D := ⟨_, rfl⟩
  obtain ⟨W0, hW0⟩ : ∃ W0, w.alloc (.cells #[.int .i64 pk, .int .i64 pi, .int .i64 px, .int .i64 py, .int .i64 pu] 71) = W0 := ⟨_, rfl⟩
  have g0 : Below w.heap.size w W0 := by subst hW0; exact below_alloc _ _
  have B1 : W0.heap[D]? = some (.cells #[.int .i64 pk, .int .i64 pi, .int .i64 px, .int .i64 py, .int .i64 pu] 71 (0, 0)) := by subst hW0 hD; exact al1 _ _
  obtain ⟨i0, i1, i2, i3, i4⟩ := box5_cells B1
  have hc := cell_on h g0
  clear B1 h
  by_cases hp : (pi == id) = true
  · have e : decide (pi = id) = true := by simpa using hp
    rw [e]
    go_enter Try.func48, Try.ntmps48
    go_wp2
    go_ret
    exact ⟨by first | rfl | simp [*], by first | exact g0 | exact (hD ▸ g0)⟩
  · have hp' : (pi == id) = false := by simpa using hp
    have e : decide (pi = id) = false := by simpa using hp'
    rw [e]
    clear hp
    go_enter Try.func48, Try.ntmps48
    go_wp2
    go_ret
    exact ⟨by first | rfl | simp [*], by first | exact g0 | exact (hD ▸ g0)⟩
set_option maxRecDepth 10000 in
set_option maxHeartbeats 4000000 in
theorem implWorkOn_any (b : Int) (a : Option Addr) (ca : Nat) (a' : Option Addr) (ca' : Nat) (l s : List Ex) (nx : Int) (i : Option Addr) (ci : Nat) (t : List It) (id many : Int) (w : World) (hn : l.length ≤ 1048576) (hn' : s.length ≤ 1048576) (hm : t.length ≤ 1048576) (hx : ∀ x, x ∈ l → x.1 ≤ 9223372036854775807) (hxi : ∀ x, x ∈ t → x.x.1 ≤ 9223372036854775807) (hmy : many ≤ 9223372036854775807) (ha : Exs w a l) (ha' : Exs w a' s) (hi : Its w i t) :
    Calls Try.prog 22 #[wv b a l.length ca a' s.length ca' nx i t.length ci, .int .i64 id, .int .i64 many] w fun e w' => Below w.heap.size w w' ∧ ∃ v, e = .returned (.tuple #[v, .bool (okW b l s nx t id many)]) ∧ WkM w' w.heap.size w'.heap.size v (wiB (okW b l s nx t id many) b) (wiL (okW b l s nx t id many) l).length (wiL (okW b l s nx t id many) s).length (wiL (okW b l s nx t id many) (t ++ [(wkT (wkI (opn (prO b l s nx t)) id many))])).length (gx (wiL (okW b l s nx t id many) l)) (gx (wiL (okW b l s nx t id many) s)) (wiB (okW b l s nx t id many) nx) (gi (wiL (okW b l s nx t id many) (t ++ [(wkT (wkI (opn (prO b l s nx t)) id many))]))) := by
  have cO := fun W h => implOpen_any b a ca a' ca' l s nx i ci t W hn hn' (by omega) hx hxi (ha.below h) (ha'.below h) (hi.below h)
  have cW := fun (u : Int) W h => withItem_any b a ca a' ca' l s nx i ci t ⟨2, id, (0, 0), u⟩ nx W hn hn' hm hx (fun y hy => by rcases List.mem_append.1 hy with q | q; exact hxi y q; rw [List.mem_singleton.1 q]; show (0 : Int) ≤ 9223372036854775807; decide) (ha.below h) (ha'.below h) (hi.below h)
  obtain ⟨hsm, hQ30⟩ := opn_sml (b := b) (l := l) (s := s) (nx := nx) (t := t)
  have HOK : Hid (okW b l s nx t id many = match wkI (opn (prO b l s nx t)) id many with | none => false | some y => gw b l s nx (t ++ [y])) := rfl
  generalize okW b l s nx t id many = ok at *
  generalize (prO b l s nx t).isSome = ok0 at *
  generalize opn (prO b l s nx t) = Q at *
  have HF : Hid (∀ y r, FstI Q.length (gi Q) (fun x => decide (x.i = id)) y r → (r = true → wkF Q id = some y ∧ y ∈ Q ∧ y.i = id) ∧ (r = false → wkF Q id = none)) := fun y r h => wkF_first h
  have HSm : Hid (∀ x, x ∈ Q → Sml x) := hsm
  have HNo : Hid (wkI Q id many = none → ok = false) := fun h => by
    have h2 := HOK.out
    rw [h] at h2
    exact h2
  have HYe : Hid (∀ y, wkI Q id many = some y → ok = gw b l s nx (t ++ [y]) ∧ wkT (wkI Q id many) = y) := fun y h => by
    have h2 := HOK.out
    rw [h] at h2
    exact ⟨h2, by rw [h]; rfl⟩
  have HI0 : Hid (wkF Q id = none → wkI Q id many = none) := fun h => by unfold wkI; rw [h]
  have HI1 : Hid (many < 1 → wkI Q id many = none) := fun h => by
    unfold wkI
    cases wkF Q id with
    | none => rfl
    | some x => simp only; rw [if_neg (by omega)]
  have HI2 : Hid (∀ y, wkF Q id = some y → 1 ≤ many → wkI Q id many = some ⟨2, id, (0, 0), wkU y many⟩) := fun y h h1 => by unfold wkI; rw [h]; simp only; rw [if_pos h1]
  clear hsm HOK ha ha' hi hx hxi
  generalize wkI Q id many = R at *
  generalize wkT R = Y at *
  generalize wkF Q id = F0 at *
  have HZ : Hid (ok = false → ∀ (w' : World) (B : Nat), WkM w' B B (wv 0 none 0 0 none 0 0 0 none 0 0) (wiB ok b) (wiL ok l).length (wiL ok s).length (wiL ok (t ++ [Y])).length (gx (wiL ok l)) (gx (wiL ok s)) (wiB ok nx) (gi (wiL ok (t ++ [Y])))) := fun h w' B => by
    subst h
    exact WkM.nil w' B 0
  obtain ⟨n, hnn⟩ : ∃ n, l.length = n := ⟨_, rfl⟩
  obtain ⟨n', hnn'⟩ : ∃ n', s.length = n' := ⟨_, rfl⟩
  obtain ⟨m, hmm⟩ : ∃ m, t.length = m := ⟨_, rfl⟩
  rw [hnn] at cO cW hn
  rw [hnn'] at cO cW hn'
  rw [hmm] at cO cW hm
  rw [hnn, hnn', hmm]
  clear hnn hnn' hmm
  obtain ⟨D, hD⟩ : ∃ D, w.heap.size = D := ⟨_, rfl⟩
  obtain ⟨W0, hW0⟩ : ∃ W0, ((w.alloc (.cells #[.int .i64 b, .slice a n ca, .slice a' n' ca', .int .i64 nx, .slice i m ci] 27)).alloc (.cells #[.int .i64 id] 3)).alloc (.cells #[.int .i64 0, .slice none 0 0, .slice none 0 0, .int .i64 0, .slice none 0 0] 27) = W0 := ⟨_, rfl⟩
  have g0 : Below w.heap.size w W0 := by subst hW0; exact ba3 _ _ _ _
  obtain ⟨B1, B2, B3⟩ : W0.heap[D]? = some (.cells #[.int .i64 b, .slice a n ca, .slice a' n' ca', .int .i64 nx, .slice i m ci] 27 (0, 0)) ∧ W0.heap[D + 1]? = some (.cells #[.int .i64 id] 3 (0, 0)) ∧ W0.heap[D + 1 + 1]? = some (.cells #[.int .i64 0, .slice none 0 0, .slice none 0 0, .int .i64 0, .slice none 0 0] 27 (0, 0)) := by subst hW0 hD; exact al3 _ _ _ _
  have H1 : Hid (W0.heap[D]? = some (.cells #[.int .i64 b, .slice a n ca, .slice a' n' ca', .int .i64 nx, .slice i m ci] 27 (0, 0))) := B1
  have H2 : Hid (W0.heap[D + 1]? = some (.cells #[.int .i64 id] 3 (0, 0))) := B2
  have H3 : Hid (W0.heap[D + 1 + 1]? = some (.cells #[.int .i64 0, .slice none 0 0, .slice none 0 0, .int .i64 0, .slice none 0 0] 27 (0, 0))) := B3
  have z0 := box_lt B3
  have hzw : w.heap.size ≤ W0.heap.size := g0.size
  obtain ⟨i0, i1, i2, i3, i4⟩ := box5_cells B1
  clear B1 B2 B3
  go_enter Try.func22, Try.ntmps22
  go_wp2_with fail
  refine (cO _ g0).mono ?_
  rintro e w1 ⟨b1, y, cy, rfl, ho⟩
  clear hW0 i0 i1 i2 i3 i4 cO
  have HRw : Hid (RowI w1 y Q.length (gi Q)) := MineI.row (OwnI.own ho).1
  have HOn : Hid (OwnI w1 W0.heap.size (.slice y Q.length cy) Q) := ho
  clear ho
  have z1 := b1.size
  go_wp2_with fail
  refine (All_any _ _ _ _).mono ?_
  rintro e w2 ⟨rfl, rfl⟩
  obtain ⟨W2, hW2⟩ : ∃ W2, w1.alloc (.cells #[.slice y Q.length cy] 25) = W2 := ⟨_, rfl⟩
  have b2 : Below w1.heap.size w1 W2 := by subst hW2; exact below_alloc _ _
  have B2 : W2.heap[w1.heap.size]? = some (.cells #[.slice y Q.length cy] 25 (0, 0)) := by subst hW2; exact al1 _ _
  have b02 : Below W0.heap.size W0 W2 := Below.comp b1 b2
  have z2 := box_lt B2
  have hSx : SxI W2 W2.heap.size w1.heap.size y Q.length cy (gi Q) := ⟨z2, (cell1 B2).1, fun hq => by
    rcases HOn.out.2 with ⟨-, h⟩ | ⟨g, cap, cur, h1, hbb, hg, h2⟩
    · exact absurd h hq
    · simp only [Value.slice.injEq] at h1
      obtain ⟨rfl, -, rfl⟩ := h1
      obtain ⟨bq, oq, hbq, hcq⟩ := (HRw.out.below b2) hq
      simp only [Option.some.injEq, Addr.mk.injEq] at hbq
      obtain ⟨rfl, rfl, -⟩ := hbq
      exact ⟨g, 0, rfl, by have := box_lt hg; have := b2.size; omega, hcq⟩⟩
  have hL2 : W2.cell? ⟨D + 1, 0, none⟩ = some (.int .i64 id) := (cell1 (box_on H2.out b02)).1
  have cF := first48 w1.heap.size (D + 1) y Q.length cy (gi Q) (fun x => decide (x.i = id)) W2 (by omega) hSx (fun iq hiq W hW => isId_any (gi Q iq) (D + 1) id W (cell_on hL2 hW))
  rw [hW2]
  clear hSx hL2 B2 hW2
  go_wp2_with fail
  refine cF.mono ?_
  rintro e w3 ⟨b3, x, r, rfl, hfst⟩
  clear cF
  obtain ⟨ht1, ht0⟩ := HF.out x r hfst
  have b03 : Below W0.heap.size W0 w3 := Below.comp b02 b3
  have g3 : Below w.heap.size w w3 := Below.comp g0 b03
  have z3 := b03.size
  obtain ⟨X, hX⟩ : ∃ X, w3.heap.size = X := ⟨_, rfl⟩
  obtain ⟨W4, hW4⟩ : ∃ W4, w3.alloc (.cells #[.int .i64 x.k, .int .i64 x.i, .int .i64 x.x.1, .int .i64 x.x.2, .int .i64 x.u] 71) = W4 := ⟨_, rfl⟩
  have b4 : Below w3.heap.size w3 W4 := by subst hW4; exact below_alloc _ _
  have HX : Hid (W4.heap[X]? = some (.cells #[.int .i64 x.k, .int .i64 x.i, .int .i64 x.x.1, .int .i64 x.x.2, .int .i64 x.u] 71 (0, 0))) := by subst hW4 hX; exact al1 _ _
  have b04 : Below W0.heap.size W0 W4 := Below.comp b03 b4
  have z4 := b4.size
  have K3 : Hid (W4.heap[D + 1 + 1]? = some (.cells #[.int .i64 0, .slice none 0 0, .slice none 0 0, .int .i64 0, .slice none 0 0] 27 (0, 0))) := box_on H3.out b04
  obtain ⟨r0, r1, r2, r3, r4⟩ := box5_cells K3.out
  obtain ⟨q0, q1, q2, q3, q4⟩ := box5_free K3.out
  have HT1 : Hid (r = true → F0 = some x ∧ x ∈ Q ∧ x.i = id) := ht1
  have HT0 : Hid (r = false → F0 = none) := ht0
  clear ht1 ht0 hfst
  have hXX : Hid (X = w3.heap.size) := hX.symm
  have HSx : Hid (r = true → Sml x) := fun h => HSm.out x (HT1.out h).2.1
  have HU : Hid (wkU x many = if many < x.x.2 - x.u then x.u + many else x.x.2) := rfl
  obtain ⟨U, hU0⟩ : ∃ U, wkU x many = U := ⟨_, rfl⟩
  rw [hU0] at HU
  have HR2 : Hid (r = true → 1 ≤ many → R = some ⟨2, id, (0, 0), U⟩) := fun h h1 => by
    have h2 := HI2.out x (HT1.out h).1 h1
    rw [hU0] at h2
    exact h2
  clear hU0
  obtain ⟨pk, pi, ⟨px, py⟩, pu⟩ := x
  simp only at hW4 HX HU
  by_cases hbad : r = false ∨ many < 1
  · have hok : ok = false := by
      rcases hbad with h | h
      · exact HNo.out (HI0.out (HT0.out h))
      · exact HNo.out (HI1.out h)
    have HZn := HZ.out hok
    subst hok
    have HZh : Hid (∀ (w' : World) (B : Nat), WkM w' B B (wv 0 none 0 0 none 0 0 0 none 0 0) (wiB false b) (wiL false l).length (wiL false s).length (wiL false (t ++ [Y])).length (gx (wiL false l)) (gx (wiL false s)) (wiB false nx) (gi (wiL false (t ++ [Y])))) := HZn
    clear HZn HI2 HR2 HT1
    rcases hbad with h | h
    · subst h
      go_wp2
      obtain ⟨W6, hW6⟩ : ∃ W6, ((((W4.setCell ⟨D + 1 + 1, 0, none⟩ (.int .i64 0)).setCell ⟨D + 1 + 1, 1, none⟩ (.slice none 0 0)).setCell ⟨D + 1 + 1, 2, none⟩ (.slice none 0 0)).setCell ⟨D + 1 + 1, 3, none⟩ (.int .i64 0)).setCell ⟨D + 1 + 1, 4, none⟩ (.slice none 0 0) = W6 := ⟨_, rfl⟩
      have o6 : Out (D + 1 + 1) (D + 1 + 1 + 1) W4 W6 := by subst hW6; exact box5_out _ _ _ _ _ _ _
      have R6 : W6.heap[D + 1 + 1]? = some (.cells #[.int .i64 0, .slice none 0 0, .slice none 0 0, .int .i64 0, .slice none 0 0] 27 (0, 0)) := by subst hW6; exact box5_set K3.out
      rw [hW6]
      clear hW6 r0 r1 r2 r3 r4 q0 q1 q2 q3 q4
      obtain ⟨t0, t1, t2, t3, t4⟩ := box5_cells R6
      have z6 := o6.size
      refine bodyPost_ret (v := .tuple #[wv 0 none 0 0 none 0 0 0 none 0 0, .bool false]) (by simp [results, Try.results22, go_sem, t0, t1, t2, t3, t4]) rfl ?_
      exact ⟨(Below.comp g0 b04).trans ((o6.below (by omega)).mono (by omega)), _, rfl, (HZh.out W6 w.heap.size).mono (Nat.le_refl _) (by omega)⟩
    · cases r
      all_goals
        go_wp2
        obtain ⟨W6, hW6⟩ : ∃ W6, ((((W4.setCell ⟨D + 1 + 1, 0, none⟩ (.int .i64 0)).setCell ⟨D + 1 + 1, 1, none⟩ (.slice none 0 0)).setCell ⟨D + 1 + 1, 2, none⟩ (.slice none 0 0)).setCell ⟨D + 1 + 1, 3, none⟩ (.int .i64 0)).setCell ⟨D + 1 + 1, 4, none⟩ (.slice none 0 0) = W6 := ⟨_, rfl⟩
        have o6 : Out (D + 1 + 1) (D + 1 + 1 + 1) W4 W6 := by subst hW6; exact box5_out _ _ _ _ _ _ _
        have R6 : W6.heap[D + 1 + 1]? = some (.cells #[.int .i64 0, .slice none 0 0, .slice none 0 0, .int .i64 0, .slice none 0 0] 27 (0, 0)) := by subst hW6; exact box5_set K3.out
        rw [hW6]
        clear hW6 r0 r1 r2 r3 r4 q0 q1 q2 q3 q4
        obtain ⟨t0, t1, t2, t3, t4⟩ := box5_cells R6
        have z6 := o6.size
        refine bodyPost_ret (v := .tuple #[wv 0 none 0 0 none 0 0 0 none 0 0, .bool false]) (by simp [results, Try.results22, go_sem, t0, t1, t2, t3, t4]) rfl ?_
        exact ⟨(Below.comp g0 b04).trans ((o6.below (by omega)).mono (by omega)), _, rfl, (HZh.out W6 w.heap.size).mono (Nat.le_refl _) (by omega)⟩
  · obtain rfl : r = true := by
      cases r with
      | true => rfl
      | false => exact absurd (.inl rfl) hbad
    have hm1 : 1 ≤ many := by
      by_cases h : 1 ≤ many
      · exact h
      · exact absurd (.inr (by omega)) hbad
    have hm1' : ¬ many < 1 := by omega
    clear hbad
    have hsx := HSx.out rfl
    obtain ⟨hs1, hs2, hs3⟩ := hsx
    simp only at hs1 hs2 hs3
    obtain ⟨hY1, hY2⟩ := HYe.out _ (HR2.out rfl hm1)
    subst hY2
    have cW' := cW U
    rw [← hY1] at cW'
    have cL := fun W => leftOf_any ⟨pk, pi, (px, py), pu⟩ W ⟨hs1, hs2, hs3⟩
    simp only at cL
    have hU : pu + min many (py - pu) = U := by rw [HU.out]; split <;> omega
    have hmb : min many (py - pu) ≤ 400 ∧ 0 ≤ min many (py - pu) := by omega
    have hwU : IntKind.i64.wrap (pu + min many (py - pu)) = U := by rw [wrapI (by omega) (by omega)]; exact hU
    clear hY1 HYe HNo HI0 HI1 HI2 HR2 HT1 HT0 HSx HZ HF cW HU hU
    go_wp2
    clear r0 r1 r2 r3 r4 q0 q1 q2 q3 q4 hW4 hX
    obtain ⟨WZ, hWZ⟩ : ∃ WZ, W4.drew = WZ := ⟨_, rfl⟩
    have BZ : Below W4.heap.size W4 WZ := by subst hWZ; exact Below.drew (Below.refl _ _)
    have SZ : Hid (∀ W0' W : World, Below W4.heap.size W4 W0' → (∀ k, k ≠ D + 1 + 1 → k < W4.heap.size → W.heap[k]? = W0'.heap[k]?) → W.cell? ⟨D, 0, none⟩ = some (.int .i64 b) ∧ W.cell? ⟨D, 1, none⟩ = some (.slice a n ca) ∧ W.cell? ⟨D, 2, none⟩ = some (.slice a' n' ca') ∧ W.cell? ⟨D, 3, none⟩ = some (.int .i64 nx) ∧ W.cell? ⟨D, 4, none⟩ = some (.slice i m ci) ∧ W.cell? ⟨D + 1, 0, none⟩ = some (.int .i64 id) ∧ W.cell? ⟨X, 0, none⟩ = some (.int .i64 pk) ∧ W.cell? ⟨X, 1, none⟩ = some (.int .i64 pi) ∧ W.cell? ⟨X, 2, none⟩ = some (.int .i64 px) ∧ W.cell? ⟨X, 3, none⟩ = some (.int .i64 py) ∧ W.cell? ⟨X, 4, none⟩ = some (.int .i64 pu)) := fun W0' W hb hk => by
      have k1 : W.heap[D]? = some (.cells #[.int .i64 b, .slice a n ca, .slice a' n' ca', .int .i64 nx, .slice i m ci] 27 (0, 0)) := (hk D (by omega) (by omega)).trans (box_on (box_on H1.out b04) hb)
      have k2 : W.heap[D + 1]? = some (.cells #[.int .i64 id] 3 (0, 0)) := (hk (D + 1) (by omega) (by omega)).trans (box_on (box_on H2.out b04) hb)
      have k3 : W.heap[X]? = some (.cells #[.int .i64 pk, .int .i64 pi, .int .i64 px, .int .i64 py, .int .i64 pu] 71 (0, 0)) := (hk X (by have := hXX.out; omega) (box_lt HX.out)).trans (box_on HX.out hb)
      obtain ⟨h0, h1, h2, h3, h4⟩ := box5_cells k1
      obtain ⟨j0, j1, j2, j3, j4⟩ := box5_cells k3
      exact ⟨h0, h1, h2, h3, h4, (cell1 k2).1, j0, j1, j2, j3, j4⟩
    refine wp_region_L (fun W => W.cell? ⟨D, 0, none⟩ = some (.int .i64 b) ∧ W.cell? ⟨D, 1, none⟩ = some (.slice a n ca) ∧ W.cell? ⟨D, 2, none⟩ = some (.slice a' n' ca') ∧ W.cell? ⟨D, 3, none⟩ = some (.int .i64 nx) ∧ W.cell? ⟨D, 4, none⟩ = some (.slice i m ci) ∧ W.cell? ⟨D + 1, 0, none⟩ = some (.int .i64 id) ∧ W.cell? ⟨X, 0, none⟩ = some (.int .i64 pk) ∧ W.cell? ⟨X, 1, none⟩ = some (.int .i64 pi) ∧ W.cell? ⟨X, 2, none⟩ = some (.int .i64 px) ∧ W.cell? ⟨X, 3, none⟩ = some (.int .i64 py) ∧ W.cell? ⟨X, 4, none⟩ = some (.int .i64 pu)) 17 17 (by kernel_rfl) rfl (by rw [hWZ]; exact SZ.out WZ WZ BZ (fun _ _ _ => rfl)) (fun hS0 => ?_)
    rw [hWZ] at hS0
    rw [hWZ]
    clear hWZ
    refine tkL (i := 0) (d := 31) (v := ?_) rfl rfl (by kernel_rfl) (by kernel_rfl) (by kernel_rfl) (by kernel_rfl) (fun _ _ _ h => h) (Or.inl ⟨by rfl, by intro wq hSq; obtain ⟨s0, s1, s2, s3, s4, s5, s6, s7, s8, s9, s10⟩ := hSq; go_simp; try with_reducible rfl⟩) (by assumption) ?_
    simp only [List.setIfInBounds_toArray, List.set_cons_zero, List.set_cons_succ]
    refine tkL (i := 1) (d := 32) (v := ?_) rfl rfl (by kernel_rfl) (by kernel_rfl) (by kernel_rfl) (by kernel_rfl) (fun _ _ _ h => h) (Or.inl ⟨by rfl, by intro wq hSq; obtain ⟨s0, s1, s2, s3, s4, s5, s6, s7, s8, s9, s10⟩ := hSq; go_simp; try with_reducible rfl⟩) (by assumption) ?_
    simp only [List.setIfInBounds_toArray, List.set_cons_zero, List.set_cons_succ]
    refine tkL (i := 2) (d := 33) (v := ?_) rfl rfl (by kernel_rfl) (by kernel_rfl) (by kernel_rfl) (by kernel_rfl) (fun _ _ _ h => h) (Or.inl ⟨by rfl, by intro wq hSq; obtain ⟨s0, s1, s2, s3, s4, s5, s6, s7, s8, s9, s10⟩ := hSq; go_simp; try with_reducible rfl⟩) (by assumption) ?_
    simp only [List.setIfInBounds_toArray, List.set_cons_zero, List.set_cons_succ]
    refine tkL (i := 3) (d := 34) (v := ?_) rfl rfl (by kernel_rfl) (by kernel_rfl) (by kernel_rfl) (by kernel_rfl) (fun _ _ _ h => h) (Or.inl ⟨by rfl, by intro wq hSq; obtain ⟨s0, s1, s2, s3, s4, s5, s6, s7, s8, s9, s10⟩ := hSq; go_simp; try with_reducible rfl⟩) (by assumption) ?_
    simp only [List.setIfInBounds_toArray, List.set_cons_zero, List.set_cons_succ]
    refine tkL (i := 4) (d := 35) (v := ?_) rfl rfl (by kernel_rfl) (by kernel_rfl) (by kernel_rfl) (by kernel_rfl) (fun _ _ _ h => h) (Or.inl ⟨by rfl, by intro wq hSq; obtain ⟨s0, s1, s2, s3, s4, s5, s6, s7, s8, s9, s10⟩ := hSq; go_simp; try with_reducible rfl⟩) (by assumption) ?_
    simp only [List.setIfInBounds_toArray, List.set_cons_zero, List.set_cons_succ]
    refine tkL (i := 5) (d := 36) (v := ?_) rfl rfl (by kernel_rfl) (by kernel_rfl) (by kernel_rfl) (by kernel_rfl) (fun _ _ _ h => h) (Or.inl ⟨by rfl, by intro wq hSq; obtain ⟨s0, s1, s2, s3, s4, s5, s6, s7, s8, s9, s10⟩ := hSq; go_simp; try with_reducible rfl⟩) (by assumption) ?_
    simp only [List.setIfInBounds_toArray, List.set_cons_zero, List.set_cons_succ]
    refine tkL (i := 10) (d := 41) (v := ?_) rfl rfl (by kernel_rfl) (by kernel_rfl) (by kernel_rfl) (by kernel_rfl) (fun _ _ _ h => h) (Or.inl ⟨by rfl, by intro wq hSq; obtain ⟨s0, s1, s2, s3, s4, s5, s6, s7, s8, s9, s10⟩ := hSq; go_simp; try with_reducible rfl⟩) (by assumption) ?_
    simp only [List.setIfInBounds_toArray, List.set_cons_zero, List.set_cons_succ]
    refine tkL (i := 11) (d := 42) (v := ?_) rfl rfl (by kernel_rfl) (by kernel_rfl) (by kernel_rfl) (by kernel_rfl) (fun _ _ _ h => h) (Or.inl ⟨by rfl, by intro wq hSq; obtain ⟨s0, s1, s2, s3, s4, s5, s6, s7, s8, s9, s10⟩ := hSq; go_simp; try with_reducible rfl⟩) (by assumption) ?_
    simp only [List.setIfInBounds_toArray, List.set_cons_zero, List.set_cons_succ]
    refine oneL (i := 6) rfl (by kernel_rfl) (fun K0 hK0 => ?_)
    go_simp
    refine (cL _).mono ?_
    rintro e w5 ⟨rfl, b5⟩
    have B5 : Below W4.heap.size W4 w5 := Below.comp BZ b5
    have S5 := SZ.out w5 w5 B5 (fun _ _ _ => rfl)
    refine hK0.out _ _ S5 (fun _ => ?_)
    clear hK0 K0
    refine tkL (i := 7) (d := 38) (v := ?_) rfl rfl (by kernel_rfl) (by kernel_rfl) (by kernel_rfl) (by kernel_rfl) (fun _ _ _ h => h) (Or.inl ⟨by rfl, by intro wq hSq; go_simp; try with_reducible rfl⟩) (by assumption) ?_
    simp only [List.setIfInBounds_toArray, List.set_cons_zero, List.set_cons_succ]
    refine tkL (i := 8) (d := 39) (v := ?_) rfl rfl (by kernel_rfl) (by kernel_rfl) (by kernel_rfl) (by kernel_rfl) (fun _ _ _ h => h) (Or.inl ⟨by rfl, by intro wq hSq; go_simp; try with_reducible rfl⟩) (by assumption) ?_
    simp only [List.setIfInBounds_toArray, List.set_cons_zero, List.set_cons_succ]
    refine tkL (i := 9) (d := 40) (v := ?_) rfl rfl (by kernel_rfl) (by kernel_rfl) (by kernel_rfl) (by kernel_rfl) (fun _ _ _ h => h) (Or.inl ⟨by rfl, by intro wq hSq; go_simp; try with_reducible rfl⟩) (by assumption) ?_
    simp only [List.setIfInBounds_toArray, List.set_cons_zero, List.set_cons_succ]
    refine oneL (i := 12) rfl (by kernel_rfl) (fun K0 hK0 => ?_)
    go_simp
    refine (cW' _ (Below.comp g0 (Below.comp b04 B5))).mono ?_
    rintro e w6 ⟨b6, v6, rfl, m6⟩
    have B6 : Below W4.heap.size W4 w6 := Below.comp B5 b6
    have S6 := SZ.out w6 w6 B6 (fun _ _ _ => rfl)
    have M6 : Hid (WkM w6 w5.heap.size w6.heap.size v6 (wiB ok b) (wiL ok l).length (wiL ok s).length (wiL ok (t ++ [⟨2, id, (0, 0), U⟩])).length (gx (wiL ok l)) (gx (wiL ok s)) (wiB ok nx) (gi (wiL ok (t ++ [⟨2, id, (0, 0), U⟩])))) := m6
    obtain ⟨x, c, x', c', y6, c6, -, -, -, -, -, -, rfl, -⟩ := m6
    refine hK0.out _ _ S6 (fun _ => ?_)
    clear hK0 K0
    refine tkL (i := 13) (d := 44) (v := ?_) rfl rfl (by kernel_rfl) (by kernel_rfl) (by kernel_rfl) (by kernel_rfl) (fun _ _ _ h => h) (Or.inl ⟨by rfl, by intro wq hSq; go_simp; try with_reducible rfl⟩) (by assumption) ?_
    simp only [List.setIfInBounds_toArray, List.set_cons_zero, List.set_cons_succ]
    refine tkL (i := 14) (d := 45) (v := ?_) rfl rfl (by kernel_rfl) (by kernel_rfl) (by kernel_rfl) (by kernel_rfl) (fun _ _ _ h => h) (Or.inl ⟨by rfl, by intro wq hSq; go_simp; try with_reducible rfl⟩) (by assumption) ?_
    simp only [List.setIfInBounds_toArray, List.set_cons_zero, List.set_cons_succ]
    have KZ : Hid (w6.heap[D + 1 + 1]? = some (.cells #[.int .i64 0, .slice none 0 0, .slice none 0 0, .int .i64 0, .slice none 0 0] 27 (0, 0))) := box_on K3.out B6
    obtain ⟨r0, r1, r2, r3, r4⟩ := box5_cells KZ.out
    obtain ⟨q0, q1, q2, q3, q4⟩ := box5_free KZ.out
    refine oneL (i := 15) rfl (by kernel_rfl) (fun K0 hK0 => ?_)
    go_simp
    obtain ⟨W7, hW7⟩ : ∃ W7, ((((w6.setCell ⟨D + 1 + 1, 0, none⟩ (.int .i64 (wiB ok b))).setCell ⟨D + 1 + 1, 1, none⟩ (.slice x (wiL ok l).length c)).setCell ⟨D + 1 + 1, 2, none⟩ (.slice x' (wiL ok s).length c')).setCell ⟨D + 1 + 1, 3, none⟩ (.int .i64 (wiB ok nx))).setCell ⟨D + 1 + 1, 4, none⟩ (.slice y6 (wiL ok (t ++ [⟨2, id, (0, 0), U⟩])).length c6) = W7 := ⟨_, rfl⟩
    have o7 : Out (D + 1 + 1) (D + 1 + 1 + 1) w6 W7 := by subst hW7; exact box5_out _ _ _ _ _ _ _
    have R7 : W7.heap[D + 1 + 1]? = some (.cells #[.int .i64 (wiB ok b), .slice x (wiL ok l).length c, .slice x' (wiL ok s).length c', .int .i64 (wiB ok nx), .slice y6 (wiL ok (t ++ [⟨2, id, (0, 0), U⟩])).length c6] 27 (0, 0)) := by subst hW7; exact box5_set KZ.out
    first | rw [hW7] | skip
    have zz6 := B6.size
    have S7 := SZ.out w6 W7 B6 (fun k h1 h2 => o7.block k (by omega) (by omega))
    refine hK0.out _ _ S7 (fun _ => ?_)
    clear hK0 K0 hW7 r0 r1 r2 r3 r4 q0 q1 q2 q3 q4
    refine oneL (i := 16) rfl (by kernel_rfl) (fun K0 hK0 => ?_)
    go_simp
    refine hK0.out _ _ S7 (fun _ => ?_)
    clear hK0 K0
    refine ⟨by kernel_rfl, ?_⟩
    obtain ⟨t0, t1, t2, t3, t4⟩ := box5_cells R7
    have z7 := o7.size
    have zz5 := B5.size
    clear S7 S6 S5 hS0
    go_wp2
    refine bodyPost_ret (v := .tuple #[wv (wiB ok b) x (wiL ok l).length c x' (wiL ok s).length c' (wiB ok nx) y6 (wiL ok (t ++ [⟨2, id, (0, 0), U⟩])).length c6, .bool ok]) (by simp [results, Try.results22, go_sem, t0, t1, t2, t3, t4]) rfl ?_
    exact ⟨(Below.comp g0 (Below.comp b04 B6)).trans ((o7.below (by omega)).mono (by omega)), _, rfl, (M6.out.out o7 (.inr (by omega))).mono (by omega) (by omega)⟩
end Go.Proofs.Ytpolhigpcllhiaa
