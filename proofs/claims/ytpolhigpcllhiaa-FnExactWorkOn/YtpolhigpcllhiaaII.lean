import Derived.Test.YtpolhigpcllhiaaIH
/- A promise made: the program's side. -/
namespace Go.Proofs.Ytpolhigpcllhiaa
open Go.ChangeShapes Go.WideShapes Go.ChangeAt Go.RowKit
set_option linter.unusedVariables false
open Room

attribute [local go_sem] Oper.semAt_some

set_option maxRecDepth 10000 in
set_option maxHeartbeats 1500000 in
theorem implPromise_any (b : Int) (a : Option Addr) (ca : Nat) (a' : Option Addr) (ca' : Nat) (l s : List Ex) (nx : Int) (i : Option Addr) (ci : Nat) (t : List It) (x : Ex) (w : World) (hn : l.length ≤ 1048576) (hn' : s.length ≤ 1048576) (hm : t.length ≤ 1048576) (h0 : -9223372036854775808 ≤ nx) (h1 : nx ≤ 9223372036854775807) (hx : ∀ x, x ∈ l → x.1 ≤ 9223372036854775807) (hxi : ∀ x, x ∈ t → x.x.1 ≤ 9223372036854775807) (hxx : x.1 ≤ 9223372036854775807) (ha : Exs w a l) (ha' : Exs w a' s) (hi : Its w i t) :
    Calls Try.prog 20 #[wv b a l.length ca a' s.length ca' nx i t.length ci, xv x] w fun e w' => Below w.heap.size w w' ∧ ∃ v, e = .returned (.tuple #[v, .int .i64 (wiB (okP b l s nx t x) nx), .bool (okP b l s nx t x)]) ∧ WkM w' w.heap.size w'.heap.size v (wiB (okP b l s nx t x) b) (wiL (okP b l s nx t x) l).length (wiL (okP b l s nx t x) s).length (wiL (okP b l s nx t x) (t ++ [⟨1, nx, x, 0⟩])).length (gx (wiL (okP b l s nx t x) l)) (gx (wiL (okP b l s nx t x) s)) (wiB (okP b l s nx t x) (nx + 1)) (gi (wiL (okP b l s nx t x) (t ++ [⟨1, nx, x, 0⟩]))) := by
  have cW := fun W h => withItem_any b a ca a' ca' l s nx i ci t ⟨1, nx, x, 0⟩ (IntKind.i64.wrap (nx + 1)) W hn hn' hm hx (fun y hy => by rcases List.mem_append.1 hy with q | q; exact hxi y q; rw [List.mem_singleton.1 q]; exact hxx) (ha.below h) (ha'.below h) (hi.below h)
  obtain ⟨nw, hnw⟩ : ∃ nw, IntKind.i64.wrap (nx + 1) = nw := ⟨_, rfl⟩
  have hok := okP_impl b l s nx t x h0 h1
  rw [hnw] at cW hok
  rw [hok] at cW
  clear hok
  have hw : wiB (okP b l s nx t x) nw = wiB (okP b l s nx t x) (nx + 1) := by
    cases h : okP b l s nx t x with
    | false => rfl
    | true =>
      unfold okP at h
      have h2 := gw_nx (Bool.and_eq_true_iff.1 h).1
      rw [← hnw, wrapI (by omega) (by omega)]
  rw [hw] at cW
  clear hw h0 h1 ha ha' hi hx hxi hxx
  generalize okP b l s nx t x = ok at *
  obtain ⟨p, q⟩ := x
  have HN : Hid (ok = false → ∀ (w' : World) (B : Nat), WkM w' B B (wv 0 none 0 0 none 0 0 0 none 0 0) (wiB ok b) (wiL ok l).length (wiL ok s).length (wiL ok (t ++ [⟨1, nx, (p, q), 0⟩])).length (gx (wiL ok l)) (gx (wiL ok s)) (wiB ok (nx + 1)) (gi (wiL ok (t ++ [⟨1, nx, (p, q), 0⟩])))) := fun h w' B => by
    subst h
    exact WkM.nil w' B 0
  have HT : Hid (ok = true → wiB ok nx = nx) := fun h => by subst h; rfl
  have HF : Hid (ok = false → wiB ok nx = 0) := fun h => by subst h; rfl
  generalize (wiL ok (t ++ [⟨1, nx, (p, q), 0⟩])).length = N3 at *
  generalize gi (wiL ok (t ++ [⟨1, nx, (p, q), 0⟩])) = G3 at *
  generalize (wiL ok l).length = N1 at *
  generalize gx (wiL ok l) = G1 at *
  generalize (wiL ok s).length = N2 at *
  generalize gx (wiL ok s) = G2 at *
  generalize wiB ok b = bb at *
  generalize wiB ok (nx + 1) = nn at *
  generalize wiB ok nx = ni at *
  generalize l.length = n at *
  generalize s.length = n' at *
  generalize t.length = m at *
  obtain ⟨D, hD⟩ : ∃ D, w.heap.size = D := ⟨_, rfl⟩
  obtain ⟨W0, hW0⟩ : ∃ W0, ((w.alloc (.cells #[.int .i64 b, .slice a n ca, .slice a' n' ca', .int .i64 nx, .slice i m ci] 27)).alloc (.cells #[.int .i64 p, .int .i64 q] 47)).alloc (.cells #[.int .i64 0, .slice none 0 0, .slice none 0 0, .int .i64 0, .slice none 0 0] 27) = W0 := ⟨_, rfl⟩
  have g0 : Below w.heap.size w W0 := by subst hW0; exact ba3 _ _ _ _
  obtain ⟨B1, B2, B3⟩ : W0.heap[D]? = some (.cells #[.int .i64 b, .slice a n ca, .slice a' n' ca', .int .i64 nx, .slice i m ci] 27 (0, 0)) ∧ W0.heap[D + 1]? = some (.cells #[.int .i64 p, .int .i64 q] 47 (0, 0)) ∧ W0.heap[D + 1 + 1]? = some (.cells #[.int .i64 0, .slice none 0 0, .slice none 0 0, .int .i64 0, .slice none 0 0] 27 (0, 0)) := by subst hW0 hD; exact al3 _ _ _ _
  have H1 : Hid (W0.heap[D]? = some (.cells #[.int .i64 b, .slice a n ca, .slice a' n' ca', .int .i64 nx, .slice i m ci] 27 (0, 0))) := B1
  have H3 : Hid (W0.heap[D + 1 + 1]? = some (.cells #[.int .i64 0, .slice none 0 0, .slice none 0 0, .int .i64 0, .slice none 0 0] 27 (0, 0))) := B3
  have z0 := box_lt B3
  obtain ⟨i0, i1, i2, i3, i4⟩ := box5_cells B1
  obtain ⟨j0, j1, -, -⟩ := box2_cells B2
  clear B1 B2 B3
  go_enter Try.func20, Try.ntmps20
  go_wp2_with fail
  refine (cW _ g0).mono ?_
  rintro e w1 ⟨b1, v1, rfl, m1⟩
  clear hW0 i0 i1 i2 i3 i4 j0 j1 cW
  have M1 : Hid (WkM w1 W0.heap.size w1.heap.size v1 bb N1 N2 N3 G1 G2 nn G3) := m1
  obtain ⟨x, c, x', c', y, cy, -, -, -, -, -, -, rfl, -⟩ := m1
  have z1 := b1.size
  obtain ⟨E, hE⟩ : ∃ E, w1.heap.size = E := ⟨_, rfl⟩
  obtain ⟨W2, hW2⟩ : ∃ W2, w1.alloc (.cells #[.int .i64 bb, .slice x N1 c, .slice x' N2 c', .int .i64 nn, .slice y N3 cy] 27) = W2 := ⟨_, rfl⟩
  have b2 : Below w1.heap.size w1 W2 := by subst hW2; exact below_alloc _ _
  have HE : Hid (W2.heap[E]? = some (.cells #[.int .i64 bb, .slice x N1 c, .slice x' N2 c', .int .i64 nn, .slice y N3 cy] 27 (0, 0))) := by subst hW2 hE; exact al1 _ _
  have b02 : Below W0.heap.size W0 W2 := Below.comp b1 b2
  have K1 := box_on H1.out b02
  have K3 : Hid (W2.heap[D + 1 + 1]? = some (.cells #[.int .i64 0, .slice none 0 0, .slice none 0 0, .int .i64 0, .slice none 0 0] 27 (0, 0))) := box_on H3.out b02
  have z2 := b2.size
  have M2 : Hid (WkM W2 W0.heap.size w1.heap.size (wv bb x N1 c x' N2 c' nn y N3 cy) bb N1 N2 N3 G1 G2 nn G3) := M1.out.below b2
  obtain ⟨i0, i1, i2, i3, i4⟩ := box5_cells K1
  obtain ⟨e0, e1, e2, e3, e4⟩ := box5_cells HE.out
  obtain ⟨r0, r1, r2, r3, r4⟩ := box5_cells K3.out
  obtain ⟨q0, q1, q2, q3, q4⟩ := box5_free K3.out
  have hzw : w.heap.size ≤ W0.heap.size := g0.size
  have hEE : Hid (E = w1.heap.size) := hE.symm
  clear K1
  cases ok with
  | false =>
    have hni := HF.out rfl
    have HNn := HN.out rfl
    subst hni
    have HNh : Hid (∀ (w' : World) (B : Nat), WkM w' B B (wv 0 none 0 0 none 0 0 0 none 0 0) bb N1 N2 N3 G1 G2 nn G3) := HNn
    clear HNn
    go_wp2
    obtain ⟨W6, hW6⟩ : ∃ W6, ((((W2.setCell ⟨D + 1 + 1, 0, none⟩ (.int .i64 0)).setCell ⟨D + 1 + 1, 1, none⟩ (.slice none 0 0)).setCell ⟨D + 1 + 1, 2, none⟩ (.slice none 0 0)).setCell ⟨D + 1 + 1, 3, none⟩ (.int .i64 0)).setCell ⟨D + 1 + 1, 4, none⟩ (.slice none 0 0) = W6 := ⟨_, rfl⟩
    have o6 : Out (D + 1 + 1) (D + 1 + 1 + 1) W2 W6 := by subst hW6; exact box5_out _ _ _ _ _ _ _
    have R6 : W6.heap[D + 1 + 1]? = some (.cells #[.int .i64 0, .slice none 0 0, .slice none 0 0, .int .i64 0, .slice none 0 0] 27 (0, 0)) := by subst hW6; exact box5_set K3.out
    rw [hW6]
    clear hW6 i0 i1 i2 i3 i4 e0 e1 e2 e3 e4 r0 r1 r2 r3 r4 q0 q1 q2 q3 q4
    obtain ⟨t0, t1, t2, t3, t4⟩ := box5_cells R6
    have z6 := o6.size
    refine bodyPost_ret (v := .tuple #[wv 0 none 0 0 none 0 0 0 none 0 0, .int .i64 0, .bool false]) (by simp [results, Try.results20, go_sem, t0, t1, t2, t3, t4]) rfl ?_
    exact ⟨(Below.comp g0 b02).trans ((o6.below (by omega)).mono (by omega)), _, rfl, (HNh.out W6 w.heap.size).mono (Nat.le_refl _) (by omega)⟩
  | true =>
    have hni := HT.out rfl
    subst hni
    go_wp2
    clear i0 i1 i2 i3 i4 e0 e1 e2 e3 e4 r0 r1 r2 r3 r4 q0 q1 q2 q3 q4 hW2 hE
    obtain ⟨WZ, hWZ⟩ : ∃ WZ, W2.drew = WZ := ⟨_, rfl⟩
    have BZ : Below W2.heap.size W2 WZ := by subst hWZ; exact Below.drew (Below.refl _ _)
    have SZ : Hid (∀ W6 : World, (∀ k, k ≠ D + 1 + 1 → k < WZ.heap.size → W6.heap[k]? = WZ.heap[k]?) → W6.cell? ⟨E, 0, none⟩ = some (.int .i64 bb) ∧ W6.cell? ⟨E, 1, none⟩ = some (.slice x N1 c) ∧ W6.cell? ⟨E, 2, none⟩ = some (.slice x' N2 c') ∧ W6.cell? ⟨E, 3, none⟩ = some (.int .i64 nn) ∧ W6.cell? ⟨E, 4, none⟩ = some (.slice y N3 cy) ∧ W6.cell? ⟨D, 3, none⟩ = some (.int .i64 ni)) := fun W6 hk => by
      have k1 : W6.heap[E]? = some (.cells #[.int .i64 bb, .slice x N1 c, .slice x' N2 c', .int .i64 nn, .slice y N3 cy] 27 (0, 0)) := (hk E (by have := hEE.out; omega) (by have := box_lt (box_on HE.out BZ); omega)).trans (box_on HE.out BZ)
      have k2 : W6.heap[D]? = some (.cells #[.int .i64 b, .slice a n ca, .slice a' n' ca', .int .i64 ni, .slice i m ci] 27 (0, 0)) := (hk D (by omega) (by have := box_lt (box_on H1.out (Below.comp b02 BZ)); omega)).trans (box_on H1.out (Below.comp b02 BZ))
      obtain ⟨h0, h1, h2, h3, h4⟩ := box5_cells k1
      obtain ⟨-, -, -, h5, -⟩ := box5_cells k2
      exact ⟨h0, h1, h2, h3, h4, h5⟩
    refine wp_region_L (fun W => W.cell? ⟨E, 0, none⟩ = some (.int .i64 bb) ∧ W.cell? ⟨E, 1, none⟩ = some (.slice x N1 c) ∧ W.cell? ⟨E, 2, none⟩ = some (.slice x' N2 c') ∧ W.cell? ⟨E, 3, none⟩ = some (.int .i64 nn) ∧ W.cell? ⟨E, 4, none⟩ = some (.slice y N3 cy) ∧ W.cell? ⟨D, 3, none⟩ = some (.int .i64 ni)) 6 6 (by kernel_rfl) rfl (by rw [hWZ]; exact SZ.out WZ (fun _ _ _ => rfl)) (fun hS0 => ?_)
    rw [hWZ] at hS0
    rw [hWZ]
    clear hWZ
    have KZ : Hid (WZ.heap[D + 1 + 1]? = some (.cells #[.int .i64 0, .slice none 0 0, .slice none 0 0, .int .i64 0, .slice none 0 0] 27 (0, 0))) := box_on K3.out BZ
    refine tkL (i := 0) (d := 24) (v := ?_) rfl rfl (by kernel_rfl) (by kernel_rfl) (by kernel_rfl) (by kernel_rfl) (fun _ _ _ h => h) (Or.inl ⟨by rfl, by intro wq hSq; obtain ⟨y0, y1, y2, y3, y4, y5⟩ := hSq; go_simp; try with_reducible rfl⟩) (by assumption) ?_
    simp only [List.setIfInBounds_toArray, List.set_cons_zero, List.set_cons_succ]
    refine tkL (i := 1) (d := 25) (v := ?_) rfl rfl (by kernel_rfl) (by kernel_rfl) (by kernel_rfl) (by kernel_rfl) (fun _ _ _ h => h) (Or.inl ⟨by rfl, by intro wq hSq; obtain ⟨y0, y1, y2, y3, y4, y5⟩ := hSq; go_simp; try with_reducible rfl⟩) (by assumption) ?_
    simp only [List.setIfInBounds_toArray, List.set_cons_zero, List.set_cons_succ]
    refine tkL (i := 2) (d := 26) (v := ?_) rfl rfl (by kernel_rfl) (by kernel_rfl) (by kernel_rfl) (by kernel_rfl) (fun _ _ _ h => h) (Or.inl ⟨by rfl, by intro wq hSq; obtain ⟨y0, y1, y2, y3, y4, y5⟩ := hSq; go_simp; try with_reducible rfl⟩) (by assumption) ?_
    simp only [List.setIfInBounds_toArray, List.set_cons_zero, List.set_cons_succ]
    obtain ⟨r0, r1, r2, r3, r4⟩ := box5_cells KZ.out
    obtain ⟨q0, q1, q2, q3, q4⟩ := box5_free KZ.out
    refine oneL (i := 3) rfl (by kernel_rfl) (fun K hK => ?_)
    go_simp
    obtain ⟨W6, hW6⟩ : ∃ W6, ((((WZ.setCell ⟨D + 1 + 1, 0, none⟩ (.int .i64 bb)).setCell ⟨D + 1 + 1, 1, none⟩ (.slice x N1 c)).setCell ⟨D + 1 + 1, 2, none⟩ (.slice x' N2 c')).setCell ⟨D + 1 + 1, 3, none⟩ (.int .i64 nn)).setCell ⟨D + 1 + 1, 4, none⟩ (.slice y N3 cy) = W6 := ⟨_, rfl⟩
    have o6 : Out (D + 1 + 1) (D + 1 + 1 + 1) WZ W6 := by subst hW6; exact box5_out _ _ _ _ _ _ _
    have R6 : W6.heap[D + 1 + 1]? = some (.cells #[.int .i64 bb, .slice x N1 c, .slice x' N2 c', .int .i64 nn, .slice y N3 cy] 27 (0, 0)) := by subst hW6; exact box5_set KZ.out
    first | rw [hW6] | skip
    have S6 := SZ.out W6 (fun k h1 h2 => o6.block k h2 (by omega))
    refine hK.out _ _ S6 (fun _ => ?_)
    clear hK K hW6 r0 r1 r2 r3 r4 q0 q1 q2 q3 q4
    refine oneL (i := 4) rfl (by kernel_rfl) (fun K hK => ?_)
    go_simp
    refine hK.out _ _ S6 (fun _ => ?_)
    clear hK K
    refine oneL (i := 5) rfl (by kernel_rfl) (fun K hK => ?_)
    go_simp
    refine hK.out _ _ S6 (fun _ => ?_)
    clear hK K
    refine ⟨by kernel_rfl, ?_⟩
    obtain ⟨t0, t1, t2, t3, t4⟩ := box5_cells R6
    have z6 := o6.size
    clear S6 hS0
    go_wp2
    refine bodyPost_ret (v := .tuple #[wv bb x N1 c x' N2 c' nn y N3 cy, .int .i64 ni, .bool true]) (by simp [results, Try.results20, go_sem, t0, t1, t2, t3, t4]) rfl ?_
    have zz := BZ.size
    exact ⟨(Below.comp g0 (Below.comp b02 BZ)).trans ((o6.below (by omega)).mono (by omega)), _, rfl, ((M2.out.below BZ).out o6 (.inr (by omega))).mono (by omega) (by omega)⟩
end Go.Proofs.Ytpolhigpcllhiaa
