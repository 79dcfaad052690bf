import Derived.Test.YtpolhigpcllhiaaIC
/- What is open: the model's list. -/
namespace Go.Proofs.Ytpolhigpcllhiaa
open Go.ChangeShapes Go.WideShapes Go.ChangeAt Go.RowKit
set_option linter.unusedVariables false
open Room

attribute [local go_sem] Oper.semAt_some

/-- The last number of what is done. -/
def lsU (id u0 : Int) (l : List It) : Int := l.foldl (fun u o => if o.i = id then o.u else u) u0
theorem fst_lsU (id : Int) : ∀ (l : List It) (c u0 : Int), (l.foldl (fst1 id) (c, u0)).2 = lsU id u0 l
  | [], c, u0 => rfl
  | o :: l, c, u0 => by
    show (l.foldl (fst1 id) (fst1 id (c, u0) o)).2 = lsU id (if o.i = id then o.u else u0) l
    unfold fst1
    by_cases h : o.i = id
    · rw [if_pos h, if_pos h]; exact fst_lsU id l _ _
    · rw [if_neg h, if_neg h]; exact fst_lsU id l _ _
theorem lsU_any {id : Int} : ∀ {l : List It} {x : It}, x ∈ l → x.i = id → ∀ u0 u1, lsU id u0 l = lsU id u1 l
  | [], x, h, _, _, _ => absurd h (by simp)
  | o :: l, x, h, hx, u0, u1 => by
    show lsU id (if o.i = id then o.u else u0) l = lsU id (if o.i = id then o.u else u1) l
    by_cases e : o.i = id
    · rw [if_pos e, if_pos e]
    · rw [if_neg e, if_neg e]
      have hm : x ∈ l := by
        rcases List.mem_cons.1 h with q | q
        · rw [q] at hx; exact absurd hx e
        · exact q
      exact lsU_any hm hx u0 u1
theorem lsU_fnd {t : List It} {x : It} (h : x ∈ t) : lsU x.i x.u t = (fnd t x.i).2 := by
  unfold fnd
  rw [fst_lsU]
  exact lsU_any h rfl _ _
theorem lsU_snoc (id u0 : Int) (l : List It) (o : It) : lsU id u0 (l ++ [o]) = if o.i = id then o.u else lsU id u0 l := by simp [lsU, List.foldl_append]
def updU (t : List It) (o : It) : It := { o with u := (fnd t o.i).2 }
/-- What is open of the first items. -/
def oA (t : List It) (k : Nat) : List It := (((t.take k).filter fun o => decide (o.k = 1)).map (updU t)).filter isO
theorem oA_all (t : List It) : oA t t.length = (prm t).filter isO := by unfold oA prm updU; rw [List.take_length]
theorem oA_no {t : List It} {k : Nat} (h : k < t.length) (hk : ¬ (gi t k).k = 1) : oA t (k + 1) = oA t k := by
  unfold oA
  rw [take_gi h, List.filter_append]
  simp [hk]
theorem oA_yes {t : List It} {k : Nat} (h : k < t.length) (hk : (gi t k).k = 1) (hi : isO (updU t (gi t k)) = true) : oA t (k + 1) = oA t k ++ [updU t (gi t k)] := by
  unfold oA
  rw [take_gi h, List.filter_append, List.map_append, List.filter_append]
  simp [hk, hi]
theorem oA_shut {t : List It} {k : Nat} (h : k < t.length) (hk : (gi t k).k = 1) (hi : isO (updU t (gi t k)) = false) : oA t (k + 1) = oA t k := by
  unfold oA
  rw [take_gi h, List.filter_append, List.map_append, List.filter_append]
  simp [hk, hi]
theorem oA_len (t : List It) (k : Nat) : (oA t k).length ≤ k := by
  unfold oA
  refine Nat.le_trans (List.length_filter_le _ _) ?_
  rw [List.length_map]
  refine Nat.le_trans (List.length_filter_le _ _) ?_
  rw [List.length_take]
  exact Nat.min_le_left _ _
set_option maxRecDepth 10000 in
set_option maxHeartbeats 4000000 in
theorem l12Open_any (i : Option Addr) (ci : Nat) (t : List It) (w : World) (hm : t.length ≤ 1048577) (hi : Its w i t) :
    Calls Try.prog 45 #[.slice i t.length ci] w fun e w' => Below w.heap.size w w' ∧ ∃ y cy, e = .returned (.slice y ((prm t).filter isO).length cy) ∧ OwnI w' w.heap.size (.slice y ((prm t).filter isO).length cy) ((prm t).filter isO) := by
  rw [← oA_all]
  have HI : Hid (RowI w i t.length (gi t)) := hi
  have HN : Hid (∀ k, k < t.length → ¬ (gi t k).k = 1 → oA t (k + 1) = oA t k) := fun k => oA_no
  have HY : Hid (∀ k, k < t.length → (gi t k).k = 1 → isO (updU t (gi t k)) = true → oA t (k + 1) = oA t k ++ [updU t (gi t k)]) := fun k => oA_yes
  have HS : Hid (∀ k, k < t.length → (gi t k).k = 1 → isO (updU t (gi t k)) = false → oA t (k + 1) = oA t k) := fun k => oA_shut
  have HU : Hid (∀ k, k < t.length → updU t (gi t k) = ⟨(gi t k).k, (gi t k).i, (gi t k).x, lsU (gi t k).i (gi t k).u (t.take t.length)⟩) := fun k hk => by
    unfold updU
    rw [List.take_length, lsU_fnd (by rw [gi_eq hk]; exact List.getElem_mem hk)]
  have HLs : Hid (∀ id u0 j, j < t.length → lsU id u0 (t.take (j + 1)) = if (gi t j).i = id then (gi t j).u else lsU id u0 (t.take j)) := fun id u0 j hj => by rw [take_gi hj, lsU_snoc]
  have HL0 : Hid (∀ id u0, lsU id u0 (t.take 0) = u0) := fun id u0 => by rw [List.take_zero]; rfl
  have HLn : Hid (∀ k, (oA t k).length ≤ k) := oA_len t
  have HO0 : Hid (oA t 0 = []) := by
    show oA t 0 = []
    unfold oA; rw [List.take_zero]; rfl
  obtain ⟨m, hml⟩ : ∃ m, t.length = m := ⟨_, rfl⟩
  rw [hml] at hm HI HN HY HS HU HLs
  rw [hml]
  clear hml hi
  go_enter Try.func45, Try.ntmps45
  go_wp2
  go_loopw [10, 3] (fun q sv wr => ∃ (k : Nat), k ≤ m ∧ q = .int .i64 k ∧ OwnI wr w.heap.size sv (oA t k) ∧ Below w.heap.size w wr) (fun q _ _ => m - (intOf q).toNat)
  case atStart => exact ⟨0, Nat.zero_le _, rfl, by rw [HO0.out]; exact OwnI.nil _ _, Below.refl _ _⟩
  case round =>
    obtain ⟨k, hk, rfl, ho, hb1⟩ := hrel
    obtain ⟨ya, yc, rfl⟩ := owns_form ho
    have HO : Hid (OwnI wr w.heap.size (.slice ya (oA t k).length yc) (oA t k)) := ho
    clear ho
    by_cases hlt : k < m
    · obtain ⟨bb, off, rfl, hcell⟩ := (HI.out.below hb1) (by omega)
      obtain ⟨c0, c1, c2, c3, c4⟩ := hcell k hlt
      clear hcell
      have HIr : Hid (RowI wr (some ⟨bb, off, none⟩) m (gi t)) := HI.out.below hb1
      have hn1 := HN.out k hlt
      have hy1 := HY.out k hlt
      have hs1 := HS.out k hlt
      have hu1 := HU.out k hlt
      have hle := HLn.out k
      generalize gi t k = x at c0 c1 c2 c3 c4 hn1 hy1 hs1 hu1
      rw [hu1] at hy1 hs1
      clear hu1
      obtain ⟨A, hA⟩ : ∃ A, oA t k = A := ⟨_, rfl⟩
      rw [hA] at HO hn1 hy1 hs1 hle
      rw [hA]
      clear hA
      obtain ⟨E, hE⟩ : ∃ E, wr.heap.size = E := ⟨_, rfl⟩
      obtain ⟨W1, hW1⟩ : ∃ W1, wr.alloc (.cells #[.int .i64 x.k, .int .i64 x.i, .int .i64 x.x.1, .int .i64 x.x.2, .int .i64 x.u] 71) = W1 := ⟨_, rfl⟩
      have b2 : Below wr.heap.size wr W1 := by subst hW1; exact below_alloc _ _
      have HE : Hid (W1.heap[E]? = some (.cells #[.int .i64 x.k, .int .i64 x.i, .int .i64 x.x.1, .int .i64 x.x.2, .int .i64 x.u] 71 (0, 0))) := by subst hW1 hE; exact al1 _ _
      have hwr : w.heap.size ≤ wr.heap.size := hb1.size
      have sr := src_oneI
      obtain ⟨pk, pi, ⟨px, py⟩, pu⟩ := x
      simp only at c0 c1 c2 c3 c4 hW1 HE hn1 hy1 hs1
      have HN1 : Hid (¬ pk = 1 → oA t (k + 1) = A) := hn1
      have HY1 : Hid (pk = 1 → isO ⟨pk, pi, (px, py), lsU pi pu (t.take m)⟩ = true → oA t (k + 1) = A ++ [⟨pk, pi, (px, py), lsU pi pu (t.take m)⟩]) := hy1
      have HS1 : Hid (pk = 1 → isO ⟨pk, pi, (px, py), lsU pi pu (t.take m)⟩ = false → oA t (k + 1) = A) := hs1
      clear hn1 hy1 hs1
      obtain ⟨e0, e1, e2, e3, e4⟩ := box5_cells HE.out
      by_cases hk1 : (pk != 1) = true
      · have HA : Hid (oA t (k + 1) = A) := HN1.out (by simpa using hk1)
        clear HN1 HY1 HS1
        have HO3 : Hid (OwnI W1 w.heap.size (.slice ya A.length yc) A) := owns_below HO.out b2
        go_wp2
        go_roundw
        case rel => exact ⟨k + 1, by omega, by go_num, by rw [HA.out]; exact HO3.out, Below.comp hb1 b2⟩
        case measure => simp [intOf]; omega
      · have hk1' : (pk != 1) = false := by simpa using hk1
        have HK : Hid (pk = 1) := by
          show pk = 1
          simpa using hk1'
        clear hk1
        obtain ⟨wo, hwo⟩ : ∃ wo, wr = wo := ⟨_, rfl⟩
        rw [hwo] at HO HIr hb1 b2 hwr hW1 hE c0 c1 c2 c3 c4
        rw [hwo]
        clear hwo
        have HEw : Hid (wo.heap.size ≤ E) := by show wo.heap.size ≤ E; omega
        go_wp2
        clear hW1 c0 c1 c2 c3 c4 e0 e1 e2 e3 e4
        go_loopw [19] (fun q wr => ∃ (j : Nat), j ≤ m ∧ q = .int .i64 j ∧ wr.heap[E]? = some (.cells #[.int .i64 pk, .int .i64 pi, .int .i64 px, .int .i64 py, .int .i64 (lsU pi pu (t.take j))] 71 (0, 0)) ∧ Below wo.heap.size wo wr) (fun q _ => m - (intOf q).toNat)
        case atStart => exact ⟨0, Nat.zero_le _, rfl, by rw [HL0.out]; exact HE.out, b2⟩
        case round =>
          obtain ⟨j, hj, rfl, hEj, hbq⟩ := hrel
          have HEj : Hid (wr.heap[E]? = some (.cells #[.int .i64 pk, .int .i64 pi, .int .i64 px, .int .i64 py, .int .i64 (lsU pi pu (t.take j))] 71 (0, 0))) := hEj
          clear hEj
          by_cases hjm : j < m
          · obtain ⟨gb, go, hgb, hcm⟩ := (HIr.out.below hbq) (by omega)
            obtain ⟨rfl, rfl⟩ : bb = gb ∧ off = go := by simpa using hgb
            obtain ⟨c0, c1, c2, c3, c4⟩ := hcm j hjm
            clear hcm hgb
            have hls := HLs.out pi pu j hjm
            generalize gi t j = y at c0 c1 c2 c3 c4 hls
            obtain ⟨U', hU'⟩ : ∃ U', lsU pi pu (t.take (j + 1)) = U' := ⟨_, rfl⟩
            have HU' : Hid (lsU pi pu (t.take (j + 1)) = U') := hU'
            rw [hU'] at hls
            clear hU'
            generalize lsU pi pu (t.take j) = U at HEj hls
            obtain ⟨qk, qi, ⟨qx, qy⟩, qu⟩ := y
            simp only at c0 c1 c2 c3 c4 hls
            have HLS : Hid (U' = if qi = pi then qu else U) := hls
            clear hls
            obtain ⟨G, hG⟩ : ∃ G, wr.heap.size = G := ⟨_, rfl⟩
            obtain ⟨W3, hW3⟩ : ∃ W3, wr.alloc (.cells #[.int .i64 qk, .int .i64 qi, .int .i64 qx, .int .i64 qy, .int .i64 qu] 71) = W3 := ⟨_, rfl⟩
            have b4 : Below wr.heap.size wr W3 := by subst hW3; exact below_alloc _ _
            have B4 : W3.heap[G]? = some (.cells #[.int .i64 qk, .int .i64 qi, .int .i64 qx, .int .i64 qy, .int .i64 qu] 71 (0, 0)) := by subst hW3 hG; exact al1 _ _
            have HE3 : Hid (W3.heap[E]? = some (.cells #[.int .i64 pk, .int .i64 pi, .int .i64 px, .int .i64 py, .int .i64 U] 71 (0, 0))) := box_on HEj.out b4
            obtain ⟨r0, r1, r2, r3, r4⟩ := box5_cells B4
            obtain ⟨e0, e1, e2, e3, e4⟩ := box5_cells HE3.out
            obtain ⟨f0, f1, f2, f3, f4⟩ := box5_free HE3.out
            clear B4
            have b5 : Below wo.heap.size wo W3 := Below.comp hbq b4
            by_cases hy : (qi == pi) = true
            · have hU : U' = qu := by rw [HLS.out, if_pos (by simpa using hy)]
              subst hU
              go_wp2
              go_roundw
              case rel => exact ⟨j + 1, by omega, by go_num, by rw [HU'.out]; exact block_set HE3.out, b5.setCell HEw.out _⟩
              case measure => simp [intOf]; omega
            · have hy' : (qi == pi) = false := by simpa using hy
              have hU : U' = U := by rw [HLS.out, if_neg (by simpa using hy')]
              subst hU
              clear hy
              go_wp2
              go_roundw
              case rel => exact ⟨j + 1, by omega, by go_num, by rw [HU'.out]; exact HE3.out, b5⟩
              case measure => simp [intOf]; omega
          · have hjm' : j = m := by omega
            subst hjm'
            have hY := HY1.out HK.out
            have hS := HS1.out HK.out
            generalize lsU pi pu (t.take j) = U at HEj hY hS
            have HY2 : Hid (isO ⟨pk, pi, (px, py), U⟩ = true → oA t (k + 1) = A ++ [⟨pk, pi, (px, py), U⟩]) := hY
            have HS2 : Hid (isO ⟨pk, pi, (px, py), U⟩ = false → oA t (k + 1) = A) := hS
            clear hY hS HY1 HS1
            obtain ⟨e0, e1, e2, e3, e4⟩ := box5_cells HEj.out
            have own3 : OwnI wr w.heap.size (.slice ya A.length yc) A := owns_below HO.out hbq
            have gw3 : Below w.heap.size w wr := Below.comp hb1 hbq
            have z3 : w.heap.size ≤ wr.heap.size := gw3.size
            by_cases hlu : U < py
            · have HA : Hid (oA t (k + 1) = A ++ [⟨pk, pi, (px, py), U⟩]) := HY2.out (by unfold isO; simpa using hlu)
              obtain ⟨W4, hW4⟩ : ∃ W4, wr.alloc (.cells #[.int .i64 pk, .int .i64 pi, .int .i64 px, .int .i64 py, .int .i64 U] 71) = W4 := ⟨_, rfl⟩
              have b4 : Below wr.heap.size wr W4 := by subst hW4; exact below_alloc _ _
              have own4 : W4.ownsRow w.heap.size 71 5 (.slice ya A.length yc) A.length (cis A) := owns_below own3 b4
              have sr4 : (1 : Nat) = 0 ∨ ∃ ad, some (⟨wr.heap.size, 0, none⟩ : Addr) = some ad ∧ ∀ j u, (cis [⟨pk, pi, (px, py), U⟩])[j]? = some u → W4.cell? (ad.add j) = some u := by subst hW4; exact sr wr ⟨pk, pi, (px, py), U⟩ _
              have z4 : w.heap.size ≤ W4.heap.size := Nat.le_trans z3 b4.size
              have HB : Hid (Below w.heap.size w W4) := Below.comp gw3 b4
              have HL : Hid (∀ v w', World.ownsRow w' w.heap.size 71 5 v (A.length + 1) (cis A ++ cis [⟨pk, pi, (px, py), U⟩]) → OwnI w' w.heap.size v (A ++ [⟨pk, pi, (px, py), U⟩])) := fun v w' h => by
                show World.ownsRow w' _ _ _ v (A ++ [_]).length (cis (A ++ [_]))
                rw [List.length_append, cis_app]
                exact h
              clear own3 sr HO HY2 HS2
              generalize hpn : A.length = an at *
              clear hpn
              go_wp2_with (at_builtin; refine wpList_append_src rfl _ _ 25 rfl w.heap.size 71 _ 5 40 Try.underlying25 infoIt rfl (by decide) (.slice ya an yc) an (cis A) rfl own4 (some ⟨wr.heap.size, 0, none⟩) 1 1 (cis [⟨pk, pi, (px, py), U⟩]) rfl rfl sr4 (cis_one _) (by omega) (by decide) z4 ?_; intro v5 w5 own5 gr5)
              go_roundw
              case rel => exact ⟨k + 1, by omega, by go_num, by rw [HA.out]; exact HL.out _ _ own5, grown_on' HB.out z4 own4 gr5⟩
              case measure => simp [intOf]; omega
            · have HA : Hid (oA t (k + 1) = A) := HS2.out (by unfold isO; simpa using hlu)
              have HO3 : Hid (OwnI wr w.heap.size (.slice ya A.length yc) A) := own3
              clear own3 HY2 HS2
              go_wp2
              go_roundw
              case rel => exact ⟨k + 1, by omega, by go_num, by rw [HA.out]; exact HO3.out, gw3⟩
              case measure => simp [intOf]; omega
    · have hkn : k = m := by omega
      subst hkn
      go_wp2
      go_ret
      exact ⟨hb1, ya, yc, rfl, HO.out⟩
set_option maxHeartbeats 2000000 in
theorem specOpen_any (b : Int) (a : Option Addr) (ca : Nat) (a' : Option Addr) (ca' : Nat) (l s : List Ex) (nx : Int) (i : Option Addr) (ci : Nat) (t : List It) (w : World) (hb0 : -9223372036854775808 ≤ b) (hb1 : b ≤ 9223372036854775807) (hn : l.length ≤ 1048576) (hn' : s.length ≤ 1048576) (hm : t.length ≤ 1048577) (hci : t.length ≤ ci) (hxi : ∀ x, x ∈ t → FitI x) (ha : Exs w a l) (ha' : Exs w a' s) (hi : Its w i t) :
    Calls Try.prog 23 #[wv b a l.length ca a' s.length ca' nx i t.length ci] w fun e w' => Below w.heap.size w w' ∧ ∃ y cy, e = .returned (.tuple #[.slice y (opn (prO b l s nx t)).length cy, .bool (prO b l s nx t).isSome]) ∧ OwnI w' w.heap.size (.slice y (opn (prO b l s nx t)).length cy) (opn (prO b l s nx t)) := by
  have cG := fun W h => specGoodW_any b a ca a' ca' l s nx i ci t W hb0 hb1 hn hn' hm hci hxi (ha.below h) (ha'.below h) (hi.below h)
  have cO := fun W h => l12Open_any i ci t W hm (hi.below h)
  rw [gw_prO] at cG
  have HS : Hid (∀ P, prO b l s nx t = some P → P = prm t) := fun P h => (prO_inv h).2.2.1.eq
  generalize prO b l s nx t = R at *
  clear ha ha' hi hxi
  generalize l.length = n at *
  generalize s.length = n' at *
  generalize hmt : t.length = m at *
  clear hmt
  obtain ⟨D, hD⟩ : ∃ D, w.heap.size = D := ⟨_, rfl⟩
  obtain ⟨W0, hW0⟩ : ∃ W0, w.alloc (.cells #[.int .i64 b, .slice a n ca, .slice a' n' ca', .int .i64 nx, .slice i m ci] 27) = W0 := ⟨_, rfl⟩
  have g0 : Below w.heap.size w W0 := by subst hW0; exact below_alloc _ _
  have B1 : W0.heap[D]? = some (.cells #[.int .i64 b, .slice a n ca, .slice a' n' ca', .int .i64 nx, .slice i m ci] 27 (0, 0)) := by subst hW0 hD; exact al1 _ _
  have H1 : Hid (W0.heap[D]? = some (.cells #[.int .i64 b, .slice a n ca, .slice a' n' ca', .int .i64 nx, .slice i m ci] 27 (0, 0))) := B1
  obtain ⟨i0, i1, i2, i3, i4⟩ := box5_cells B1
  have z0 := g0.size
  clear B1
  cases R with
  | none =>
    rw [show (none : Option (List It)).isSome = false from rfl] at cG
    go_enter Try.func23, Try.ntmps23
    go_wp2_with fail
    refine (cG _ g0).mono ?_
    rintro e w1 ⟨rfl, b1⟩
    have gR : Below w.heap.size w w1 := Below.comp g0 b1
    go_wp2
    refine bodyPost_ret (v := .tuple #[.slice none 0 0, .bool false]) (by simp [results, Try.results23, go_sem]) rfl ?_
    exact ⟨by first | exact gR | exact (hD ▸ gR), none, 0, rfl, OwnI.nil _ _⟩
  | some P =>
    obtain rfl : P = prm t := HS.out P rfl
    rw [show (some (prm t)).isSome = true from rfl] at cG ⊢
    rw [show opn (some (prm t)) = (prm t).filter isO from rfl]
    generalize (prm t).filter isO = Q at *
    go_enter Try.func23, Try.ntmps23
    go_wp2_with fail
    refine (cG _ g0).mono ?_
    rintro e w1 ⟨rfl, b1⟩
    clear hW0 i0 i1 i2 i3 i4
    obtain ⟨i0, i1, i2, i3, i4⟩ := box5_cells (box_on H1.out b1)
    have g1 : Below w.heap.size w w1 := Below.comp g0 b1
    have z1 := g1.size
    go_wp2_with fail
    refine (cO _ g1).mono ?_
    rintro e w2 ⟨b2, y, cy, rfl, ho⟩
    have HO : Hid (OwnI w2 w1.heap.size (.slice y Q.length cy) Q) := ho
    clear ho
    have gR : Below w.heap.size w w2 := Below.comp g1 b2
    go_wp2
    refine bodyPost_ret (v := .tuple #[.slice y Q.length cy, .bool true]) (by simp [results, Try.results23, go_sem]) rfl ?_
    exact ⟨by first | exact gR | exact (hD ▸ gR), y, cy, rfl, owns_mono HO.out (by omega)⟩
end Go.Proofs.Ytpolhigpcllhiaa
