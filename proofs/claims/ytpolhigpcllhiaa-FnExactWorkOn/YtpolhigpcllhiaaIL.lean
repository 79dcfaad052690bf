import Derived.Test.YtpolhigpcllhiaaIK
/- Work done on a promise: the model's side. -/
namespace Go.Proofs.Ytpolhigpcllhiaa
open Go.ChangeShapes Go.WideShapes Go.ChangeAt Go.RowKit
set_option linter.unusedVariables false
open Room

attribute [local go_sem] Oper.semAt_some

theorem wkF_at {Q : List It} {id : Int} {k : Nat} (hk : k < Q.length) (h : (gi Q k).i = id) (hn : ∀ j, j < k → ¬ (gi Q j).i = id) : wkF Q id = some (gi Q k) :=
  ((wkF_first (y := gi Q k) (r := true) (.inl ⟨rfl, k, hk, rfl, by simpa using h, fun j hj => by simpa using hn j hj⟩)).1 rfl).1
theorem wkF_none {Q : List It} {id : Int} (hn : ∀ j, j < Q.length → ¬ (gi Q j).i = id) : wkF Q id = none :=
  (wkF_first (y := ⟨0, 0, (0, 0), 0⟩) (r := false) (.inr ⟨rfl, rfl, fun j hj => by simpa using hn j hj⟩)).2 rfl
set_option maxRecDepth 10000 in
set_option maxHeartbeats 8000000 in
theorem specWorkOn_any (b : Int) (a : Option Addr) (ca : Nat) (a' : Option Addr) (ca' : Nat) (l s : List Ex) (nx : Int) (i : Option Addr) (ci : Nat) (t : List It) (id many : Int) (w : World) (hb0 : -9223372036854775808 ≤ b) (hb1 : b ≤ 9223372036854775807) (hn : l.length ≤ 1048576) (hn' : s.length ≤ 1048576) (hm : t.length ≤ 1048576) (hci : t.length ≤ ci) (hmy : many ≤ 9223372036854775807) (hxi : ∀ x, x ∈ t → FitI x) (ha : Exs w a l) (ha' : Exs w a' s) (hi : Its w i t) :
    Calls Try.prog 21 #[wv b a l.length ca a' s.length ca' nx i t.length ci, .int .i64 id, .int .i64 many] w fun e w' => Below w.heap.size w w' ∧ ∃ v, e = .returned (.tuple #[v, .bool (okW b l s nx t id many)]) ∧ WkM w' w.heap.size w'.heap.size v (wiB (okW b l s nx t id many) b) (wiL (okW b l s nx t id many) l).length (wiL (okW b l s nx t id many) s).length (wiL (okW b l s nx t id many) (t ++ [(wkT (wkI (opn (prO b l s nx t)) id many))])).length (gx (wiL (okW b l s nx t id many) l)) (gx (wiL (okW b l s nx t id many) s)) (wiB (okW b l s nx t id many) nx) (gi (wiL (okW b l s nx t id many) (t ++ [(wkT (wkI (opn (prO b l s nx t)) id many))]))) := by
  have cG := fun W h => specGoodW_any b a ca a' ca' l s nx i ci t W hb0 hb1 hn hn' (by omega) hci hxi (ha.below h) (ha'.below h) (hi.below h)
  have cL := fun (h60 : l.length ≤ 60) (h30 : t.length ≤ 30) W h => l12Own_any b a ca a' s.length ca' l nx i ci t W h60 h30 (ha.below h) (hi.below h)
  have cP := fun (W : World) (y : Option Addr) (cy : Nat) (h : Its W y t) => l12Open_any y cy t W (by omega) h
  have cG2 := fun (U : Int) (W : World) (v : Value) (h : WkR W v b l.length s.length (t.length + 1) (gx l) (gx s) nx (gi (t ++ [⟨2, id, (0, 0), U⟩]))) => show Calls Try.prog 15 #[v] W fun e w' => e = .returned (.bool (gw b l s nx (t ++ [⟨2, id, (0, 0), U⟩]))) ∧ Below W.heap.size W w' by
    obtain ⟨y, c, y', c', z, cz, rfl, k1, k2, k3, k4⟩ := h
    have el : (t ++ [(⟨2, id, (0, 0), U⟩ : It)]).length = t.length + 1 := by simp
    have k3' : Its W z (t ++ [⟨2, id, (0, 0), U⟩]) := by unfold Its; rw [el]; exact k3
    have := specGoodW_any b y c y' c' l s nx z cz (t ++ [⟨2, id, (0, 0), U⟩]) W hb0 hb1 hn hn' (by omega) (by omega) (fun u hu => by rcases List.mem_append.1 hu with q | q; exact hxi u q; rw [List.mem_singleton.1 q]; exact ⟨by show (0 : Int) ≤ 9223372036854775807; decide, by show -9223372036854775808 ≤ (0 : Int); decide⟩) k1 k2 k3'
    rw [el] at this
    exact this
  rw [gw_prO] at cG
  have HNx : Hid ((prO b l s nx t).isSome = true → t.length ≤ 30 ∧ l.length ≤ 60 ∧ srt l = s) := fun h => by
    rw [← gw_prO] at h
    have := gw_nx h
    exact ⟨this.2.2.1, this.2.2.2.1, this.2.2.2.2.1⟩
  have HPr : Hid ((prO b l s nx t).isSome = true → opn (prO b l s nx t) = (prm t).filter isO) := fun h => by
    obtain ⟨P, hP⟩ := Option.isSome_iff_exists.1 h
    rw [hP]
    show P.filter isO = _
    rw [(prO_inv hP).2.2.1.eq]
  have HQ0 : Hid ((prO b l s nx t).isSome = false → opn (prO b l s nx t) = []) := fun h => by
    cases hp : prO b l s nx t with
    | none => rfl
    | some P => rw [hp] at h; cases h
  obtain ⟨hsm, hQ30⟩ := opn_sml (b := b) (l := l) (s := s) (nx := nx) (t := t)
  have HOK : Hid (okW b l s nx t id many = match wkI (opn (prO b l s nx t)) id many with | none => false | some y => gw b l s nx (t ++ [y])) := rfl
  have HFin : Hid (∀ (U : Int) (w' : World) (B C : Nat) (v : Value), WkM w' B C v b l.length s.length (t.length + 1) (gx l) (gx s) nx (gi (t ++ [⟨2, id, (0, 0), U⟩])) → WkM w' B C v (wiB true b) (wiL true l).length (wiL true s).length (wiL true (t ++ [⟨2, id, (0, 0), U⟩])).length (gx (wiL true l)) (gx (wiL true s)) (wiB true nx) (gi (wiL true (t ++ [⟨2, id, (0, 0), U⟩])))) := fun U w' B C v h => by
    have el : (t ++ [(⟨2, id, (0, 0), U⟩ : It)]).length = t.length + 1 := by simp
    show WkM w' B C v b l.length s.length (t ++ [_]).length (gx l) (gx s) nx (gi (t ++ [_]))
    rw [el]
    exact h
  have HOw : Hid (∀ (U : Int) (wa : World) (B : Nat) (v : Value), World.ownsRow wa B 71 5 v (t.length + 1) (cis t ++ cis [⟨2, id, (0, 0), U⟩]) → ∃ y cy, v = .slice y (t.length + 1) cy ∧ MineI wa B wa.heap.size y (t.length + 1) (gi (t ++ [⟨2, id, (0, 0), U⟩])) ∧ t.length + 1 ≤ cy) := fun U wa B v h => by
    have el : (t ++ [(⟨2, id, (0, 0), U⟩ : It)]).length = t.length + 1 := by simp
    obtain ⟨y, cy, rfl⟩ := owns_form h
    have h2 : OwnI wa B (.slice y (t.length + 1) cy) (t ++ [⟨2, id, (0, 0), U⟩]) := by
      show World.ownsRow wa B _ _ _ (t ++ [_]).length (cis (t ++ [_]))
      rw [el, cis_app]
      exact h
    have h1 := OwnI.own h2
    rw [el] at h1
    exact ⟨y, cy, rfl, h1.1, h1.2.2⟩
  have HOt : Hid (∀ (wa : World) (B : Nat) (v : Value), OwnI wa B v t → World.ownsRow wa B 71 5 v t.length (cis t)) := fun _ _ _ h => h
  have HIt : Hid (∀ (wa : World) (B : Nat) (y : Option Addr) (cy : Nat), OwnI wa B (.slice y t.length cy) t → Its wa y t) := fun wa B y cy h => MineI.row (OwnI.own h).1
  generalize cis t = c0 at *
  generalize okW b l s nx t id many = ok at *
  generalize (prO b l s nx t).isSome = ok0 at *
  generalize opn (prO b l s nx t) = Q at *
  have HNo : Hid (wkI Q id many = none → ok = false) := fun h => by
    have h2 := HOK.out
    rw [h] at h2
    exact h2
  have HYe : Hid (∀ y, wkI Q id many = some y → ok = gw b l s nx (t ++ [y]) ∧ wkT (wkI Q id many) = y) := fun y h => by
    have h2 := HOK.out
    rw [h] at h2
    exact ⟨h2, by rw [h]; rfl⟩
  have HI0 : Hid (wkF Q id = none → wkI Q id many = none) := fun h => by unfold wkI; rw [h]
  have HI1 : Hid (many < 1 → wkI Q id many = none) := fun h => by
    unfold wkI
    cases wkF Q id with
    | none => rfl
    | some x => simp only; rw [if_neg (by omega)]
  have HI2 : Hid (∀ y, wkF Q id = some y → 1 ≤ many → wkI Q id many = some ⟨2, id, (0, 0), wkU y many⟩) := fun y h h1 => by unfold wkI; rw [h]; simp only; rw [if_pos h1]
  have HFa : Hid (∀ k, k < Q.length → (gi Q k).i = id → (∀ j, j < k → ¬ (gi Q j).i = id) → wkF Q id = some (gi Q k)) := fun k => wkF_at
  have HFn : Hid ((∀ j, j < Q.length → ¬ (gi Q j).i = id) → wkF Q id = none) := wkF_none
  have HSm : Hid (∀ k, k < Q.length → Sml (gi Q k)) := fun k hk => by rw [gi_eq hk]; exact hsm _ (List.getElem_mem hk)
  have HQe : Hid (Q = [] → wkF Q id = none) := fun h => by rw [h]; rfl
  clear hsm HOK ha ha' hi hxi
  generalize wkI Q id many = R at *
  generalize wkT R = Y at *
  generalize wkF Q id = F0 at *
  have HZ : Hid (ok = false → ∀ (w' : World) (B : Nat), WkM w' B B (wv 0 none 0 0 none 0 0 0 none 0 0) (wiB ok b) (wiL ok l).length (wiL ok s).length (wiL ok (t ++ [Y])).length (gx (wiL ok l)) (gx (wiL ok s)) (wiB ok nx) (gi (wiL ok (t ++ [Y])))) := fun h w' B => by
    subst h
    exact WkM.nil w' B 0
  have HSL : Hid (∀ (W : World) (B C : Nat) (y : Option Addr), srt l = s → Own W B C y (srt l) → MineX W B C y s.length (gx s)) := fun W B C y h hh => by rw [← h]; exact hh
  have HSn : Hid (srt l = s → (srt l).length = s.length) := fun h => by rw [h]
  have HPq : Hid (∀ (W : World) (y : Option Addr) (cy : Nat), Q = (prm t).filter isO → Its W y t → Calls Try.prog 45 #[.slice y t.length cy] W fun e w' => Below W.heap.size W w' ∧ ∃ y cy, e = .returned (.slice y Q.length cy) ∧ OwnI w' W.heap.size (.slice y Q.length cy) Q) := fun W y cy h hh => by rw [h]; exact cP W y cy hh
  clear cP
  obtain ⟨n, hnn⟩ : ∃ n, l.length = n := ⟨_, rfl⟩
  obtain ⟨n', hnn'⟩ : ∃ n', s.length = n' := ⟨_, rfl⟩
  obtain ⟨m, hmm⟩ : ∃ m, t.length = m := ⟨_, rfl⟩
  rw [hnn] at cG cL cG2 HNx HFin
  rw [hnn'] at cG cL cG2 HFin HSL HSn
  rw [hmm] at cG cL cG2 HNx HFin HOw HOt HIt HPq
  rw [hnn, hnn', hmm]
  have HMX : Hid (∀ (W : World) (B C : Nat) (y : Option Addr), Own W B C y l → MineX W B C y n (gx l)) := fun W B C y hh => by rw [← hnn]; exact hh
  clear hnn hnn' hmm hn hn' hm hci
  obtain ⟨D, hD⟩ : ∃ D, w.heap.size = D := ⟨_, rfl⟩
  obtain ⟨W0, hW0⟩ : ∃ W0, (w.alloc (.cells #[.int .i64 b, .slice a n ca, .slice a' n' ca', .int .i64 nx, .slice i m ci] 27)).alloc (.cells #[.int .i64 0, .slice none 0 0, .slice none 0 0, .int .i64 0, .slice none 0 0] 27) = W0 := ⟨_, rfl⟩
  have g0 : Below w.heap.size w W0 := by subst hW0; exact ba2 _ _ _
  obtain ⟨B1, B3⟩ : W0.heap[D]? = some (.cells #[.int .i64 b, .slice a n ca, .slice a' n' ca', .int .i64 nx, .slice i m ci] 27 (0, 0)) ∧ W0.heap[D + 1]? = some (.cells #[.int .i64 0, .slice none 0 0, .slice none 0 0, .int .i64 0, .slice none 0 0] 27 (0, 0)) := by subst hW0 hD; exact al2 _ _ _
  have H1 : Hid (W0.heap[D]? = some (.cells #[.int .i64 b, .slice a n ca, .slice a' n' ca', .int .i64 nx, .slice i m ci] 27 (0, 0))) := B1
  have H3 : Hid (W0.heap[D + 1]? = some (.cells #[.int .i64 0, .slice none 0 0, .slice none 0 0, .int .i64 0, .slice none 0 0] 27 (0, 0))) := B3
  have z0 := box_lt B3
  have hzw : w.heap.size ≤ W0.heap.size := g0.size
  obtain ⟨i0, i1, i2, i3, i4⟩ := box5_cells B1
  clear B1 B3
  by_cases hbad : ok0 = false ∨ many < 1
  · have hok : ok = false := by
      rcases hbad with h | h
      · exact HNo.out (HI0.out (HQe.out (HQ0.out h)))
      · exact HNo.out (HI1.out h)
    have HZn := HZ.out hok
    subst hok
    have HZh : Hid (∀ (w' : World) (B : Nat), WkM w' B B (wv 0 none 0 0 none 0 0 0 none 0 0) (wiB false b) (wiL false l).length (wiL false s).length (wiL false (t ++ [Y])).length (gx (wiL false l)) (gx (wiL false s)) (wiB false nx) (gi (wiL false (t ++ [Y])))) := HZn
    clear HZn
    rcases hbad with h | h
    · subst h
      go_enter Try.func21, Try.ntmps21
      go_wp2_with fail
      refine (cG _ g0).mono ?_
      rintro e w1 ⟨rfl, b1⟩
      clear hW0 i0 i1 i2 i3 i4
      have K3 := box_on H3.out b1
      have z1 := b1.size
      obtain ⟨r0, r1, r2, r3, r4⟩ := box5_cells K3
      obtain ⟨q0, q1, q2, q3, q4⟩ := box5_free K3
      go_wp2
      obtain ⟨W9, hW9⟩ : ∃ W9, ((((w1.setCell ⟨D + 1, 0, none⟩ (.int .i64 0)).setCell ⟨D + 1, 1, none⟩ (.slice none 0 0)).setCell ⟨D + 1, 2, none⟩ (.slice none 0 0)).setCell ⟨D + 1, 3, none⟩ (.int .i64 0)).setCell ⟨D + 1, 4, none⟩ (.slice none 0 0) = W9 := ⟨_, rfl⟩
      have o9 : Out (D + 1) (D + 1 + 1) w1 W9 := by subst hW9; exact box5_out _ _ _ _ _ _ _
      have R9 : W9.heap[D + 1]? = some (.cells #[.int .i64 0, .slice none 0 0, .slice none 0 0, .int .i64 0, .slice none 0 0] 27 (0, 0)) := by subst hW9; exact box5_set K3
      first | rw [hW9] | skip
      clear hW9
      obtain ⟨t0, t1, t2, t3, t4⟩ := box5_cells R9
      have z9 := o9.size
      have zg := (Below.comp g0 b1).size
      refine bodyPost_ret (v := .tuple #[wv 0 none 0 0 none 0 0 0 none 0 0, .bool false]) (by simp [results, Try.results21, go_sem, t0, t1, t2, t3, t4]) rfl ?_
      first | exact ⟨(Below.comp g0 b1).trans ((o9.below (by omega)).mono (by omega)), _, rfl, (HZh.out W9 w.heap.size).mono (Nat.le_refl _) (by omega)⟩ | (subst hD; exact ⟨(Below.comp g0 b1).trans ((o9.below (by omega)).mono (by omega)), _, rfl, (HZh.out W9 w.heap.size).mono (Nat.le_refl _) (by omega)⟩)
    · cases ok0
      all_goals
        go_enter Try.func21, Try.ntmps21
        go_wp2_with fail
        refine (cG _ g0).mono ?_
        rintro e w1 ⟨rfl, b1⟩
        clear hW0 i0 i1 i2 i3 i4
        have K3 := box_on H3.out b1
        have z1 := b1.size
        obtain ⟨r0, r1, r2, r3, r4⟩ := box5_cells K3
        obtain ⟨q0, q1, q2, q3, q4⟩ := box5_free K3
        go_wp2
        obtain ⟨W9, hW9⟩ : ∃ W9, ((((w1.setCell ⟨D + 1, 0, none⟩ (.int .i64 0)).setCell ⟨D + 1, 1, none⟩ (.slice none 0 0)).setCell ⟨D + 1, 2, none⟩ (.slice none 0 0)).setCell ⟨D + 1, 3, none⟩ (.int .i64 0)).setCell ⟨D + 1, 4, none⟩ (.slice none 0 0) = W9 := ⟨_, rfl⟩
        have o9 : Out (D + 1) (D + 1 + 1) w1 W9 := by subst hW9; exact box5_out _ _ _ _ _ _ _
        have R9 : W9.heap[D + 1]? = some (.cells #[.int .i64 0, .slice none 0 0, .slice none 0 0, .int .i64 0, .slice none 0 0] 27 (0, 0)) := by subst hW9; exact box5_set K3
        first | rw [hW9] | skip
        clear hW9
        obtain ⟨t0, t1, t2, t3, t4⟩ := box5_cells R9
        have z9 := o9.size
        have zg := (Below.comp g0 b1).size
        refine bodyPost_ret (v := .tuple #[wv 0 none 0 0 none 0 0 0 none 0 0, .bool false]) (by simp [results, Try.results21, go_sem, t0, t1, t2, t3, t4]) rfl ?_
        first | exact ⟨(Below.comp g0 b1).trans ((o9.below (by omega)).mono (by omega)), _, rfl, (HZh.out W9 w.heap.size).mono (Nat.le_refl _) (by omega)⟩ | (subst hD; exact ⟨(Below.comp g0 b1).trans ((o9.below (by omega)).mono (by omega)), _, rfl, (HZh.out W9 w.heap.size).mono (Nat.le_refl _) (by omega)⟩)
  · obtain rfl : ok0 = true := by
      cases ok0 with
      | true => rfl
      | false => exact absurd (.inl rfl) hbad
    have hm1 : 1 ≤ many := by
      by_cases h : 1 ≤ many
      · exact h
      · exact absurd (.inr (by omega)) hbad
    have hm1' : ¬ many < 1 := by omega
    clear hbad
    obtain ⟨hm30, hn60, hsl⟩ := HNx.out rfl
    have HSl : Hid (srt l = s) := hsl
    have HQq : Hid (Q = (prm t).filter isO) := HPr.out rfl
    have cL' := cL hn60 hm30
    rw [HSn.out hsl] at cL'
    clear hsl cL HNx HPr HQ0 HQe HI1
    go_enter Try.func21, Try.ntmps21
    go_wp2_with fail
    refine (cG _ g0).mono ?_
    rintro e w0 ⟨rfl, b0⟩
    clear hW0 i0 i1 i2 i3 i4
    have gz : Below w.heap.size w w0 := Below.comp g0 b0
    obtain ⟨i0, i1, i2, i3, i4⟩ := box5_cells (box_on H1.out b0)
    go_wp2_with fail
    refine (cL' _ gz).mono ?_
    rintro e w1 ⟨b1, x, c, x', c', y, cy, M, N, rfl, hM, hN, hN1, m1, m2, own1⟩
    clear i0 i1 i2 i3 i4 cL'
    have zb := b0.size
    have z1 := b1.size
    have b01 : Below W0.heap.size W0 w1 := Below.comp b0 b1
    have K1 := box_on H1.out b01
    have K3 : Hid (w1.heap[D + 1]? = some (.cells #[.int .i64 0, .slice none 0 0, .slice none 0 0, .int .i64 0, .slice none 0 0] 27 (0, 0))) := box_on H3.out b01
    obtain ⟨i0, i1, i2, i3, i4⟩ := box5_cells K1
    obtain ⟨f0, f1, f2, f3, f4⟩ := box5_free K1
    obtain ⟨W2, hW2⟩ : ∃ W2, ((((w1.setCell ⟨D, 0, none⟩ (.int .i64 b)).setCell ⟨D, 1, none⟩ (.slice x n c)).setCell ⟨D, 2, none⟩ (.slice x' n' c')).setCell ⟨D, 3, none⟩ (.int .i64 nx)).setCell ⟨D, 4, none⟩ (.slice y m cy) = W2 := ⟨_, rfl⟩
    have o2 : Out D (D + 1) w1 W2 := by subst hW2; exact box5_out _ _ _ _ _ _ _
    have R2 : Hid (W2.heap[D]? = some (.cells #[.int .i64 b, .slice x n c, .slice x' n' c', .int .i64 nx, .slice y m cy] 27 (0, 0))) := by subst hW2; exact box5_set K1
    have z2 := o2.size
    have M2 : Hid (MineX W2 w0.heap.size M x n (gx l) ∧ MineX W2 M N x' n' (gx s)) := ⟨(HMX.out _ _ _ _ m1).out o2 (.inr (by omega)), (HSL.out _ _ _ _ HSl.out m2).out o2 (.inr (by omega))⟩
    have HO2 : Hid (OwnI W2 N (.slice y m cy) t) := owns_out own1 o2 (by omega)
    have K2 : Hid (W2.heap[D + 1]? = some (.cells #[.int .i64 0, .slice none 0 0, .slice none 0 0, .int .i64 0, .slice none 0 0] 27 (0, 0))) := box_out K3.out o2 (by omega)
    have gW2 : Below w.heap.size w W2 := (Below.comp gz b1).trans ((o2.below (by omega)).mono (by omega))
    have hNs : N ≤ W2.heap.size := by omega
    have cP := HPq.out W2 y cy HQq.out (HIt.out _ _ _ _ HO2.out)
    clear K1 m1 m2 own1
    obtain ⟨s0, s1, s2, s3, s4⟩ := box5_cells R2.out
    go_wp2_with fail
    refine cP.mono ?_
    rintro e w3 ⟨b3, ya, yc, rfl, ho⟩
    have HRw : Hid (RowI w3 ya Q.length (gi Q)) := MineI.row (OwnI.own ho).1
    clear hW2 i0 i1 i2 i3 i4 f0 f1 f2 f3 f4 s0 s1 s2 s3 s4 ho cP HPq
    obtain ⟨qn, hqn⟩ : ∃ qn, Q.length = qn := ⟨_, rfl⟩
    rw [hqn] at HRw HFa HFn HSm hQ30
    rw [hqn]
    clear hqn
    generalize gi Q = Gq at *
    go_wp2
    go_loopw [25] (fun q wr => ∃ (k : Nat), k ≤ qn ∧ q = .int .i64 k ∧ Hid (∀ j, j < k → ¬ (Gq j).i = id) ∧ Below w3.heap.size w3 wr) (fun q _ => qn - (intOf q).toNat)
    case atStart => exact ⟨0, Nat.zero_le _, rfl, fun j hj => absurd hj (by omega), Below.refl _ _⟩
    case round =>
      obtain ⟨k, hk, rfl, HJ, hbr⟩ := hrel
      by_cases hlt : k < qn
      · obtain ⟨bb, off, rfl, hcell⟩ := (HRw.out.below hbr) (by omega)
        obtain ⟨c0', c1', c2', c3', c4'⟩ := hcell k hlt
        clear hcell
        have hsm := HSm.out k hlt
        have hfa := fun h => HFa.out k hlt h HJ.out
        have hjn : ¬ (Gq k).i = id → ∀ j, j < k + 1 → ¬ (Gq j).i = id := fun h j hj => by
          by_cases e : j = k
          · subst e; exact h
          · exact HJ.out j (by omega)
        generalize Gq k = g at c0' c1' c2' c3' c4' hsm hfa hjn
        obtain ⟨X, hX⟩ : ∃ X, wr.heap.size = X := ⟨_, rfl⟩
        obtain ⟨W4, hW4⟩ : ∃ W4, wr.alloc (.cells #[.int .i64 g.k, .int .i64 g.i, .int .i64 g.x.1, .int .i64 g.x.2, .int .i64 g.u] 71) = W4 := ⟨_, rfl⟩
        have b4 : Below wr.heap.size wr W4 := by subst hW4; exact below_alloc _ _
        have HX : Hid (W4.heap[X]? = some (.cells #[.int .i64 g.k, .int .i64 g.i, .int .i64 g.x.1, .int .i64 g.x.2, .int .i64 g.u] 71 (0, 0))) := by subst hW4 hX; exact al1 _ _
        have B24 : Below W2.heap.size W2 W4 := Below.comp b3 (Below.comp hbr b4)
        have HU : Hid (wkU g many = if many < g.x.2 - g.u then g.u + many else g.x.2) := rfl
        have HRy : Hid (g.i = id → ok = gw b l s nx (t ++ [⟨2, id, (0, 0), wkU g many⟩]) ∧ Y = ⟨2, id, (0, 0), wkU g many⟩) := fun h => HYe.out _ (HI2.out g (hfa h) hm1)
        clear hfa
        obtain ⟨U, hU0⟩ : ∃ U, wkU g many = U := ⟨_, rfl⟩
        rw [hU0] at HU HRy
        clear hU0
        have HJN : Hid (¬ g.i = id → ∀ j, j < k + 1 → ¬ (Gq j).i = id) := hjn
        clear hjn
        obtain ⟨pk, pi, ⟨px, py⟩, pu⟩ := g
        obtain ⟨hs1, hs2, hs3⟩ := hsm
        simp only at c0' c1' c2' c3' c4' hW4 HX HU HRy HJN hs1 hs2 hs3
        obtain ⟨e0, e1, e2, e3, e4⟩ := box5_cells HX.out
        by_cases hid : (pi != id) = true
        · have HJ' : Hid (∀ j, j < k + 1 → ¬ (Gq j).i = id) := HJN.out (by simpa using hid)
          clear HRy HU HJN
          go_wp2
          go_roundw
          case rel => exact ⟨k + 1, by omega, by go_num, HJ', Below.comp hbr b4⟩
          case measure => simp [intOf]; omega
        · have hid' : (pi != id) = false := by simpa using hid
          obtain ⟨hok, hYY⟩ := HRy.out (by simpa using hid')
          subst hYY
          have HOKe : Hid (ok = gw b l s nx (t ++ [⟨2, id, (0, 0), U⟩])) := hok
          clear hok hid HRy HJN HJ HFa HFn HNo HYe HI0 HI2 HZ
          have ew1 : IntKind.i64.wrap (py - pu) = py - pu := wrapI (by omega) (by omega)
          by_cases hml : many < py - pu
          · have hUU : IntKind.i64.wrap (pu + many) = U := by rw [wrapI (by omega) (by omega), HU.out, if_pos hml]
            clear HU
            obtain ⟨i0, i1, i2, i3, i4⟩ := box5_cells (box_on R2.out B24)
            obtain ⟨W5, hW5⟩ : ∃ W5, W4.alloc (.cells #[.int .i64 2, .int .i64 id, .int .i64 0, .int .i64 0, .int .i64 U] 71) = W5 := ⟨_, rfl⟩
            have b5 : Below W4.heap.size W4 W5 := by subst hW5; exact below_alloc _ _
            have sr5 : (1 : Nat) = 0 ∨ ∃ ad, some (⟨W4.heap.size, 0, none⟩ : Addr) = some ad ∧ ∀ j u, (cis [(⟨2, id, (0, 0), U⟩ : It)])[j]? = some u → W5.cell? (ad.add j) = some u := by subst hW5; exact src_oneI W4 ⟨2, id, (0, 0), U⟩ _
            have hc1 := cis_one [(⟨2, id, (0, 0), U⟩ : It)]
            have hcl : (cis [(⟨2, id, (0, 0), U⟩ : It)]).length = 1 * 5 := rfl
            have hOw := HOw.out U
            have hFin := HFin.out U
            have cG2' := cG2 U
            rw [← HOKe.out] at cG2'
            generalize cis [(⟨2, id, (0, 0), U⟩ : It)] = c1 at sr5 hc1 hcl hOw
            generalize gi (t ++ [(⟨2, id, (0, 0), U⟩ : It)]) = g2 at hOw hFin cG2'
            have HOw' : Hid (∀ (wa : World) (B : Nat) (v : Value), World.ownsRow wa B 71 5 v (m + 1) (c0 ++ c1) → ∃ y cy, v = .slice y (m + 1) cy ∧ MineI wa B wa.heap.size y (m + 1) g2 ∧ m + 1 ≤ cy) := hOw
            have HFin' : Hid (∀ (w' : World) (B C : Nat) (v : Value), WkM w' B C v b n n' (m + 1) (gx l) (gx s) nx g2 → WkM w' B C v (wiB true b) (wiL true l).length (wiL true s).length (wiL true (t ++ [⟨2, id, (0, 0), U⟩])).length (gx (wiL true l)) (gx (wiL true s)) (wiB true nx) (gi (wiL true (t ++ [⟨2, id, (0, 0), U⟩])))) := hFin
            clear hOw hFin
            have z5 := b5.size
            have B25 : Below W2.heap.size W2 W5 := Below.comp B24 b5
            have own5 : W5.ownsRow N 71 5 (.slice y m cy) m c0 := HOt.out _ _ _ (owns_below HO2.out B25)
            have zB := B25.size
            have R5 : Hid (W5.heap[D]? = some (.cells #[.int .i64 b, .slice x n c, .slice x' n' c', .int .i64 nx, .slice y m cy] 27 (0, 0))) := box_on R2.out B25
            have K5 : Hid (W5.heap[D + 1]? = some (.cells #[.int .i64 0, .slice none 0 0, .slice none 0 0, .int .i64 0, .slice none 0 0] 27 (0, 0))) := box_on K2.out B25
            have M5 : Hid (MineX W5 w0.heap.size M x n (gx l) ∧ MineX W5 M N x' n' (gx s)) := ⟨M2.out.1.below B25, M2.out.2.below B25⟩
            go_wp2_with (at_builtin; refine wpList_append_src rfl _ _ 25 rfl N 71 _ 5 40 Try.underlying25 infoIt rfl (by decide) (.slice y m cy) m c0 rfl own5 (some ⟨W4.heap.size, 0, none⟩) 1 1 c1 rfl hcl sr5 hc1 (by omega) (by decide) (by omega) ?_; intro v6 w6 own6 gr6; have b6 : Below N W5 w6 := Grown.below gr6 (by omega) (owns_ge own5); obtain ⟨y', cy', e6, mI6, hcy⟩ := HOw'.out _ _ _ own6; subst e6; have z6 := gr6.size; have R6 : w6.heap[D]? = some (.cells #[.int .i64 b, .slice x n c, .slice x' n' c', .int .i64 nx, .slice y m cy] 27 (0, 0)) := box_lo R5.out b6 (by omega); have HR6 : Hid (w6.heap[D]? = some (.cells #[.int .i64 b, .slice x n c, .slice x' n' c', .int .i64 nx, .slice y m cy] 27 (0, 0))) := R6; have HI6 : Hid (MineI w6 N w6.heap.size y' (m + 1) g2) := mI6; obtain ⟨u0, u1, u2', u3, u4⟩ := box5_cells R6; obtain ⟨v0, v1, v2, v3, v4⟩ := box5_free R6; clear R6 own6 gr6 own5 mI6 hW5 i0 i1 i2 i3 i4)
            obtain ⟨W7, hW7⟩ : ∃ W7, w6.setCell ⟨D, 4, none⟩ (.slice y' (m + 1) cy') = W7 := ⟨_, rfl⟩
            have o7 : Out D (D + 1) w6 W7 := by subst hW7; exact out_setCell _ _ _ _
            have HD7 : Hid (W7.heap[D]? = some (.cells #[.int .i64 b, .slice x n c, .slice x' n' c', .int .i64 nx, .slice y' (m + 1) cy'] 27 (0, 0))) := by subst hW7; exact block_set HR6.out
            first | rw [hW7] | skip
            clear hW7 u0 u1 u2' u3 u4 v0 v1 v2 v3 v4
            have z7 := o7.size
            have K7 : Hid (W7.heap[D + 1]? = some (.cells #[.int .i64 0, .slice none 0 0, .slice none 0 0, .int .i64 0, .slice none 0 0] 27 (0, 0))) := box_out (box_lo K5.out b6 (by omega)) o7 (by omega)
            have M7 : Hid (MineX W7 w0.heap.size M x n (gx l) ∧ MineX W7 M N x' n' (gx s) ∧ MineI W7 N w6.heap.size y' (m + 1) g2) := ⟨(M5.out.1.lo b6 (by omega)).out o7 (.inr (by omega)), (M5.out.2.lo b6 (by omega)).out o7 (.inr (by omega)), HI6.out.out o7 (.inr (by omega))⟩
            have HW7 : Hid (WkM W7 w0.heap.size w6.heap.size (wv b x n c x' n' c' nx y' (m + 1) cy') b n n' (m + 1) (gx l) (gx s) nx g2) := ⟨x, c, x', c', y', cy', w0.heap.size, M, M, N, N, w6.heap.size, rfl, by omega, by omega, M7.out.1, M7.out.2.1, M7.out.2.2, hcy⟩
            have g7 : Below w.heap.size w W7 := by
              have q3 : Below w.heap.size w W5 := Below.comp gW2 B25
              have q4 : Below w.heap.size w w6 := q3.trans (b6.mono (by omega))
              exact q4.trans ((o7.below (by omega)).mono (by omega))
            refine (cG2' W7 _ HW7.out.r).mono ?_
            rintro e w8 ⟨rfl, b8⟩
            have z8 := b8.size
            have K8 : Hid (w8.heap[D + 1]? = some (.cells #[.int .i64 0, .slice none 0 0, .slice none 0 0, .int .i64 0, .slice none 0 0] 27 (0, 0))) := box_on K7.out b8
            have D8 := box_on HD7.out b8
            obtain ⟨r0, r1, r2, r3, r4⟩ := box5_cells K8.out
            obtain ⟨q0, q1, q2, q3, q4⟩ := box5_free K8.out
            obtain ⟨p0, p1, p2, p3, p4⟩ := box5_cells D8
            cases ok with
            | false =>
              go_wp2
              obtain ⟨W9, hW9⟩ : ∃ W9, ((((w8.setCell ⟨D + 1, 0, none⟩ (.int .i64 0)).setCell ⟨D + 1, 1, none⟩ (.slice none 0 0)).setCell ⟨D + 1, 2, none⟩ (.slice none 0 0)).setCell ⟨D + 1, 3, none⟩ (.int .i64 0)).setCell ⟨D + 1, 4, none⟩ (.slice none 0 0) = W9 := ⟨_, rfl⟩
              have o9 : Out (D + 1) (D + 1 + 1) w8 W9 := by subst hW9; exact box5_out _ _ _ _ _ _ _
              have R9 : W9.heap[D + 1]? = some (.cells #[.int .i64 0, .slice none 0 0, .slice none 0 0, .int .i64 0, .slice none 0 0] 27 (0, 0)) := by subst hW9; exact box5_set K8.out
              first | rw [hW9] | skip
              clear hW9
              obtain ⟨t0, t1, t2, t3, t4⟩ := box5_cells R9
              have z9 := o9.size
              have zg := (Below.comp g7 b8).size
              refine bodyPost_ret (v := .tuple #[wv 0 none 0 0 none 0 0 0 none 0 0, .bool false]) (by simp [results, Try.results21, go_sem, t0, t1, t2, t3, t4]) rfl ?_
              first | exact ⟨(Below.comp g7 b8).trans ((o9.below (by omega)).mono (by omega)), _, rfl, (WkM.nil W9 w.heap.size 0).mono (Nat.le_refl _) (by omega)⟩ | (subst hD; exact ⟨(Below.comp g7 b8).trans ((o9.below (by omega)).mono (by omega)), _, rfl, (WkM.nil W9 w.heap.size 0).mono (Nat.le_refl _) (by omega)⟩)
            | true =>
              go_wp2
              obtain ⟨W9, hW9⟩ : ∃ W9, ((((w8.setCell ⟨D + 1, 0, none⟩ (.int .i64 b)).setCell ⟨D + 1, 1, none⟩ (.slice x n c)).setCell ⟨D + 1, 2, none⟩ (.slice x' n' c')).setCell ⟨D + 1, 3, none⟩ (.int .i64 nx)).setCell ⟨D + 1, 4, none⟩ (.slice y' (m + 1) cy') = W9 := ⟨_, rfl⟩
              have o9 : Out (D + 1) (D + 1 + 1) w8 W9 := by subst hW9; exact box5_out _ _ _ _ _ _ _
              have R9 : W9.heap[D + 1]? = some (.cells #[.int .i64 b, .slice x n c, .slice x' n' c', .int .i64 nx, .slice y' (m + 1) cy'] 27 (0, 0)) := by subst hW9; exact box5_set K8.out
              first | rw [hW9] | skip
              clear hW9
              obtain ⟨t0, t1, t2, t3, t4⟩ := box5_cells R9
              have z9 := o9.size
              refine bodyPost_ret (v := .tuple #[wv b x n c x' n' c' nx y' (m + 1) cy', .bool true]) (by simp [results, Try.results21, go_sem, t0, t1, t2, t3, t4]) rfl ?_
              exact ⟨(Below.comp g7 b8).trans ((o9.below (by omega)).mono (by omega)), _, rfl, HFin'.out _ _ _ _ (((HW7.out.below b8).out o9 (.inr (by omega))).mono (by omega) (by omega))⟩
          · have hUU : U = py := by rw [HU.out, if_neg hml]
            subst hUU
            clear HU
            obtain ⟨i0, i1, i2, i3, i4⟩ := box5_cells (box_on R2.out B24)
            obtain ⟨W5, hW5⟩ : ∃ W5, W4.alloc (.cells #[.int .i64 2, .int .i64 id, .int .i64 0, .int .i64 0, .int .i64 U] 71) = W5 := ⟨_, rfl⟩
            have b5 : Below W4.heap.size W4 W5 := by subst hW5; exact below_alloc _ _
            have sr5 : (1 : Nat) = 0 ∨ ∃ ad, some (⟨W4.heap.size, 0, none⟩ : Addr) = some ad ∧ ∀ j u, (cis [(⟨2, id, (0, 0), U⟩ : It)])[j]? = some u → W5.cell? (ad.add j) = some u := by subst hW5; exact src_oneI W4 ⟨2, id, (0, 0), U⟩ _
            have hc1 := cis_one [(⟨2, id, (0, 0), U⟩ : It)]
            have hcl : (cis [(⟨2, id, (0, 0), U⟩ : It)]).length = 1 * 5 := rfl
            have hOw := HOw.out U
            have hFin := HFin.out U
            have cG2' := cG2 U
            rw [← HOKe.out] at cG2'
            generalize cis [(⟨2, id, (0, 0), U⟩ : It)] = c1 at sr5 hc1 hcl hOw
            generalize gi (t ++ [(⟨2, id, (0, 0), U⟩ : It)]) = g2 at hOw hFin cG2'
            have HOw' : Hid (∀ (wa : World) (B : Nat) (v : Value), World.ownsRow wa B 71 5 v (m + 1) (c0 ++ c1) → ∃ y cy, v = .slice y (m + 1) cy ∧ MineI wa B wa.heap.size y (m + 1) g2 ∧ m + 1 ≤ cy) := hOw
            have HFin' : Hid (∀ (w' : World) (B C : Nat) (v : Value), WkM w' B C v b n n' (m + 1) (gx l) (gx s) nx g2 → WkM w' B C v (wiB true b) (wiL true l).length (wiL true s).length (wiL true (t ++ [⟨2, id, (0, 0), U⟩])).length (gx (wiL true l)) (gx (wiL true s)) (wiB true nx) (gi (wiL true (t ++ [⟨2, id, (0, 0), U⟩])))) := hFin
            clear hOw hFin
            have z5 := b5.size
            have B25 : Below W2.heap.size W2 W5 := Below.comp B24 b5
            have own5 : W5.ownsRow N 71 5 (.slice y m cy) m c0 := HOt.out _ _ _ (owns_below HO2.out B25)
            have zB := B25.size
            have R5 : Hid (W5.heap[D]? = some (.cells #[.int .i64 b, .slice x n c, .slice x' n' c', .int .i64 nx, .slice y m cy] 27 (0, 0))) := box_on R2.out B25
            have K5 : Hid (W5.heap[D + 1]? = some (.cells #[.int .i64 0, .slice none 0 0, .slice none 0 0, .int .i64 0, .slice none 0 0] 27 (0, 0))) := box_on K2.out B25
            have M5 : Hid (MineX W5 w0.heap.size M x n (gx l) ∧ MineX W5 M N x' n' (gx s)) := ⟨M2.out.1.below B25, M2.out.2.below B25⟩
            go_wp2_with (at_builtin; refine wpList_append_src rfl _ _ 25 rfl N 71 _ 5 40 Try.underlying25 infoIt rfl (by decide) (.slice y m cy) m c0 rfl own5 (some ⟨W4.heap.size, 0, none⟩) 1 1 c1 rfl hcl sr5 hc1 (by omega) (by decide) (by omega) ?_; intro v6 w6 own6 gr6; have b6 : Below N W5 w6 := Grown.below gr6 (by omega) (owns_ge own5); obtain ⟨y', cy', e6, mI6, hcy⟩ := HOw'.out _ _ _ own6; subst e6; have z6 := gr6.size; have R6 : w6.heap[D]? = some (.cells #[.int .i64 b, .slice x n c, .slice x' n' c', .int .i64 nx, .slice y m cy] 27 (0, 0)) := box_lo R5.out b6 (by omega); have HR6 : Hid (w6.heap[D]? = some (.cells #[.int .i64 b, .slice x n c, .slice x' n' c', .int .i64 nx, .slice y m cy] 27 (0, 0))) := R6; have HI6 : Hid (MineI w6 N w6.heap.size y' (m + 1) g2) := mI6; obtain ⟨u0, u1, u2', u3, u4⟩ := box5_cells R6; obtain ⟨v0, v1, v2, v3, v4⟩ := box5_free R6; clear R6 own6 gr6 own5 mI6 hW5 i0 i1 i2 i3 i4)
            obtain ⟨W7, hW7⟩ : ∃ W7, w6.setCell ⟨D, 4, none⟩ (.slice y' (m + 1) cy') = W7 := ⟨_, rfl⟩
            have o7 : Out D (D + 1) w6 W7 := by subst hW7; exact out_setCell _ _ _ _
            have HD7 : Hid (W7.heap[D]? = some (.cells #[.int .i64 b, .slice x n c, .slice x' n' c', .int .i64 nx, .slice y' (m + 1) cy'] 27 (0, 0))) := by subst hW7; exact block_set HR6.out
            first | rw [hW7] | skip
            clear hW7 u0 u1 u2' u3 u4 v0 v1 v2 v3 v4
            have z7 := o7.size
            have K7 : Hid (W7.heap[D + 1]? = some (.cells #[.int .i64 0, .slice none 0 0, .slice none 0 0, .int .i64 0, .slice none 0 0] 27 (0, 0))) := box_out (box_lo K5.out b6 (by omega)) o7 (by omega)
            have M7 : Hid (MineX W7 w0.heap.size M x n (gx l) ∧ MineX W7 M N x' n' (gx s) ∧ MineI W7 N w6.heap.size y' (m + 1) g2) := ⟨(M5.out.1.lo b6 (by omega)).out o7 (.inr (by omega)), (M5.out.2.lo b6 (by omega)).out o7 (.inr (by omega)), HI6.out.out o7 (.inr (by omega))⟩
            have HW7 : Hid (WkM W7 w0.heap.size w6.heap.size (wv b x n c x' n' c' nx y' (m + 1) cy') b n n' (m + 1) (gx l) (gx s) nx g2) := ⟨x, c, x', c', y', cy', w0.heap.size, M, M, N, N, w6.heap.size, rfl, by omega, by omega, M7.out.1, M7.out.2.1, M7.out.2.2, hcy⟩
            have g7 : Below w.heap.size w W7 := by
              have q3 : Below w.heap.size w W5 := Below.comp gW2 B25
              have q4 : Below w.heap.size w w6 := q3.trans (b6.mono (by omega))
              exact q4.trans ((o7.below (by omega)).mono (by omega))
            refine (cG2' W7 _ HW7.out.r).mono ?_
            rintro e w8 ⟨rfl, b8⟩
            have z8 := b8.size
            have K8 : Hid (w8.heap[D + 1]? = some (.cells #[.int .i64 0, .slice none 0 0, .slice none 0 0, .int .i64 0, .slice none 0 0] 27 (0, 0))) := box_on K7.out b8
            have D8 := box_on HD7.out b8
            obtain ⟨r0, r1, r2, r3, r4⟩ := box5_cells K8.out
            obtain ⟨q0, q1, q2, q3, q4⟩ := box5_free K8.out
            obtain ⟨p0, p1, p2, p3, p4⟩ := box5_cells D8
            cases ok with
            | false =>
              go_wp2
              obtain ⟨W9, hW9⟩ : ∃ W9, ((((w8.setCell ⟨D + 1, 0, none⟩ (.int .i64 0)).setCell ⟨D + 1, 1, none⟩ (.slice none 0 0)).setCell ⟨D + 1, 2, none⟩ (.slice none 0 0)).setCell ⟨D + 1, 3, none⟩ (.int .i64 0)).setCell ⟨D + 1, 4, none⟩ (.slice none 0 0) = W9 := ⟨_, rfl⟩
              have o9 : Out (D + 1) (D + 1 + 1) w8 W9 := by subst hW9; exact box5_out _ _ _ _ _ _ _
              have R9 : W9.heap[D + 1]? = some (.cells #[.int .i64 0, .slice none 0 0, .slice none 0 0, .int .i64 0, .slice none 0 0] 27 (0, 0)) := by subst hW9; exact box5_set K8.out
              first | rw [hW9] | skip
              clear hW9
              obtain ⟨t0, t1, t2, t3, t4⟩ := box5_cells R9
              have z9 := o9.size
              have zg := (Below.comp g7 b8).size
              refine bodyPost_ret (v := .tuple #[wv 0 none 0 0 none 0 0 0 none 0 0, .bool false]) (by simp [results, Try.results21, go_sem, t0, t1, t2, t3, t4]) rfl ?_
              first | exact ⟨(Below.comp g7 b8).trans ((o9.below (by omega)).mono (by omega)), _, rfl, (WkM.nil W9 w.heap.size 0).mono (Nat.le_refl _) (by omega)⟩ | (subst hD; exact ⟨(Below.comp g7 b8).trans ((o9.below (by omega)).mono (by omega)), _, rfl, (WkM.nil W9 w.heap.size 0).mono (Nat.le_refl _) (by omega)⟩)
            | true =>
              go_wp2
              obtain ⟨W9, hW9⟩ : ∃ W9, ((((w8.setCell ⟨D + 1, 0, none⟩ (.int .i64 b)).setCell ⟨D + 1, 1, none⟩ (.slice x n c)).setCell ⟨D + 1, 2, none⟩ (.slice x' n' c')).setCell ⟨D + 1, 3, none⟩ (.int .i64 nx)).setCell ⟨D + 1, 4, none⟩ (.slice y' (m + 1) cy') = W9 := ⟨_, rfl⟩
              have o9 : Out (D + 1) (D + 1 + 1) w8 W9 := by subst hW9; exact box5_out _ _ _ _ _ _ _
              have R9 : W9.heap[D + 1]? = some (.cells #[.int .i64 b, .slice x n c, .slice x' n' c', .int .i64 nx, .slice y' (m + 1) cy'] 27 (0, 0)) := by subst hW9; exact box5_set K8.out
              first | rw [hW9] | skip
              clear hW9
              obtain ⟨t0, t1, t2, t3, t4⟩ := box5_cells R9
              have z9 := o9.size
              refine bodyPost_ret (v := .tuple #[wv b x n c x' n' c' nx y' (m + 1) cy', .bool true]) (by simp [results, Try.results21, go_sem, t0, t1, t2, t3, t4]) rfl ?_
              exact ⟨(Below.comp g7 b8).trans ((o9.below (by omega)).mono (by omega)), _, rfl, HFin'.out _ _ _ _ (((HW7.out.below b8).out o9 (.inr (by omega))).mono (by omega) (by omega))⟩
      · have hkn : k = qn := by omega
        subst hkn
        have hok : ok = false := HNo.out (HI0.out (HFn.out HJ.out))
        have HZn := HZ.out hok
        subst hok
        have HZh : Hid (∀ (w' : World) (B : Nat), WkM w' B B (wv 0 none 0 0 none 0 0 0 none 0 0) (wiB false b) (wiL false l).length (wiL false s).length (wiL false (t ++ [Y])).length (gx (wiL false l)) (gx (wiL false s)) (wiB false nx) (gi (wiL false (t ++ [Y])))) := HZn
        clear HZn
        have gr : Below w.heap.size w wr := Below.comp gW2 (Below.comp b3 hbr)
        have K9 : Hid (wr.heap[D + 1]? = some (.cells #[.int .i64 0, .slice none 0 0, .slice none 0 0, .int .i64 0, .slice none 0 0] 27 (0, 0))) := box_on K2.out (Below.comp b3 hbr)
        have zr := hbr.size
        have z3 := b3.size
        obtain ⟨r0, r1, r2, r3, r4⟩ := box5_cells K9.out
        obtain ⟨q0, q1, q2, q3, q4⟩ := box5_free K9.out
        go_wp2
        obtain ⟨W9, hW9⟩ : ∃ W9, ((((wr.setCell ⟨D + 1, 0, none⟩ (.int .i64 0)).setCell ⟨D + 1, 1, none⟩ (.slice none 0 0)).setCell ⟨D + 1, 2, none⟩ (.slice none 0 0)).setCell ⟨D + 1, 3, none⟩ (.int .i64 0)).setCell ⟨D + 1, 4, none⟩ (.slice none 0 0) = W9 := ⟨_, rfl⟩
        have o9 : Out (D + 1) (D + 1 + 1) wr W9 := by subst hW9; exact box5_out _ _ _ _ _ _ _
        have R9 : W9.heap[D + 1]? = some (.cells #[.int .i64 0, .slice none 0 0, .slice none 0 0, .int .i64 0, .slice none 0 0] 27 (0, 0)) := by subst hW9; exact box5_set K9.out
        first | rw [hW9] | skip
        clear hW9
        obtain ⟨t0, t1, t2, t3, t4⟩ := box5_cells R9
        have z9 := o9.size
        have zg := (gr).size
        refine bodyPost_ret (v := .tuple #[wv 0 none 0 0 none 0 0 0 none 0 0, .bool false]) (by simp [results, Try.results21, go_sem, t0, t1, t2, t3, t4]) rfl ?_
        first | exact ⟨(gr).trans ((o9.below (by omega)).mono (by omega)), _, rfl, (HZh.out W9 w.heap.size).mono (Nat.le_refl _) (by omega)⟩ | (subst hD; exact ⟨(gr).trans ((o9.below (by omega)).mono (by omega)), _, rfl, (HZh.out W9 w.heap.size).mono (Nat.le_refl _) (by omega)⟩)
end Go.Proofs.Ytpolhigpcllhiaa
