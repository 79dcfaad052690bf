import Derived.Test.YtgapplfnlndckaaG5
/- BytesFree, on both sides. -/
namespace Go.Proofs.Ytgapplfnlndckaa
open Go.ChangeShapes Go.WideShapes Go.ChangeAt Go.RowKit
set_option linter.unusedVariables false
open Room

attribute [local go_sem] Oper.semAt_some

/-- The greatest order, from m on. -/
def mo : Int → List Ex → Int
  | m, [] => m
  | m, x :: l => mo (if m < x.2 then x.2 else m) l
theorem mo_at {m : Int} {l : List Ex} {k : Nat} (hk : k < l.length) : mo m (l.drop k) = mo (if m < (gx l k).2 then (gx l k).2 else m) (l.drop (k + 1)) := by
  rw [List.drop_eq_getElem_cons hk, mo, ← gx_eq hk]
def byV (b : Int) (F U : List Ex) : Value := if good b F U then .tuple #[.int .i64 (sm F), .int .i64 (mo 0 F), .bool true] else .tuple #[.int .i64 0, .int .i64 0, .bool false]
theorem good_lst {b : Int} {F U : List Ex} (h : good b F U = true) : lst (pw b) 0 F = true := by
  have h0 : 0 ≤ b ∧ b ≤ 8 := by
    unfold good at h
    simp only [Bool.and_eq_true, decide_eq_true_eq] at h
    exact ⟨h.1, h.2.1⟩
  rw [good_spec h0.1 h0.2] at h
  simp only [Bool.and_eq_true] at h
  exact h.1
set_option maxHeartbeats 2000000 in
theorem specBytes_any (b : Int) (a : Option Addr) (ca : Nat) (a' : Option Addr) (ca' : Nat) (F U : List Ex) (w : World) (hn : F.length ≤ 1048576) (hn' : U.length ≤ 1048576) (ha : Exs w a F) (ha' : Exs w a' U) :
    Calls Try.prog 27 #[fv b a F.length ca a' U.length ca'] w fun e w' => e = .returned (byV b F U) ∧ Below w.heap.size w w' := by
  obtain ⟨D, hD⟩ : ∃ D, w.heap.size = D := ⟨_, rfl⟩
  obtain ⟨W0, hW0⟩ : ∃ W0, w.alloc (.cells #[.int .i64 b, .slice a F.length ca, .slice a' U.length ca'] 24) = W0 := ⟨_, rfl⟩
  have g0 : Below w.heap.size w W0 := by subst hW0; exact below_alloc _ _
  have HB : Hid (W0.heap[D]? = some (.cells #[.int .i64 b, .slice a F.length ca, .slice a' U.length ca'] 24 (0, 0))) := by subst hW0 hD; exact al1 _ _
  obtain ⟨i0, i1, i2, -, -, -⟩ := box3_cells HB.out
  have cg := specGood_any b a ca a' ca' F U W0 hn hn' (ha.below g0) (ha'.below g0)
  unfold byV
  have hFB : good b F U = true → ∀ i, i < F.length → isB (gx F i) = true := fun h i hi => by
    have h2 := good_lst h
    exact (lst_mem h2 (by rw [gx_eq hi]; exact List.getElem_mem hi)).1
  obtain ⟨r, hr⟩ : ∃ r, good b F U = r := ⟨_, rfl⟩
  rw [hr] at cg hFB ⊢
  clear hr
  obtain ⟨S, hS⟩ : ∃ S, sm F = S := ⟨_, rfl⟩
  obtain ⟨M, hM⟩ : ∃ M, mo 0 F = M := ⟨_, rfl⟩
  rw [hS, hM]
  go_enter Try.func27, Try.ntmps27
  go_wp2_with fail
  refine cg.mono ?_
  rintro e w1 ⟨rfl, b1⟩
  clear hW0 i0 i1 i2 cg
  have g1 := Below.comp g0 b1
  obtain ⟨i0, i1, i2, -, -, -⟩ := box3_cells (box_on HB.out b1)
  cases r with
  | false =>
    go_wp2
    go_ret3
    exact ⟨rfl, by first | exact g1 | exact hD ▸ g1⟩
  | true =>
    have HF : Hid (∀ i, i < F.length → isB (gx F i) = true) := hFB rfl
    have H0 : Hid (sm F = S ∧ mo 0 F = M) := ⟨hS, hM⟩
    clear hFB hS hM
    go_wp2
    go_loopw [5, 6, 15] (fun n m i wr => ∃ (k : Nat) (N m' : Int), k ≤ F.length ∧ n = .int .i64 N ∧ m = .int .i64 m' ∧ i = .int .i64 k ∧ 0 ≤ N ∧ N ≤ 256 * k ∧ N + sm (F.drop k) = S ∧ mo m' (F.drop k) = M ∧ Below w1.heap.size w1 wr) (fun _ _ i _ => F.length - (intOf i).toNat)
    case atStart => exact ⟨0, 0, 0, Nat.zero_le _, rfl, rfl, rfl, by omega, by omega, by simpa using H0.out.1, by simpa using H0.out.2, Below.refl _ _⟩
    case round =>
      obtain ⟨k, N, m', hk, rfl, rfl, rfl, hN0, hN1, hsm, hmo, hb⟩ := hrel
      have hb' := Below.comp g1 hb
      clear i0 i1 i2 H0
      by_cases hlt : k < F.length
      · rw [sm_at hlt] at hsm
        rw [mo_at hlt] at hmo
        obtain ⟨bb, off, rfl, hcell⟩ := (ha.below hb') (by omega)
        obtain ⟨k0, k1⟩ := hcell k hlt
        have hlt' : (k : Int) < (F.length : Int) := by omega
        have hxB := HF.out k hlt
        generalize gx F k = x at *
        obtain ⟨p, q, rfl, hp30, hq8⟩ := xv_nat hxB
        simp only at k0 k1 hmo
        have hsq := shl_one hq8
        have hQ1 := pw_le hq8
        have hQ0 := pw_pos (q : Int)
        have c46 := fun W => lengthOf_any (p : Int) q hq8 W
        have eln : ln ((p : Int), (q : Int)) = pw (q : Int) := rfl
        rw [eln] at hsm
        generalize pw (q : Int) = Q at *
        clear hcell eln
        have HSM : Hid (N + Q + sm (F.drop (k + 1)) = S) := by show _ = _; omega
        have HMO : Hid _ := hmo
        clear hsm hmo
        by_cases hgt : m' < (q : Int)
        · skip
          go_wp2
          go_roundw
          case rel => exact ⟨k + 1, N + Q, (q : Int), by omega, rfl, rfl, by go_num, by omega, by omega, HSM.out, (by have := HMO.out; rw [if_pos hgt] at this; exact this), Below.comp hb (below_alloc _ _)⟩
          case measure => simp [intOf]; omega
        · skip
          go_wp2
          go_roundw
          case rel => exact ⟨k + 1, N + Q, m', by omega, rfl, rfl, by go_num, by omega, by omega, HSM.out, (by have := HMO.out; rw [if_neg hgt] at this; exact this), Below.comp hb (below_alloc _ _)⟩
          case measure => simp [intOf]; omega
      · have hkn : k = F.length := by omega
        subst hkn
        rw [List.drop_length] at hsm hmo
        simp only [sm, mo, Int.add_zero] at hsm hmo
        subst hsm hmo
        go_wp2
        go_ret3
        exact ⟨rfl, by first | exact hb' | exact hD ▸ hb'⟩
set_option maxHeartbeats 2000000 in
theorem implBytes_any (b : Int) (a : Option Addr) (ca : Nat) (a' : Option Addr) (ca' : Nat) (F U : List Ex) (w : World) (hn : F.length ≤ 1048576) (hn' : U.length ≤ 1048576) (hca : F.length ≤ ca) (hca' : U.length ≤ ca') (ha : Exs w a F) (ha' : Exs w a' U) :
    Calls Try.prog 28 #[fv b a F.length ca a' U.length ca'] w fun e w' => e = .returned (byV b F U) ∧ Below w.heap.size w w' := by
  obtain ⟨D, hD⟩ : ∃ D, w.heap.size = D := ⟨_, rfl⟩
  obtain ⟨W0, hW0⟩ : ∃ W0, w.alloc (.cells #[.int .i64 b, .slice a F.length ca, .slice a' U.length ca'] 24) = W0 := ⟨_, rfl⟩
  have g0 : Below w.heap.size w W0 := by subst hW0; exact below_alloc _ _
  have HB : Hid (W0.heap[D]? = some (.cells #[.int .i64 b, .slice a F.length ca, .slice a' U.length ca'] 24 (0, 0))) := by subst hW0 hD; exact al1 _ _
  obtain ⟨i0, i1, i2, -, -, -⟩ := box3_cells HB.out
  have cg := implGood_any b a ca a' ca' F U W0 hn hn' hca hca' (ha.below g0) (ha'.below g0)
  unfold byV
  have hFB : good b F U = true → ∀ i, i < F.length → isB (gx F i) = true := fun h i hi => by
    have h2 := good_lst h
    exact (lst_mem h2 (by rw [gx_eq hi]; exact List.getElem_mem hi)).1
  obtain ⟨r, hr⟩ : ∃ r, good b F U = r := ⟨_, rfl⟩
  rw [hr] at cg hFB ⊢
  clear hr
  obtain ⟨S, hS⟩ : ∃ S, sm F = S := ⟨_, rfl⟩
  obtain ⟨M, hM⟩ : ∃ M, mo 0 F = M := ⟨_, rfl⟩
  rw [hS, hM]
  go_enter Try.func28, Try.ntmps28
  go_wp2_with fail
  refine cg.mono ?_
  rintro e w1 ⟨rfl, b1⟩
  clear hW0 i0 i1 i2 cg
  have g1 := Below.comp g0 b1
  obtain ⟨i0, i1, i2, -, -, -⟩ := box3_cells (box_on HB.out b1)
  cases r with
  | false =>
    go_wp2
    go_ret3
    exact ⟨rfl, by first | exact g1 | exact hD ▸ g1⟩
  | true =>
    have HF : Hid (∀ i, i < F.length → isB (gx F i) = true) := hFB rfl
    have H0 : Hid (sm F = S ∧ mo 0 F = M) := ⟨hS, hM⟩
    clear hFB hS hM
    go_wp2
    go_loopw [5, 6, 15] (fun n m i wr => ∃ (k : Nat) (N m' : Int), k ≤ F.length ∧ n = .int .i64 N ∧ m = .int .i64 m' ∧ i = .int .i64 k ∧ 0 ≤ N ∧ N ≤ 256 * k ∧ N + sm (F.drop k) = S ∧ mo m' (F.drop k) = M ∧ Below w1.heap.size w1 wr) (fun _ _ i _ => F.length - (intOf i).toNat)
    case atStart => exact ⟨0, 0, 0, Nat.zero_le _, rfl, rfl, rfl, by omega, by omega, by simpa using H0.out.1, by simpa using H0.out.2, Below.refl _ _⟩
    case round =>
      obtain ⟨k, N, m', hk, rfl, rfl, rfl, hN0, hN1, hsm, hmo, hb⟩ := hrel
      have hb' := Below.comp g1 hb
      clear i0 i1 i2 H0
      by_cases hlt : k < F.length
      · rw [sm_at hlt] at hsm
        rw [mo_at hlt] at hmo
        obtain ⟨bb, off, rfl, hcell⟩ := (ha.below hb') (by omega)
        obtain ⟨k0, k1⟩ := hcell k hlt
        have hlt' : (k : Int) < (F.length : Int) := by omega
        have hxB := HF.out k hlt
        generalize gx F k = x at *
        obtain ⟨p, q, rfl, hp30, hq8⟩ := xv_nat hxB
        simp only at k0 k1 hmo
        have hsq := shl_one hq8
        have hQ1 := pw_le hq8
        have hQ0 := pw_pos (q : Int)
        have c46 := fun W => lengthOf_any (p : Int) q hq8 W
        have eln : ln ((p : Int), (q : Int)) = pw (q : Int) := rfl
        rw [eln] at hsm
        generalize pw (q : Int) = Q at *
        clear hcell eln
        have HSM : Hid (N + Q + sm (F.drop (k + 1)) = S) := by show _ = _; omega
        have HMO : Hid _ := hmo
        clear hsm hmo
        obtain ⟨E, hE⟩ : ∃ E, wr.heap.size = E := ⟨_, rfl⟩
        obtain ⟨W1, hW1⟩ : ∃ W1, wr.alloc (.cells #[.int .i64 p, .int .i64 q] 43) = W1 := ⟨_, rfl⟩
        have b2 : Below wr.heap.size wr W1 := by subst hW1; exact below_alloc _ _
        have HE : Hid (W1.heap[E]? = some (.cells #[.int .i64 p, .int .i64 q] 43 (0, 0))) := by subst hW1 hE; exact al1 _ _
        obtain ⟨e0, e1, -, -⟩ := box2_cells HE.out
        go_wp2_with fail
        refine (c46 _).mono ?_
        rintro e w2 ⟨rfl, b3⟩
        clear hW1 e0 e1
        obtain ⟨e0, e1, -, -⟩ := box2_cells (box_on HE.out b3)
        by_cases hgt : m' < (q : Int)
        · have hmx : max m' (q : Int) = (q : Int) := by omega
          go_wp2
          go_roundw
          case rel => exact ⟨k + 1, N + Q, (q : Int), by omega, rfl, by first | rfl | rw [hmx] | simp [hmx], by go_num, by omega, by omega, HSM.out, (by have := HMO.out; rw [if_pos hgt] at this; exact this), Below.comp hb (Below.comp b2 b3)⟩
          case measure => simp [intOf]; omega
        · have hmx : max m' (q : Int) = m' := by omega
          have Hgt : Hid (¬ m' < (q : Int)) := hgt
          go_wp2
          go_roundw
          case rel => exact ⟨k + 1, N + Q, m', by omega, rfl, by first | rfl | rw [hmx] | simp [hmx], by go_num, by omega, by omega, HSM.out, (by have := HMO.out; rw [if_neg (by omega)] at this; exact this), Below.comp hb (Below.comp b2 b3)⟩
          case measure => simp [intOf]; omega
      · have hkn : k = F.length := by omega
        subst hkn
        rw [List.drop_length] at hsm hmo
        simp only [sm, mo, Int.add_zero] at hsm hmo
        subst hsm hmo
        go_wp2
        go_ret3
        exact ⟨rfl, by first | exact hb' | exact hD ▸ hb'⟩
end Go.Proofs.Ytgapplfnlndckaa
