import Derived.Test.YtgipopkjjhehlaaDoorM1
namespace Go.Proofs.YtgipopkjjhehlaaDoor
open Go.ChangeShapes Go.WideShapes Go.ChangeAt Go.RowKit
set_option linter.unusedVariables false
open GF

theorem up_up (d : Nat → Nat) (a u v : Nat) : up (up d a u) a v = up d a v := by
  funext j
  unfold up
  split <;> rfl
theorem upD_comm {D : Nat → ByteArray} {i j : Nat} {u v : ByteArray} (h : i ≠ j) : upD (upD D i u) j v = upD (upD D j v) i u := by
  funext k
  unfold upD
  by_cases h1 : k = i
  · by_cases h2 : k = j
    · omega
    · simp [h1, h]
  · by_cases h2 : k = j <;> simp [h1, h2]
    intro h3; omega
theorem upD_two {D : Nat → ByteArray} {i j : Nat} {z u v : ByteArray} (h : i ≠ j) : upD (upD (upD (upD D i z) j z) i u) j v = upD (upD D i u) j v := by
  rw [upD_comm (D := upD D i z) (i := j) (j := i) (Ne.symm h), upD_upD, upD_upD]
/-- One disk gone, and then blank: the text that brings it back is the same. -/
theorem blank_one {n : Nat} {D : Nat → ByteArray} {P : ByteArray} {i : Nat} (hi : i ≤ n) : oneU n (sD n D i (zr P.size)) (sP n P i (zr P.size)) i = oneU n D P i := by
  by_cases h : i < n
  · rw [sD_d h, sP_n (by omega), oneU_d h, oneU_d h]
    refine tx_congr fun k _ => ?_
    rw [dby_up, up_up]
  · obtain rfl : i = n := by omega
    rw [sD_n h, sP_p, oneU_p, oneU_p, zr_size]
theorem two_u_q {n : Nat} {D : Nat → ByteArray} {P Q : ByteArray} {i : Nat} (hi : i ≤ n) : twoU n D P Q i (n + 1) = oneU n D P i := by
  unfold twoU
  by_cases h : i < n
  · rw [oneU_d h]
    refine tx_congr fun k _ => ?_
    rw [ch_dq h, dt_d h]
    exact one_d (d := dby D k) h
  · obtain rfl : i = n := by omega
    rw [oneU_p]
    refine tx_congr fun k _ => ?_
    rw [ch_pq, dt_p]
    exact one_p
theorem two_v_q {n : Nat} {D : Nat → ByteArray} {P Q : ByteArray} {i : Nat} (hi : i ≤ n) : twoU n D P Q (n + 1) i = oneU n (sD n D i (oneU n D P i)) P (n + 1) := by
  unfold twoU
  rw [oneU_q]
  refine tx_congr fun k hk => ?_
  rw [dt_q]
  by_cases h : i < n
  · rw [ch_qd h (sp_lt (dby_lt D k) (bb_lt P k)), two_dq h, sD_d h, dby_up, oneU_d h, bb_tx (f := fun k => pp n (up (dby D k) i 0) ^^^ bb P k) hk (xor_lt (pp_lt (up_lt (dby_lt D k) (by omega))) (bb_lt P k))]
  · obtain rfl : i = n := by omega
    rw [ch_qp, sD_n h]
    exact one_q
theorem oneU_P {n : Nat} {D : Nat → ByteArray} {P P' : ByteArray} (h : P'.size = P.size) : oneU n D P' (n + 1) = oneU n D P (n + 1) := by rw [oneU_q, oneU_q, h]
theorem two_u_p {n : Nat} {D : Nat → ByteArray} {P Q : ByteArray} {i : Nat} (h : i < n) : twoU n D P Q i n = tx P.size fun k => gm (gi (ex i)) (qq n (up (dby D k) i 0) ^^^ bb Q k) := by
  unfold twoU
  refine tx_congr fun k _ => ?_
  rw [dt_d h, ch_dp h (sq_lt' (dby_lt D k) (bb_lt Q k))]
  exact two_dp (d := dby D k) (p := 0) h (dby_lt D k) (bb_lt Q k)
theorem two_v_p {n : Nat} {D : Nat → ByteArray} {P Q : ByteArray} {i : Nat} (h : i < n) : twoU n D P Q n i = tx P.size fun k => pp n (dby (upD D i (twoU n D P Q i n)) k) := by
  rw [two_u_p h]
  unfold twoU
  refine tx_congr fun k hk => ?_
  rw [dt_p, ch_pd h (sp_lt (dby_lt D k) (bb_lt P k)) (sq_lt' (dby_lt D k) (bb_lt Q k)), two_pd h (dby_lt D k) (bb_lt Q k), dby_up, bb_tx (f := fun k => gm (gi (ex i)) (qq n (up (dby D k) i 0) ^^^ bb Q k)) hk (gm_lt _ (gi_lt _))]
theorem two_u_d {n : Nat} {D : Nat → ByteArray} {P Q : ByteArray} {i j : Nat} (hn : n ≤ 16) (hi : i < n) (hj : j < n) (h : i ≠ j) : twoU n D P Q i j = tx P.size fun k => gm (gi (ex i ^^^ ex j)) ((qq n (up (up (dby D k) i 0) j 0) ^^^ bb Q k) ^^^ gm (ex j) (pp n (up (up (dby D k) i 0) j 0) ^^^ bb P k)) := by
  unfold twoU
  refine tx_congr fun k _ => ?_
  rw [dt_d hi]
  exact two_da (d := dby D k) hn hi hj h (dby_lt D k) (bb_lt P k) (bb_lt Q k)
theorem two_v_d {n : Nat} {D : Nat → ByteArray} {P Q : ByteArray} {i j : Nat} (hn : n ≤ 16) (hi : i < n) (hj : j < n) (h : i ≠ j) : twoU n D P Q j i = tx P.size fun k => bb (twoU n D P Q i j) k ^^^ (pp n (up (up (dby D k) i 0) j 0) ^^^ bb P k) := by
  have e : ∀ k, k < P.size → bb (twoU n D P Q i j) k = dby D k i ^^^ ch n i j (sp n (dby D k) (bb P k)) (sq' n (dby D k) (bb Q k)) := fun k hk => by
    unfold twoU
    rw [bb_tx (f := fun k => bb (dt n D P Q i) k ^^^ ch n i j (sp n (dby D k) (bb P k)) (sq' n (dby D k) (bb Q k))) hk (xor_lt (bb_lt _ _) (ch_lt (sp_lt (dby_lt D k) (bb_lt P k)) (sq_lt' (dby_lt D k) (bb_lt Q k)))), dt_d hi]
    rfl
  show (tx P.size fun k => bb (dt n D P Q j) k ^^^ ch n j i (sp n (dby D k) (bb P k)) (sq' n (dby D k) (bb Q k))) = _
  refine tx_congr fun k hk => ?_
  rw [e k hk, dt_d hj]
  exact two_db (d := dby D k) hn hi hj h (dby_lt D k) (bb_lt P k) (bb_lt Q k)
end Go.Proofs.YtgipopkjjhehlaaDoor
