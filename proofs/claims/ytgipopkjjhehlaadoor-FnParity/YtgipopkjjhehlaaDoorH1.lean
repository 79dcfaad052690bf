import Derived.Test.YtgipopkjjhehlaaDoorE2
import Derived.Test.YtgipopkjjhehlaaDoorM1
namespace Go.Proofs.YtgipopkjjhehlaaDoor
open Go.ChangeShapes Go.WideShapes Go.ChangeAt Go.RowKit
set_option linter.unusedVariables false
open GF

theorem xs_two {f g : Nat → Nat} {a b n : Nat} (ha : a < n) (hb : b < n) (hab : a ≠ b) (h : ∀ i, i < n → i ≠ a → i ≠ b → f i = g i) : xs f n = xs g n ^^^ (f a ^^^ g a) ^^^ (f b ^^^ g b) := by
  have h1 : xs f n = xs (up f b (g b)) n ^^^ (f b ^^^ up f b (g b) b) := xs_one hb fun i hi hx => (up_ne hx).symm
  have h2 : xs (up f b (g b)) n = xs g n ^^^ (up f b (g b) a ^^^ g a) := xs_one ha fun i hi hx => by
    by_cases e : i = b
    · rw [e, up_same]
    · rw [up_ne e]; exact h i hi hx e
  rw [h1, h2, up_same, up_ne hab]
/-- What two disks lack, told by the two sums. -/
theorem ch_solves {n a b x y : Nat} (hn : n ≤ 16) (ha : a < n + 2) (hb : b < n + 2) (hab : a ≠ b) (hx : x < 256) (hy : y < 256) :
    ch n a b (gm (cp n a) x ^^^ gm (cp n b) y) (gm (cq n a) x ^^^ gm (cq n b) y) = x := by
  have c0 := cross_ne hn ha hb hab
  have pa := cp_lt n a
  have pb := cp_lt n b
  have qa := cq_lt n a
  have qb := cq_lt n b
  unfold ch
  have e : crs (gm (cp n a) x ^^^ gm (cp n b) y) (gm (cq n a) x ^^^ gm (cq n b) y) (cp n b) (cq n b) = gm x (crs (cp n a) (cq n a) (cp n b) (cq n b)) := by
    unfold crs
    generalize cp n a = A at *
    generalize cp n b = B at *
    generalize cq n a = C at *
    generalize cq n b = E at *
    rw [gm_xor_left, gm_xor_left, gm_xor_right, xor4]
    have e1 : gm (gm A x) E = gm x (gm A E) := by rw [gm_comm pa hx, gm_assoc hx pa qb]
    have e2 : gm (gm C x) B = gm x (gm C B) := by rw [gm_comm qa hx, gm_assoc hx qa pb]
    have e3 : gm (gm B y) E = gm (gm E y) B := by
      rw [gm_comm pb hy, gm_comm qb hy, gm_assoc hy pb qb, gm_assoc hy qb pb, gm_comm pb qb]
    rw [e1, e2, e3, Nat.xor_self, Nat.xor_zero]
  rw [e]
  have hc := crs_lt (p' := cp n b) (q' := cq n b) pa qa
  rw [gm_assoc hx hc (gi_lt _), gm_gi hc c0, gm_one]

/-- A stripe of which all disks but two are those of a right one. -/
structure Alt (n : Nat) (D : Nat → ByteArray) (P Q : ByteArray) (D' : Nat → ByteArray) (P' Q' : ByteArray) (a b : Nat) : Prop where
  good : goodB n D P Q = true
  right : rightB n D P Q = true
  good' : goodB n D' P' Q' = true
  size : P'.size = P.size
  ha : a < n + 2
  hb : b < n + 2
  same : ∀ i, i < n + 2 → i ≠ a → i ≠ b → dt n D' P' Q' i = dt n D P Q i
theorem Alt.sums {n : Nat} {D : Nat → ByteArray} {P Q : ByteArray} {D' : Nat → ByteArray} {P' Q' : ByteArray} {a b : Nat} (h : Alt n D P Q D' P' Q' a b) (hab : a ≠ b) {k : Nat} (hk : k < P.size) :
    sp n (dby D' k) (bb P' k) = gm (cp n a) (bb (dt n D' P' Q' a) k ^^^ bb (dt n D P Q a) k) ^^^ gm (cp n b) (bb (dt n D' P' Q' b) k ^^^ bb (dt n D P Q b) k) ∧
    sq' n (dby D' k) (bb Q' k) = gm (cq n a) (bb (dt n D' P' Q' a) k ^^^ bb (dt n D P Q a) k) ^^^ gm (cq n b) (bb (dt n D' P' Q' b) k ^^^ bb (dt n D P Q b) k) := by
  obtain ⟨_, _, _, _, hQ⟩ := goodB_spec h.good
  have hz := (right_iff hQ).1 h.right k hk
  have s0 := sum_p (n := n) (q := bb Q k) (dby_lt D k) (bb_lt P k)
  have s1 := sum_q (n := n) (d := dby D k) (p := bb P k) (bb_lt Q k)
  have t0 := sum_p (n := n) (q := bb Q' k) (dby_lt D' k) (bb_lt P' k)
  have t1 := sum_q (n := n) (d := dby D' k) (p := bb P' k) (bb_lt Q' k)
  rw [hz.1] at s0
  rw [hz.2] at s1
  rw [← t0, ← t1]
  have hs : ∀ i, i < n + 2 → i ≠ a → i ≠ b → dk n (dby D' k) (bb P' k) (bb Q' k) i = dk n (dby D k) (bb P k) (bb Q k) i := fun i hi h1 h2 => by
    rw [← bb_dt, ← bb_dt, h.same i hi h1 h2]
  have e0 := xs_two (f := fun i => gm (cp n i) (dk n (dby D' k) (bb P' k) (bb Q' k) i)) (g := fun i => gm (cp n i) (dk n (dby D k) (bb P k) (bb Q k) i)) h.ha h.hb hab (fun i hi h1 h2 => by simp only [hs i hi h1 h2])
  have e1 := xs_two (f := fun i => gm (cq n i) (dk n (dby D' k) (bb P' k) (bb Q' k) i)) (g := fun i => gm (cq n i) (dk n (dby D k) (bb P k) (bb Q k) i)) h.ha h.hb hab (fun i hi h1 h2 => by simp only [hs i hi h1 h2])
  rw [s0, Nat.zero_xor] at e0
  rw [s1, Nat.zero_xor] at e1
  rw [e0, e1]
  simp only [← bb_dt, gm_xor_right]
  exact ⟨trivial, trivial⟩
theorem Alt.two {n : Nat} {D : Nat → ByteArray} {P Q : ByteArray} {D' : Nat → ByteArray} {P' Q' : ByteArray} {a b : Nat} (h : Alt n D P Q D' P' Q' a b) (hab : a ≠ b) : twoU n D' P' Q' a b = dt n D P Q a := by
  obtain ⟨_, hn, _, _, hQ⟩ := goodB_spec h.good
  unfold twoU
  rw [h.size]
  refine (tx_eq_iff (fun k => xor_lt (bb_lt _ _) (ch_lt (sp_lt (dby_lt _ _) (bb_lt _ _)) (sq_lt' (dby_lt _ _) (bb_lt _ _)))) (dt_size h.good a)).2 fun k hk => ?_
  obtain ⟨e0, e1⟩ := h.sums hab hk
  rw [e0, e1, ch_solves hn h.ha h.hb hab (xor_lt (bb_lt _ _) (bb_lt _ _)) (xor_lt (bb_lt _ _) (bb_lt _ _)), xor_self_left]
theorem Alt.symm {n : Nat} {D : Nat → ByteArray} {P Q : ByteArray} {D' : Nat → ByteArray} {P' Q' : ByteArray} {a b : Nat} (h : Alt n D P Q D' P' Q' a b) : Alt n D P Q D' P' Q' b a :=
  ⟨h.good, h.right, h.good', h.size, h.hb, h.ha, fun i hi h1 h2 => h.same i hi h2 h1⟩
theorem dt_set_eq {n : Nat} {D : Nat → ByteArray} {P Q : ByteArray} {i : Nat} {u : ByteArray} (hi : i < n + 2) : dt n (sD n D i u) (sP n P i u) (sQ n Q i u) i = u := by
  rcases (by omega : i < n ∨ i = n ∨ i = n + 1) with h | h | h
  · rw [dt_d h, sD_d h]; exact if_pos rfl
  · subst h; rw [dt_p, sP_p]
  · subst h; rw [dt_q, sQ_q]
/-- Two stripes of which all disks are alike. -/
theorem dt_ext {n : Nat} {D D' : Nat → ByteArray} {P Q P' Q' : ByteArray} (h : ∀ i, i < n + 2 → dt n D' P' Q' i = dt n D P Q i) : (∀ i, i < n → D' i = D i) ∧ P' = P ∧ Q' = Q :=
  ⟨fun i hi => by have := h i (by omega); rwa [dt_d hi, dt_d hi] at this, by have := h n (by omega); rwa [dt_p, dt_p] at this, by have := h (n + 1) (by omega); rwa [dt_q, dt_q] at this⟩
theorem Alt.recovers {n : Nat} {D : Nat → ByteArray} {P Q : ByteArray} {D' : Nat → ByteArray} {P' Q' : ByteArray} {a b : Nat} (h : Alt n D P Q D' P' Q' a b) (hab : a ≠ b) :
    (∀ i, i < n → tD n D' P' Q' a b i = D i) ∧ tP n D' P' Q' a b = P ∧ tQ n D' P' Q' a b = Q := by
  refine dt_ext fun i hi => ?_
  unfold tD tP tQ
  by_cases e : i = b
  · subst e
    rw [dt_set_eq hi, h.symm.two (Ne.symm hab)]
  · rw [dt_set_ne h.hb hi (fun q => e q.symm)]
    by_cases e' : i = a
    · subst e'
      rw [dt_set_eq hi, h.two hab]
    · rw [dt_set_ne h.ha hi (fun q => e' q.symm), h.same i hi e' e]
end Go.Proofs.YtgipopkjjhehlaaDoor
