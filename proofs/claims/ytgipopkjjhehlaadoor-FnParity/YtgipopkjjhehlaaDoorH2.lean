import Derived.Test.YtgipopkjjhehlaaDoorH1
namespace Go.Proofs.YtgipopkjjhehlaaDoor
open Go.ChangeShapes Go.WideShapes Go.ChangeAt Go.RowKit
set_option linter.unusedVariables false
open GF

/-- One disk changed: what the two sums are. -/
theorem Alt.sums1 {n : Nat} {D : Nat → ByteArray} {P Q : ByteArray} {D' : Nat → ByteArray} {P' Q' : ByteArray} {a : Nat} (h : Alt n D P Q D' P' Q' a a) {k : Nat} (hk : k < P.size) :
    sp n (dby D' k) (bb P' k) = gm (cp n a) (bb (dt n D' P' Q' a) k ^^^ bb (dt n D P Q a) k) ∧
    sq' n (dby D' k) (bb Q' k) = gm (cq n a) (bb (dt n D' P' Q' a) k ^^^ bb (dt n D P Q a) k) := by
  obtain ⟨_, _, _, _, hQ⟩ := goodB_spec h.good
  have hz := (right_iff hQ).1 h.right k hk
  have s0 := sum_p (n := n) (q := bb Q k) (dby_lt D k) (bb_lt P k)
  have s1 := sum_q (n := n) (d := dby D k) (p := bb P k) (bb_lt Q k)
  have t0 := sum_p (n := n) (q := bb Q' k) (dby_lt D' k) (bb_lt P' k)
  have t1 := sum_q (n := n) (d := dby D' k) (p := bb P' k) (bb_lt Q' k)
  rw [hz.1] at s0
  rw [hz.2] at s1
  rw [← t0, ← t1]
  have hs : ∀ i, i < n + 2 → i ≠ a → dk n (dby D' k) (bb P' k) (bb Q' k) i = dk n (dby D k) (bb P k) (bb Q k) i := fun i hi h1 => by
    rw [← bb_dt, ← bb_dt, h.same i hi h1 h1]
  have e0 := xs_one (f := fun i => gm (cp n i) (dk n (dby D' k) (bb P' k) (bb Q' k) i)) (g := fun i => gm (cp n i) (dk n (dby D k) (bb P k) (bb Q k) i)) h.ha (fun i hi h1 => by simp only [hs i hi h1])
  have e1 := xs_one (f := fun i => gm (cq n i) (dk n (dby D' k) (bb P' k) (bb Q' k) i)) (g := fun i => gm (cq n i) (dk n (dby D k) (bb P k) (bb Q k) i)) h.ha (fun i hi h1 => by simp only [hs i hi h1])
  rw [s0, Nat.zero_xor] at e0
  rw [s1, Nat.zero_xor] at e1
  rw [e0, e1]
  simp only [← bb_dt, gm_xor_right]
  exact ⟨trivial, trivial⟩
theorem Alt.one {n : Nat} {D : Nat → ByteArray} {P Q : ByteArray} {D' : Nat → ByteArray} {P' Q' : ByteArray} {a : Nat} (h : Alt n D P Q D' P' Q' a a) : oneU n D' P' a = dt n D P Q a := by
  have ha := h.ha
  rw [← one_eq (Q := Q') ha, h.size]
  refine (tx_eq_iff (fun k => xor_lt (bb_lt _ _) (by split; exact sq_lt' (dby_lt _ _) (bb_lt _ _); exact sp_lt (dby_lt _ _) (bb_lt _ _))) (dt_size h.good a)).2 fun k hk => ?_
  obtain ⟨e0, e1⟩ := h.sums1 hk
  have hx := xor_lt (bb_lt (dt n D' P' Q' a) k) (bb_lt (dt n D P Q a) k)
  by_cases e : a = n + 1
  · rw [if_pos e, e1, show cq n a = 1 by rw [e, cq_q], one_gm hx, xor_self_left]
  · rw [if_neg e, e0, show cp n a = 1 by unfold cp; rw [if_neg e], one_gm hx, xor_self_left]
theorem Alt.recovers1 {n : Nat} {D : Nat → ByteArray} {P Q : ByteArray} {D' : Nat → ByteArray} {P' Q' : ByteArray} {a : Nat} (h : Alt n D P Q D' P' Q' a a) :
    (∀ i, i < n → sD n D' a (oneU n D' P' a) i = D i) ∧ sP n P' a (oneU n D' P' a) = P ∧ sQ n Q' a (oneU n D' P' a) = Q := by
  refine dt_ext fun i hi => ?_
  by_cases e : i = a
  · subst e
    rw [dt_set_eq hi, h.one]
  · rw [dt_set_ne h.ha hi (fun q => e q.symm), h.same i hi e e]
theorem Alt.fits {n : Nat} {D : Nat → ByteArray} {P Q : ByteArray} {D' : Nat → ByteArray} {P' Q' : ByteArray} {a : Nat} (h : Alt n D P Q D' P' Q' a a) : fitB n D' P' Q' a = true := by
  unfold fitB
  refine decide_eq_true fun k hk => ?_
  rw [h.size] at hk
  obtain ⟨e0, e1⟩ := h.sums1 hk
  have hx := xor_lt (bb_lt (dt n D' P' Q' a) k) (bb_lt (dt n D P Q a) k)
  rw [e0, e1]
  unfold crs
  rw [← gm_assoc (cp_lt n a) (cq_lt n a) hx, ← gm_assoc (cq_lt n a) (cp_lt n a) hx, gm_comm (cq_lt n a) (cp_lt n a), Nat.xor_self]
/-- It is right where the disk is what it was, and there alone. -/
theorem Alt.right1 {n : Nat} {D : Nat → ByteArray} {P Q : ByteArray} {D' : Nat → ByteArray} {P' Q' : ByteArray} {a : Nat} (h : Alt n D P Q D' P' Q' a a) : rightB n D' P' Q' = true ↔ dt n D' P' Q' a = dt n D P Q a := by
  obtain ⟨_, _, _, _, hQ⟩ := goodB_spec h.good'
  rw [right_iff hQ, h.size]
  constructor
  · intro hr
    have ht : tx P.size (bb (dt n D' P' Q' a)) = tx P.size (bb (dt n D P Q a)) := tx_congr fun k hk => ?_
    · rwa [tx_bb' (by rw [dt_size h.good' a, h.size]), tx_bb' (dt_size h.good a)] at ht
    obtain ⟨e0, e1⟩ := h.sums1 hk
    have hx := xor_lt (bb_lt (dt n D' P' Q' a) k) (bb_lt (dt n D P Q a) k)
    have hz := hr k hk
    by_cases e : a = n + 1
    · rw [hz.2, show cq n a = 1 by rw [e, cq_q], one_gm hx] at e1
      exact xor_eq_zero e1.symm
    · rw [hz.1, show cp n a = 1 by unfold cp; rw [if_neg e], one_gm hx] at e0
      exact xor_eq_zero e0.symm
  · intro he k hk
    obtain ⟨e0, e1⟩ := h.sums1 hk
    rw [e0, e1, he, Nat.xor_self, gm_zero, gm_zero]
    exact ⟨rfl, rfl⟩
/-- What FindWrong tells: the disk, or none where nothing is changed. -/
theorem Alt.finds {n : Nat} {D : Nat → ByteArray} {P Q : ByteArray} {D' : Nat → ByteArray} {P' Q' : ByteArray} {a : Nat} (h : Alt n D P Q D' P' Q' a a) (hne : ¬ dt n D' P' Q' a = dt n D P Q a) : fwN n D' P' Q' = some a :=
  fwN_some h.good' (by cases hr : rightB n D' P' Q' with | false => rfl | true => exact absurd (h.right1.1 hr) hne) h.ha h.fits
theorem Alt.findsNone {n : Nat} {D : Nat → ByteArray} {P Q : ByteArray} {D' : Nat → ByteArray} {P' Q' : ByteArray} {a : Nat} (h : Alt n D P Q D' P' Q' a a) (he : dt n D' P' Q' a = dt n D P Q a) : fwN n D' P' Q' = none :=
  fwN_not fun hh => by rw [h.right1.2 he] at hh; exact absurd hh.2 (by decide)
theorem Alt.all {n : Nat} {D : Nat → ByteArray} {P Q : ByteArray} {D' : Nat → ByteArray} {P' Q' : ByteArray} {a : Nat} (h : Alt n D P Q D' P' Q' a a) (he : dt n D' P' Q' a = dt n D P Q a) : (∀ i, i < n → D' i = D i) ∧ P' = P ∧ Q' = Q :=
  dt_ext fun i hi => by
    by_cases e : i = a
    · rw [e, he]
    · exact h.same i hi e e
theorem Alt.differ {n : Nat} {D : Nat → ByteArray} {P Q : ByteArray} {D' : Nat → ByteArray} {P' Q' : ByteArray} {a : Nat} (h : Alt n D P Q D' P' Q' a a) (hne : ¬ dt n D' P' Q' a = dt n D P Q a) : ¬ (P' = P ∧ Q' = Q ∧ ∀ i, i < n → D' i = D i) := by
  rintro ⟨rfl, rfl, hd⟩
  apply hne
  unfold dt
  split
  · exact hd a (by assumption)
  · rfl
end Go.Proofs.YtgipopkjjhehlaaDoor
