import Derived.Test.YtgipopkjjhehlaaDoorE1
namespace Go.Proofs.YtgipopkjjhehlaaDoor
open Go.ChangeShapes Go.WideShapes Go.ChangeAt Go.RowKit
set_option linter.unusedVariables false
open GF

theorem bb_updP {D : Nat → ByteArray} {P u : ByteArray} {i k : Nat} (hk : k < P.size) : bb (updP D P i u) k = bb P k ^^^ (bb (D i) k ^^^ bb u k) := by
  unfold updP
  exact bb_tx (f := fun k => bb P k ^^^ (bb (D i) k ^^^ bb u k)) hk (xor_lt (bb_lt _ _) (xor_lt (bb_lt _ _) (bb_lt _ _)))
theorem bb_updQ {D : Nat → ByteArray} {P Q u : ByteArray} {i k : Nat} (hk : k < P.size) : bb (updQ D P Q i u) k = bb Q k ^^^ gm (ex i) (bb (D i) k ^^^ bb u k) := by
  unfold updQ
  exact bb_tx (f := fun k => bb Q k ^^^ gm (ex i) (bb (D i) k ^^^ bb u k)) hk (xor_lt (bb_lt _ _) (gm_lt _ (ex_lt _)))
theorem upd_good {n : Nat} {D : Nat → ByteArray} {P Q u : ByteArray} {i : Nat} (hg : goodB n D P Q = true) (hu : u.size = P.size) : goodB n (upD D i u) (updP D P i u) (updQ D P Q i u) = true := by
  obtain ⟨h1, h2, h3, h4, h5⟩ := goodB_spec hg
  have e1 : (updP D P i u).size = P.size := tx_size _ _
  have e2 : (updQ D P Q i u).size = P.size := tx_size _ _
  refine decide_eq_true ⟨h1, h2, by rw [e1]; exact h3, fun j hj => ?_, by rw [e1, e2]⟩
  rw [e1]
  unfold upD
  split
  · exact hu
  · exact h4 j hj
theorem upd_right {n : Nat} {D : Nat → ByteArray} {P Q u : ByteArray} {i : Nat} (hg : goodB n D P Q = true) (hi : i < n) (hu : u.size = P.size) : rightB n (upD D i u) (updP D P i u) (updQ D P Q i u) = rightB n D P Q := by
  obtain ⟨h1, h2, h3, h4, h5⟩ := goodB_spec hg
  have e1 : (updP D P i u).size = P.size := tx_size _ _
  have e2 : (updQ D P Q i u).size = P.size := tx_size _ _
  have key : rightB n (upD D i u) (updP D P i u) (updQ D P Q i u) = true ↔ rightB n D P Q = true := by
    rw [right_iff (by rw [e1, e2]), right_iff h5, e1]
    have hp : ∀ k, k < P.size → sp n (dby (upD D i u) k) (bb (updP D P i u) k) = sp n (dby D k) (bb P k) := fun k hk => by
      unfold sp
      have hd : dby D k i = bb (D i) k := rfl
      rw [dby_up, pp_up hi, bb_updP hk, hd, xor4, Nat.xor_comm (bb u k), Nat.xor_self, Nat.xor_zero]
    have hq : ∀ k, k < P.size → sq' n (dby (upD D i u) k) (bb (updQ D P Q i u) k) = sq' n (dby D k) (bb Q k) := fun k hk => by
      unfold sq'
      have hd : dby D k i = bb (D i) k := rfl
      rw [dby_up, qq_up hi, bb_updQ hk, hd, xor4, Nat.xor_comm (bb u k), Nat.xor_self, Nat.xor_zero]
    constructor
    · intro h k hk; rw [← hp k hk, ← hq k hk]; exact h k hk
    · intro h k hk; rw [hp k hk, hq k hk]; exact h k hk
  cases h : rightB n D P Q
  · cases h' : rightB n (upD D i u) (updP D P i u) (updQ D P Q i u)
    · rfl
    · rw [key.1 h'] at h; cases h
  · exact key.2 h
theorem made_right {n : Nat} {D : Nat → ByteArray} {P Q : ByteArray} (hg : goodB n D P Q = true) (hr : rightB n D P Q = true) : mkP n D = P ∧ mkQ n D = Q := by
  obtain ⟨h1, h2, h3, h4, h5⟩ := goodB_spec hg
  have h0 := h4 0 (by omega)
  have := of_decide_eq_true hr
  unfold mkP mkQ
  rw [h0]; exact this
theorem okUpd_in {n : Nat} {D : Nat → ByteArray} {P Q u : ByteArray} {k : Nat} (h : okUpd n D P Q (k : Int) u = true) : goodB n D P Q = true ∧ k < n ∧ u.size = P.size := by
  unfold okUpd at h
  rw [Bool.and_eq_true] at h
  have := of_decide_eq_true h.2
  exact ⟨h.1, by omega, this.2.2⟩
theorem good_data' {n : Nat} {D : Nat → ByteArray} {P Q : ByteArray} (h : goodB n D P Q = true) : dataB n D = true := ((goodB_iff n D P Q).1 h).1
/-- The disk that FindWrong tells: recovered, the stripe is right. -/
theorem found {n : Nat} {D : Nat → ByteArray} {P Q : ByteArray} {i : Nat} (h : fwN n D P Q = some i) : i < n + 2 ∧ goodB n D P Q = true ∧ okOne n D P Q (i : Int) = true ∧ goodB n (sD n D i (oneU n D P i)) (sP n P i (oneU n D P i)) (sQ n Q i (oneU n D P i)) = true ∧ rightB n (sD n D i (oneU n D P i)) (sP n P i (oneU n D P i)) (sQ n Q i (oneU n D P i)) = true := by
  unfold fwN at h
  split at h
  · rename_i hc
    have hf := List.find?_some h
    have hm := List.mem_range.1 (List.mem_of_find?_eq_some h)
    have hu : (oneU n D P i).size = P.size := by unfold oneU; split; exact tx_size _ _; split <;> exact tx_size _ _
    refine ⟨hm, hc.1, ?_, good_set hc.1 hu, ?_⟩
    · unfold okOne
      rw [hc.1, decide_eq_true ⟨by omega, by omega⟩]; rfl
    · rw [one_fit hc.1 hm]; exact hf
  · cases h
end Go.Proofs.YtgipopkjjhehlaaDoor
