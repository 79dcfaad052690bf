import Derived.Test.YtgipopkjjhehlaaDoorH5
namespace Go.Proofs.YtgipopkjjhehlaaDoor
open Go.ChangeShapes Go.WideShapes Go.ChangeAt Go.RowKit
set_option linter.unusedVariables false
open GF

theorem num_a (m N : Nat) : (m : Int) % ((N : Int) + 2) = ((m % (N + 2) : Nat) : Int) := by
  rw [Int.natCast_emod]; rfl
theorem num_b {m N : Nat} (h : m < 1000003) : (wrap64 ((m : Int) / ((N : Int) + 2))).tmod ((N : Int) + 2) = ((m / (N + 2) % (N + 2) : Nat) : Int) := by
  have e : (m : Int) / ((N : Int) + 2) = ((m / (N + 2) : Nat) : Int) := by rw [Int.natCast_ediv]; rfl
  have hle : m / (N + 2) ≤ m := Nat.div_le_self _ _
  generalize m / (N + 2) = d at *
  rw [e]
  have e2 : wrap64 (d : Int) = (d : Int) := by unfold wrap64; omega
  rw [e2, Int.tmod_eq_emod_of_nonneg (by omega)]
  exact num_a d N
theorem byte_ex (z : Int) : ∃ b : Nat, z % 256 = (b : Int) ∧ b < 256 := ⟨(z % 256).toNat, by omega, by omega⟩
theorem at_alike {w : World} {a : Option Addr} {n : Nat} {S D : Nat → ByteArray} (h : At w a n fun i => .string (D i)) (e : ∀ i, i < n → D i = S i) : At w a n fun i => .string (S i) := fun hn => by
  obtain ⟨b, o, ha, hc⟩ := h hn
  exact ⟨b, o, ha, fun i hi => by have := hc i hi; simp only [e i hi] at this; exact this⟩
/-- The disk of round j. -/
def kj (ka kb j : Nat) : Nat := if j = 0 then ka else kb
/-- A stripe after j rounds. -/
def Ch (N : Nat) (S : Nat → ByteArray) (P Q : ByteArray) (ka kb j : Nat) (D' : Nat → ByteArray) (P' Q' : ByteArray) : Prop :=
  ∃ u v : ByteArray, u.size = P.size ∧ v.size = P.size ∧ ((j = 0 ∧ D' = S ∧ P' = P ∧ Q' = Q) ∨ (j = 1 ∧ D' = sD N S ka u ∧ P' = sP N P ka u ∧ Q' = sQ N Q ka u) ∨ (j = 2 ∧ D' = sD N (sD N S ka u) kb v ∧ P' = sP N (sP N P ka u) kb v ∧ Q' = sQ N (sQ N Q ka u) kb v))
theorem Ch.zero (N : Nat) (S : Nat → ByteArray) (P Q : ByteArray) (ka kb : Nat) : Ch N S P Q ka kb 0 S P Q := ⟨P, P, rfl, rfl, .inl ⟨rfl, rfl, rfl, rfl⟩⟩
theorem Ch.step {N : Nat} {S : Nat → ByteArray} {P Q : ByteArray} {ka kb j : Nat} {D' : Nat → ByteArray} {P' Q' : ByteArray} (h : Ch N S P Q ka kb j D' P' Q') (hj : j < 2) {t : ByteArray} (ht : t.size = P.size) :
    Ch N S P Q ka kb (j + 1) (sD N D' (kj ka kb j) t) (sP N P' (kj ka kb j) t) (sQ N Q' (kj ka kb j) t) := by
  obtain ⟨u, v, hu, hv, h | h | h⟩ := h
  · obtain ⟨rfl, rfl, rfl, rfl⟩ := h
    exact ⟨t, v, ht, hv, .inr (.inl ⟨rfl, rfl, rfl, rfl⟩)⟩
  · obtain ⟨rfl, rfl, rfl, rfl⟩ := h
    exact ⟨u, t, hu, ht, .inr (.inr ⟨rfl, rfl, rfl, rfl⟩)⟩
  · omega
theorem Ch.alt {N : Nat} {S : Nat → ByteArray} {P Q : ByteArray} {ka kb : Nat} {D' : Nat → ByteArray} {P' Q' : ByteArray} (h : Ch N S P Q ka kb 2 D' P' Q') (hg : goodB N S P Q = true) (hr : rightB N S P Q = true) (ha : ka < N + 2) (hb : kb < N + 2) : Alt N S P Q D' P' Q' ka kb := by
  obtain ⟨u, v, hu, hv, h | h | h⟩ := h
  · omega
  · omega
  · obtain ⟨_, rfl, rfl, rfl⟩ := h
    exact alt_of hg hr ha hb hu hv
theorem Alt.size_Q {n : Nat} {D : Nat → ByteArray} {P Q : ByteArray} {D' : Nat → ByteArray} {P' Q' : ByteArray} {a b : Nat} (h : Alt n D P Q D' P' Q' a b) : P'.size ≤ 40 ∧ Q'.size ≤ 40 ∧ ∀ i, i < n → (D' i).size ≤ 40 := by
  obtain ⟨_, _, h3, h4, h5⟩ := goodB_spec h.good'
  exact ⟨h3, by omega, fun i hi => by rw [h4 i hi]; exact h3⟩
end Go.Proofs.YtgipopkjjhehlaaDoor
