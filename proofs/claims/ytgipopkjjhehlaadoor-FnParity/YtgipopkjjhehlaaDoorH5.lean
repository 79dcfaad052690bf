import Derived.Test.YtgipopkjjhehlaaDoorH2
import Derived.Test.YtgipopkjjhehlaaDoorX4
import Derived.Test.YtgipopkjjhehlaaDoorK1
namespace Go.Proofs.YtgipopkjjhehlaaDoor
open Go.ChangeShapes Go.WideShapes Go.ChangeAt Go.RowKit
set_option linter.unusedVariables false
open GF

theorem mkP_size (n : Nat) (D : Nat → ByteArray) : (mkP n D).size = (D 0).size := tx_size _ _
theorem mkQ_size (n : Nat) (D : Nat → ByteArray) : (mkQ n D).size = (D 0).size := tx_size _ _
theorem made_good {n : Nat} {D : Nat → ByteArray} (h : dataB n D = true) : goodB n D (mkP n D) (mkQ n D) = true :=
  (goodB_iff _ _ _ _).2 ⟨h, mkP_size n D, by rw [mkP_size, mkQ_size]⟩
theorem made_is_right {n : Nat} {D : Nat → ByteArray} (h : dataB n D = true) : rightB n D (mkP n D) (mkQ n D) = true := by
  unfold rightB
  rw [mkP_size]
  exact decide_eq_true ⟨rfl, rfl⟩
/-- The text that disk k gets. -/
def nw (L k m : Nat) : ByteArray := tx L fun i => (k * i + m) % 256
theorem nw_size (L k m : Nat) : (nw L k m).size = L := tx_size _ _
theorem sP_sz {n : Nat} {D : Nat → ByteArray} {P Q : ByteArray} {i : Nat} {u : ByteArray} (hu : u.size = P.size) : (sP n P i u).size = P.size := by
  unfold sP; split
  · exact hu
  · rfl
/-- A right stripe of which disks a and b got other texts. -/
theorem alt_of {n : Nat} {D : Nat → ByteArray} {P Q : ByteArray} {a b : Nat} {u v : ByteArray} (hg : goodB n D P Q = true) (hr : rightB n D P Q = true) (ha : a < n + 2) (hb : b < n + 2) (hu : u.size = P.size) (hv : v.size = P.size) :
    Alt n D P Q (sD n (sD n D a u) b v) (sP n (sP n P a u) b v) (sQ n (sQ n Q a u) b v) a b := by
  have s1 : (sP n P a u).size = P.size := sP_sz (n := n) (D := D) (Q := Q) hu
  have g1 := good_set (i := a) hg hu
  have g2 := good_set (i := b) g1 (u := v) (by rw [s1]; exact hv)
  refine ⟨hg, hr, g2, ?_, ha, hb, fun i hi h1 h2 => ?_⟩
  · rw [sP_sz (n := n) (D := D) (Q := Q) (by rw [s1]; exact hv), s1]
  · rw [dt_set_ne hb hi (fun q => h2 q.symm), dt_set_ne ha hi (fun q => h1 q.symm)]
end Go.Proofs.YtgipopkjjhehlaaDoor
