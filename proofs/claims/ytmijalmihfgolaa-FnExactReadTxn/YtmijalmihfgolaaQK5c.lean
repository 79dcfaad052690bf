import Derived.Test.YtmijalmihfgolaaQK4c
import Derived.RegionTactic
import Derived.Laws.IdiomStrings
namespace Go.Proofs.Ytmijalmihfgolaa
open Go.ChangeShapes Go.WideShapes Go.ChangeAt Go.RowKit
set_option linter.unusedVariables false
open Tx

attribute [local go_sem] Oper.semAt_some


def byte8 (u : ByteArray) (i : Nat) : Int := (((u.data[i]?).getD 0).toNat : Int)
theorem cells8 (b0 b1 b2 b3 b4 b5 b6 b7 : UInt8) : ∀ i, i < 8 → (#[.int .u8 b0.toNat, .int .u8 b1.toNat, .int .u8 b2.toNat, .int .u8 b3.toNat, .int .u8 b4.toNat, .int .u8 b5.toNat, .int .u8 b6.toNat, .int .u8 b7.toNat] : Array Value)[i]? = some (.int .u8 (byte8 ⟨#[b0, b1, b2, b3, b4, b5, b6, b7]⟩ i)) := by
  intro i hi
  match i, hi with
  | 0, _ => rfl
  | 1, _ => rfl
  | 2, _ => rfl
  | 3, _ => rfl
  | 4, _ => rfl
  | 5, _ => rfl
  | 6, _ => rfl
  | 7, _ => rfl
theorem same8_self (u : ByteArray) : sameIn (byte8 u) (byte8 u) 0 8 = true := by simp [sameIn]
theorem u8_of {a b : UInt8} (h : (a.toNat : Int) = b.toNat) : a = b := UInt8.toNat_inj.1 (by omega)
theorem same8_eq {u v : ByteArray} (hu : u.size = 8) (hv : v.size = 8) (h : sameIn (byte8 u) (byte8 v) 0 8 = true) : u = v := by
  obtain ⟨b0, b1, b2, b3, b4, b5, b6, b7, rfl⟩ := bytes8 hu
  obtain ⟨c0, c1, c2, c3, c4, c5, c6, c7, rfl⟩ := bytes8 hv
  simp [sameIn, byte8, List.range'] at h
  obtain ⟨h0, h1, h2, h3, h4, h5, h6, h7⟩ := h
  simp [u8_of h0, u8_of h1, u8_of h2, u8_of h3, u8_of h4, u8_of h5, u8_of h6, u8_of h7]

theorem doneS_size {n m : Nat} {S : Nat → ByteArray} {T : Nat → Int} {U : Nat → ByteArray} (hs : ∀ i, i < n → (S i).size = 8) (hf : ∀ i, i < m → fitB n (T i) (U i) = true) : ∀ k, k ≤ m → ∀ i, i < n → (doneS S T U k i).size = 8
  | 0, _, i, hi => hs i hi
  | k + 1, hk, i, hi => by
    show (upd (doneS S T U k) (T k) (U k) i).size = 8
    unfold upd
    split
    · exact (fitB_spec (hf k (by omega))).2.2
    · exact doneS_size hs hf k (by omega) i hi

theorem strs_size {n : Nat} {S : Nat → ByteArray} {c : Array Value} (h : strs n S c) : n ≤ c.size := by
  by_cases h0 : n = 0
  · omega
  · have := (Array.getElem?_eq_some_iff.1 (h (n - 1) (by omega))).1
    omega

theorem hold_on {w : World} {b o : Nat} {v : Value} {x : Obj} (h : w.cell? ⟨b, o, none⟩ = some v) : (w.alloc x).cell? ⟨b, o, none⟩ = some v := cell_on h (below_alloc _ _)
end Go.Proofs.Ytmijalmihfgolaa
