import Derived.Test.YtfmgaenedkjmkaaD4
/- The program: the greatest of a row. -/
namespace Go.Proofs.Ytfmgaenedkjmkaa
open Go.ChangeShapes Go.WideShapes Go.ChangeAt Go.RowKit
set_option linter.unusedVariables false
open Hd

attribute [local go_sem] Oper.semAt_some

/-- The greatest of the first ones. -/
def mxI (l : List Int) : Nat → Int
  | 0 => gi l 0
  | k + 1 => max (mxI l k) (gi l (k + 1))
set_option maxHeartbeats 1000000 in
theorem Max_any (a : Option Addr) (l : List Int) (cap : Nat) (w : World) (h0 : 0 < l.length) (hn : l.length ≤ 1000000) (hc : Ints w a l) :
    Calls Try.prog 86 #[.slice a l.length cap] w fun e w' => e = .returned (.int .i64 (mxI l (l.length - 1))) ∧ Below w.heap.size w w' := by
  have Hc : Hid _ := hc
  obtain ⟨b, off, rfl, hcell⟩ := hc (by omega)
  have k0 : w.cell? ⟨b, off, none⟩ = some (.int .i64 (gi l 0)) := hcell 0 h0
  clear hcell
  obtain ⟨n, hln⟩ : ∃ n, l.length = n := ⟨_, rfl⟩
  rw [hln] at h0 hn Hc ⊢
  clear hln
  have h1 : ¬ (n : Int) < 1 := by omega
  go_enter Try.func86, Try.ntmps86
  go_wp2
  clear k0
  go_loop [4, 3] (fun i m => ∃ (k : Nat), k < n ∧ i = .int .i64 ((k : Int) + 1) ∧ m = .int .i64 (mxI l k)) (fun i _ => n - (intOf i).toNat)
  case atStart => exact ⟨0, h0, rfl, rfl⟩
  case round =>
    obtain ⟨k, hk, rfl, rfl⟩ := hrel
    by_cases hlt : k + 1 < n
    · obtain ⟨b', off', e', hcell⟩ := Hc.out (by omega)
      cases e'
      have k1 : w.cell? ⟨b, off + (k + 1), none⟩ = some (.int .i64 (gi l (k + 1))) := hcell (k + 1) hlt
      have hm : mxI l (k + 1) = max (mxI l k) (gi l (k + 1)) := rfl
      have HM : Hid _ := hm
      clear hcell Hc hm
      generalize mxI l k = m at *
      generalize gi l (k + 1) = x at *
      have hlt' : (k : Int) + 1 < (n : Int) := by omega
      go_wp2
      exact ⟨⟨k + 1, hlt, by go_num, by rw [HM.out]⟩, by simp [intOf]; omega⟩
    · have hkn : n = k + 1 := by omega
      subst hkn
      have hlt' : ¬ (k : Int) + 1 < ((k + 1 : Nat) : Int) := by omega
      go_wp2
      go_ret
      exact ⟨by simp, Below.refl _ _⟩
/-- In a row that numbers buckets in their order the greatest tells how many were met. -/
theorem mx_sn {S : List Int} (h : ∀ i, i < S.length → 0 ≤ gi S i ∧ gi S i ≤ sn S i) : ∀ k, k < S.length → mxI S k + 1 = (sn S (k + 1) : Nat) := by
  intro k
  induction k with
  | zero =>
    intro hk
    obtain ⟨h0, h1⟩ := h 0 hk
    have e0 : gi S 0 = 0 := by rw [sn] at h1; omega
    have e1 : sn S (0 + 1) = 1 := by rw [sn, e0]; simp [sn]
    rw [mxI, e0, e1]
    rfl
  | succ k ih =>
    intro hk
    have i1 := ih (by omega)
    obtain ⟨h0, h1⟩ := h (k + 1) hk
    rw [mxI, sn]
    split <;> omega
theorem sn_take {S : List Int} {m : Nat} (hm : m ≤ S.length) : ∀ i, i ≤ m → sn (S.take m) i = sn S i := by
  intro i
  induction i with
  | zero => intro _; rfl
  | succ i ih =>
    intro hi
    have e : gi (S.take m) i = gi S i := by unfold gi; simp [List.getD_eq_getElem?_getD, List.getElem?_take_of_lt (show i < m by omega)]
    rw [sn, sn, ih (by omega), e]
theorem mx_take {S : List Int} {m : Nat} (h : ∀ i, i < S.length → 0 ≤ gi S i ∧ gi S i ≤ sn S i) (h0 : 0 < m) (hm : m ≤ S.length) : mxI (S.take m) (m - 1) + 1 = (sn S m : Nat) := by
  have hl : (S.take m).length = m := by simp [Nat.min_eq_left hm]
  have := mx_sn (S := S.take m) (fun i hi => by
    rw [hl] at hi
    have e : gi (S.take m) i = gi S i := by unfold gi; simp [List.getD_eq_getElem?_getD, List.getElem?_take_of_lt hi]
    rw [e, sn_take hm i (by omega)]
    exact h i (by omega)) (m - 1) (by omega)
  rw [show m - 1 + 1 = m by omega, sn_take hm m (Nat.le_refl _)] at this
  exact this
end Go.Proofs.Ytfmgaenedkjmkaa
