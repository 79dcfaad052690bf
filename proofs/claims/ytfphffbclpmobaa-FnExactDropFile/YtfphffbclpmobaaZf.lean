import Derived.Test.YtfphffbclpmobaaZd
import Derived.Test.YtfphffbclpmobaaM3
/- slices.Delete of one row of texts. -/
namespace Go.Proofs.Ytfphffbclpmobaa
open Go.ChangeShapes Go.WideShapes Go.ChangeAt Go.RowKit Go.Lib Go.Sort
set_option linter.unusedVariables false
open Hd

/-- A slice's parts, as a value. -/
def encT (p : Option Addr × Nat × Nat) : Value := .slice p.1 p.2.1 p.2.2
theorem encT_one : OneCell encT := fun p => rfl
theorem zeroT (w : World) : (zeroValue 72).run Try.prog w = .ok (encT (none, 0, 0)) w := by kernel_rfl
theorem delete_any (yg n yc j : Nat) (f : Nat → Option Addr × Nat × Nat) (w : World) (hc : ∀ i, i < n → w.cell? ⟨yg, i, none⟩ = some (encT (f i)) ∧ w.frozen? ⟨yg, i, none⟩ = false) (hcap : n ≤ yc) (hm : yc ≤ 9223372036854775807) (hj : j < n) (hlt : yg < w.heap.size) :
    Calls Try.prog 37 #[.slice (some ⟨yg, 0, none⟩) n yc, .int .i64 (j : Int), .int .i64 ((j : Int) + 1)] w fun e w' => e = .returned (.slice (some ⟨yg, 0, none⟩) (n - 1) yc) ∧ Out yg (yg + 1) w w' ∧ ∀ i, i < n - 1 → w'.cell? ⟨yg, i, none⟩ = some (encT (f (if i < j then i else i + 1))) := by
  obtain ⟨D, hD⟩ : ∃ D, (List.range n).map f = D := ⟨_, rfl⟩
  have hDl : D.length = n := by rw [← hD]; simp
  have hDi : ∀ i (h : i < D.length), D[i] = f i := fun i h => by subst hD; simp
  have hH : Holds encT w yg 0 D.toArray := fun i hi => by
    have hi' : i < D.length := by simpa using hi
    have e : (D.toArray[i]! : Option Addr × Nat × Nat) = f i := by simp [hi', hDi]
    rw [e, Nat.zero_add]
    exact hc i (by omega)
  obtain ⟨i0, hi0, hz1⟩ : ∃ i0, Try.prog.info? 72 = some i0 ∧ i0.size = 1 := by
    have := infoS
    cases h : Try.prog.info? 72 with
    | none => rw [h] at this; cases this
    | some i0 => rw [h] at this; simp at this; exact ⟨i0, rfl, this.2.1⟩
  have h := Try.slices_Delete encT encT_one (none, 0, 0) zeroT i0 hi0 hz1 yg 0 yc j (j + 1) D.toArray w hH (by simp; omega) hm (by omega) (by simp; omega)
  rw [show D.toArray.size = n by simp [hDl]] at h
  have e1 : ((j + 1 : Nat) : Int) = (j : Int) + 1 := by omega
  rw [e1] at h
  refine h.mono ?_
  rintro e w' ⟨rfl, q, rfl⟩
  have e2 : j + 1 - j = 1 := by omega
  rw [e2]
  refine ⟨rfl, ?_, fun i hi => ?_⟩
  · refine ⟨rfl, rfl, rfl, by simp [Go.Sort.ahead], fun k hk hd => ?_⟩
    simp only [putRow, mapBlock, Go.Sort.ahead]
    rw [Array.getElem?_modify, if_neg (by omega)]
  · have hs : (D.toArray.toList.take j ++ D.toArray.toList.drop (j + 1) ++ List.replicate 1 ((none, 0, 0) : Option Addr × Nat × Nat)).toArray.size = D.toArray.size := by simp; omega
    have hh := holds_putRow encT (Go.Sort.ahead w q) yg 0 D.toArray _ hH hs
    have hsz : (D.toArray.toList.take j ++ D.toArray.toList.drop (j + 1) ++ List.replicate 1 ((none, 0, 0) : Option Addr × Nat × Nat)).length = n := by simp; omega
    have hx := (hh i (by simpa using (by omega : i < (D.toArray.toList.take j ++ D.toArray.toList.drop (j + 1) ++ List.replicate 1 ((none, 0, 0) : Option Addr × Nat × Nat)).length))).1
    rw [Nat.zero_add] at hx
    rw [hx]
    have hi' : i < (D.take j ++ D.drop (j + 1) ++ List.replicate 1 ((none, 0, 0) : Option Addr × Nat × Nat)).length := by have := hsz; simp only at this; omega
    refine congrArg (fun x => some (encT x)) ?_
    show ((D.take j ++ D.drop (j + 1) ++ List.replicate 1 ((none, 0, 0) : Option Addr × Nat × Nat)).toArray[i]!) = _
    rw [getElem!_pos _ i (by simpa using hi')]
    simp only [List.getElem_toArray]
    rw [List.getElem_append_left (by simp; omega)]
    by_cases hij : i < j
    · rw [if_pos hij, List.getElem_append_left (by simp; omega), List.getElem_take, hDi]
    · rw [if_neg hij, List.getElem_append_right (by simp; omega), List.getElem_drop, hDi]
      refine congrArg f ?_
      rw [List.length_take]
      omega
end Go.Proofs.Ytfphffbclpmobaa
