import Derived.Test.YtodidnbghiinkaaO1
import Derived.Test.YtodidnbghiinkaaP2
import Derived.Lib.AppendStr
/- Rows of bytes that grow. -/
namespace Go.Proofs.Ytodidnbghiinkaa
open Go.ChangeShapes Go.WideShapes Go.ChangeAt Go.RowKit
set_option linter.unusedVariables false
open Tz

attribute [local go_sem] Oper.semAt_some

/-- Bytes as values. -/
def bys (l : List UInt8) : List Value := l.map fun b => .int .u8 b.toNat
theorem bys_len (l : List UInt8) : (bys l).length = l.length := by simp [bys]
theorem bys_app (l m : List UInt8) : bys (l ++ m) = bys l ++ bys m := by simp [bys]
theorem bys_str (s : ByteArray) : Lib.strCells s = bys (bt s) := rfl
theorem bys_at {l : List UInt8} {i : Nat} (h : i < l.length) : (bys l)[i]? = some (.int .u8 (l.getD i 0).toNat) := by simp [bys, h]
theorem bys_one (l : List UInt8) : ∀ u ∈ bys l, u.oneCell' = true := by
  intro u hu
  simp only [bys, List.mem_map] at hu
  obtain ⟨b, _, rfl⟩ := hu
  rfl
abbrev OwnB (w : World) (B : Nat) (v : Value) (l : List UInt8) : Prop := w.ownsRow B 5 1 v l.length (bys l)
theorem OwnB.nil (w : World) (B : Nat) : OwnB w B (.slice none 0 0) [] := ⟨rfl, .inl ⟨rfl, rfl⟩⟩
theorem info5 : (Try.prog.info? 5).map (fun i => (i.zero, i.size, i.bytes)) = some (some (.int .u8 0), 1, 1) := by kernel_rfl
theorem OwnB.get {w : World} {B : Nat} {x : Option Addr} {n c : Nat} {l : List UInt8} (h : OwnB w B (.slice x n c) l) {i : Nat} (hi : i < l.length) : ∃ g, x = some ⟨g, 0, none⟩ ∧ w.cell? ⟨g, i, none⟩ = some (.int .u8 (l.getD i 0).toNat) := by
  rcases h.2 with ⟨h1, h2⟩ | ⟨g, cap, cur, h1, hb, hg, hc, hm, hcs, ht⟩
  · omega
  · simp only [Value.slice.injEq] at h1
    obtain ⟨rfl, rfl, rfl⟩ := h1
    refine ⟨g, rfl, cell_of_block hg ?_⟩
    have k := bys_at hi
    rw [← ht, List.getElem?_take, if_pos (by omega)] at k
    simpa using k
theorem OwnB.len {w : World} {B : Nat} {x : Option Addr} {n c : Nat} {l : List UInt8} (h : OwnB w B (.slice x n c) l) : n = l.length := by
  rcases h.2 with ⟨h1, h2⟩ | ⟨g, cap, cur, h1, hb, hg, hc, hm, hcs, ht⟩
  · simp only [Value.slice.injEq] at h1; omega
  · simp only [Value.slice.injEq] at h1; exact h1.2.1
/-- The text of a row of bytes. -/
theorem OwnB.conv {w : World} {B : Nat} {x : Option Addr} {n c : Nat} {l : List UInt8} (h : OwnB w B (.slice x n c) l) : (convert 39 9 (.slice x n c)).run Try.prog w = .ok (.string (txt l)) w := by
  obtain rfl := h.len
  by_cases h0 : l.length = 0
  · have hnil : l = [] := List.eq_nil_of_length_eq_zero h0
    subst hnil
    rcases h.2 with ⟨h1, h2⟩ | ⟨g, cap, cur, h1, hb, hg, hc, hm, hcs, ht⟩
    · simp only [Value.slice.injEq] at h1
      obtain ⟨rfl, -, rfl⟩ := h1
      rw [run_convert_bytes_string w 39 9 5 none _ 0 Try.underlying39 Try.underlying5 Try.underlying9]
      rfl
    · simp only [Value.slice.injEq] at h1
      obtain ⟨rfl, -, rfl⟩ := h1
      exact run_convert_bytes_back (P := Try.prog) w 39 9 5 ⟨g, 0, none⟩ c [] Try.underlying39 Try.underlying5 Try.underlying9 (fun j hj => absurd hj (by simp))
  · obtain ⟨g, rfl, -⟩ := h.get (i := 0) (by omega)
    refine run_convert_bytes_back (P := Try.prog) w 39 9 5 ⟨g, 0, none⟩ c l Try.underlying39 Try.underlying5 Try.underlying9 (fun j hj => ?_)
    obtain ⟨g', hg', hc⟩ := h.get hj
    have e : g' = g := by simp at hg'; exact hg'.symm
    subst e
    have e : (⟨g', 0, none⟩ : Addr).add j = ⟨g', j, none⟩ := by unfold Addr.add; split <;> simp_all
    rw [e, hc]
    simp [hj]
/-- A box that is no row of bytes stays where bytes are put. -/
theorem box_grown {w w' : World} {B D : Nat} {e : TypeId} {v : Value} {l : List UInt8} {c : Array Value} (ho : OwnB w B v l) (hg : w.grownBy w' v.ownBlock) (hD : w.heap[D]? = some (.cells c e (0, 0))) (he : e ≠ 5) : w'.heap[D]? = some (.cells c e (0, 0)) := by
  rw [hg.block D (box_lt hD) ?_]
  · exact hD
  · intro hk
    obtain ⟨-, cs, hcs⟩ := own_row ho D hk.symm
    rw [hcs] at hD
    simp at hD
    exact he hD.2.symm
theorem cell_one (w : World) (b : UInt8) (t : TypeId) : (1 : Nat) = 0 ∨ ∃ ad, some (⟨w.heap.size, 0, none⟩ : Addr) = some ad ∧ ∀ j u, (bys [b])[j]? = some u → (w.alloc (.cells #[.int .u8 b.toNat] t)).cell? (ad.add j) = some u :=
  .inr ⟨_, rfl, new_one w (.int .u8 b.toNat) t⟩
end Go.Proofs.Ytodidnbghiinkaa
