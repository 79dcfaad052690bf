import Derived.Test.YtfmgaenedkjmkaaGe
import Derived.Test.YtfmgaenedkjmkaaA2
import Derived.Test.YtfmgaenedkjmkaaU6
/- The specification: one bit of a hash. -/
namespace Go.Proofs.Ytfmgaenedkjmkaa
open Go.ChangeShapes Go.WideShapes Go.ChangeAt Go.RowKit
set_option linter.unusedVariables false
open Hd

attribute [local go_sem] Oper.semAt_some

theorem u64_small {q : Nat} (hq : q ≤ 62) : min (IntKind.u64.wrap (q : Int)).toNat 64 = q := by
  have : IntKind.u64.wrap (q : Int) = q := by
    simp only [IntKind.wrap, IntKind.bits, IntKind.signed]
    simp
    omega
  rw [this]
  omega
theorem bit_is {h q : Nat} (hq : q ≤ 62) (hh : h < 9223372036854775808) : bits .and .i64 ((h : Int) / 2 ^ min (IntKind.u64.wrap (q : Int)).toNat 64) 1 = (bit h q : Int) := by
  rw [u64_small hq]
  have e : (h : Int) / 2 ^ q = ((h / 2 ^ q : Nat) : Int) := by push_cast; rfl
  rw [e]
  have hlt : h / 2 ^ q < 9223372036854775808 := Nat.lt_of_le_of_lt (Nat.div_le_self _ _) hh
  have := mask_eq (n := h / 2 ^ q) (d := 1) hlt (by omega)
  rw [show wrap64 (wrap64 ((2 : Int) ^ 1) - 1) = 1 from by unfold wrap64; decide] at this
  rw [this]
  rfl
theorem hb_snoc {q b : Nat} {l : List Nm} {k : Nat} (h : k < l.length) : hb q b (l.take (k + 1)) = hb q b (l.take k) ++ (if bit (nh (gm l k).nm) q = b then [gm l k] else []) := by
  unfold hb
  rw [List.take_add_one, List.getElem?_eq_getElem h, gm_eq h, List.filter_append]
  by_cases e : bit (nh l[k].nm) q = b <;> simp [e]
theorem Out.belowT {B C : Nat} {w w' w'' : World} (ho : Out B C w w') (hb : Below w.heap.size w' w'') (hz : w'.heap.size ≤ w''.heap.size) : Out B C w w'' :=
  ⟨hb.os.trans ho.os, hb.tape.trans ho.tape, hb.output.trans ho.output, Nat.le_trans ho.size hz, fun k hk hd => by rw [hb.block k hk, ho.block k hk hd]⟩
theorem owns_outZ {w w' : World} {Z b n size : Nat} {e : TypeId} {v : Value} {xs : List Value} (h : w.ownsRow Z e size v n xs) (ho : Out b (b + 1) w w') (hb : b < Z) : w'.ownsRow Z e size v n xs := by
  obtain ⟨h1, h2⟩ := h
  refine ⟨h1, ?_⟩
  rcases h2 with h2 | ⟨g, cap, cur, k1, k2, k3, k4⟩
  · exact .inl h2
  · exact .inr ⟨g, cap, cur, k1, k2, box_out k3 ho (.inr (by omega)), k4⟩
theorem Tw.outZ {w w' : World} {Z b : Nat} {vo vi : Value} {lo li : List Nm} (h : Tw w Z vo vi lo li) (ho : Out b (b + 1) w w') (hb : b < Z) : Tw w' Z vo vi lo li := ⟨owns_outZ h.o ho hb, owns_outZ h.i ho hb, h.dj⟩
/-- A row that lay there before, behind what was made since. -/
theorem GB.low {w w1 w2 : World} {B C D : Nat} {v : Value} {N : List Bk} {kb : Nat → Nat} (h : GB w B v N kb) (hb : Below w.heap.size w w1) (ho : Out C D w1 w2) (hC : w.heap.size ≤ C) : GB w2 B v N kb := by
  have k : ∀ (g : Nat) (c : Array Value) (t : TypeId), w.heap[g]? = some (.cells c t (0, 0)) → w2.heap[g]? = w.heap[g]? := fun g c t hg => by
    have hlt := box_lt hg
    rw [ho.block g (by have := hb.size; omega) (.inl (by omega)), hb.block g hlt]
  exact h.keepT ⟨Nat.le_trans hb.size ho.size, fun g c t hg _ => k g c t hg⟩
theorem GB.block {w : World} {B gB m cap : Nat} {N : List Bk} {kb : Nat → Nat} (h : GB w B (.slice (some ⟨gB, 0, none⟩) m cap) N kb) (hm : N.length = m) : ∃ cur, w.heap[gB]? = some (.cells cur 63 (0, 0)) ∧ m * 2 ≤ cur.size ∧ B ≤ gB := by
  obtain ⟨⟨xs, ho, -⟩, -⟩ := h
  rcases ho.2 with ⟨e1, -⟩ | ⟨g', cap', cur, e1, hb, e3, e4, -, e5, -⟩
  · cases e1
  · simp only [Value.slice.injEq, Option.some.injEq, Addr.mk.injEq] at e1
    obtain ⟨⟨rfl, -⟩, -, rfl⟩ := e1
    exact ⟨cur, e3, by rw [e5]; exact Nat.mul_le_mul_right _ (by omega), hb⟩
end Go.Proofs.Ytfmgaenedkjmkaa
