import Derived.Test.YtkpcbaapohdmfaaDoorJ2
import Derived.ArgAppend
namespace Go.Proofs.YtkpcbaapohdmfaaDoor
open Go.ChangeShapes Go.WideShapes Go.ChangeAt Go.RowKit
set_option linter.unusedVariables false
open Ham

/-- The bytes of a text laid in a row of their own: also how much room there is. -/
theorem bytes_of2 (u : ByteArray) (w : World) : ∃ (cp : Nat) (W : World) (c : Array Value), (convert 9 22 (.string u)).run Tryd.prog w = .ok (.slice (some ⟨w.heap.size, 0, none⟩) u.size cp) W ∧ Below w.heap.size w W ∧ W.heap[w.heap.size]? = some (.cells c 5 (c.size, c.size + 1)) ∧ cp ≤ c.size ∧ u.size ≤ c.size ∧ bys u.size (bb u) c :=
  ⟨_, _, _, run_bytes_of_string (P := Tryd.prog) w 9 22 5 u Tryd.underlying9 Tryd.underlying22 Tryd.underlying5, (Below.refl _ _).drew.alloc (Nat.le_refl _) _, heap_alloc_new w.drew _, by unfold bytesRow; simp; omega, bytesRow_size u _, bytesRow_bys u _⟩
theorem below_drew_alloc (X : World) (o : Obj) : Below X.heap.size X (X.drew.alloc o) := ((Below.refl X.heap.size X).drew).alloc (Nat.le_refl _) o
/-- An append of which is known what it does. -/
theorem wpList_append_is {P : Program} {w : World} {ops : Array Oper} {rest : List Oper} {o : Oper} {a : Act} {Q : Exit → Act → World → Prop} (hgd : o.guard = none) (s x : Operand) (t : TypeId)
    (ho : o.op = .call { callee := .builtin .append, args := #[s, x], argTypes := #[t, t] }) (v vx : Value) (hs : a.eval s = v) (hx : a.eval x = vx) {v' : Value} {w' : World}
    (hrun : (Builtin.append_ #[t, t] o.type #[v, vx]).run P w = .ok v' w') (hK : wpList P ops Q rest (a.put o.dst v') w') : wpList P ops Q (o :: rest) a w := by
  refine wpList_plain hgd fun K hK' => ?_
  unfold Oper.wp
  simp [execOp, ho, resolve, invoke, builtin, hs, hx, hrun, Result.andThen]
  exact hK' _ _ hK
/-- One byte more behind a row that a text's bytes were laid into. -/
theorem append1 {R L cp : Nat} {c : Array Value} {f : Nat → Nat} {w : World} (hL : L ≤ 100) (hR : w.heap[R]? = some (.cells c 5 (c.size, c.size + 1))) (hcp : cp ≤ c.size) (hLc : L ≤ c.size) (hb : bys L f c) :
    ∃ (a : Option Addr) (cap' : Nat) (w' : World), (Builtin.append_ #[22, 22] 22 #[.slice (some ⟨R, 0, none⟩) L cp, .slice (some ⟨w.heap.size, 0, none⟩) 1 1]).run Tryd.prog (w.alloc (.cells #[.int .u8 0] 5)) = .ok (.slice a (L + 1) cap') w' ∧ At w' a (L + 1) (by' (upf f L 0)) ∧ Out R (R + 1) w w' := by
  obtain ⟨i0, hi, hz0, hz1, hz2⟩ := info_parts info5
  have hRl : R < w.heap.size := (Array.getElem?_eq_some_iff.1 hR).1
  have ba := below_alloc w (.cells #[.int .u8 0] 5)
  have hR1 : (w.alloc (.cells #[.int .u8 0] 5)).heap[R]? = some (.cells c 5 (c.size, c.size + 1)) := (ba.block R hRl).trans hR
  have hn := news1 w (.int .u8 0) 5
  by_cases hroom : L + 1 ≤ cp
  · have hl : L < c.size := by omega
    have hrun := run_append_room_cells (P := Tryd.prog) (w := w.alloc (.cells #[.int .u8 0] 5)) 22 22 5 i0 Tryd.underlying22 hi R 0 L cp ⟨w.heap.size, 0, none⟩ 1 1 [.int .u8 0] (by rw [hz1]; rfl) hn (one1 _ _) hroom
      (fun j hj => by
        have hj0 : j = 0 := by simpa using hj
        subst hj0
        rw [hz1]
        have : (w.alloc (.cells #[.int .u8 0] 5)).cell? ⟨R, 0 + L * 1 + 0, none⟩ = some c[L] := cell_of_blockz hR1 (by rw [show 0 + L * 1 + 0 = L by omega]; exact Array.getElem?_eq_getElem hl)
        rw [this]; rfl)
      (fun j hj => by
        have hj0 : j = 0 := by simpa using hj
        subst hj0
        rw [hz1]
        exact free_of_blockz hR1 (by show 0 + L * 1 + 0 < c.size; omega))
    rw [hz1] at hrun
    refine ⟨_, _, _, hrun, fun _ => ⟨R, 0, rfl, fun k hk => ?_⟩, ?_⟩
    · have hw : World.setCells (w.alloc (.cells #[.int .u8 0] 5)) R (0 + L * 1) [.int .u8 0] = (w.alloc (.cells #[.int .u8 0] 5)).setCell ⟨R, 0 + L * 1, none⟩ (.int .u8 0) := rfl
      rw [hw, Nat.zero_add, Nat.zero_add, Nat.mul_one]
      refine cell_of_blockz (block_setz hR1) ?_
      by_cases e : k = L
      · subst e
        rw [set_at hl]; simp [by', upf]
      · rw [set_ne e, hb k (by omega)]; simp [by', upf, e]
    · show Out R (R + 1) w ((w.alloc (.cells #[.int .u8 0] 5)).setCell ⟨R, 0 + L * 1, none⟩ (.int .u8 0))
      exact (Out.of_below ba).setCell (Nat.le_refl _) (Nat.lt_succ_self _) _ _
  · have holds : ∀ j v, (byl f L)[j]? = some v → (w.alloc (.cells #[.int .u8 0] 5)).cell? ((⟨R, 0, none⟩ : Addr).add j) = some v := by
      intro j v hv
      have hj : j < L := by
        rcases Nat.lt_or_ge j L with q | q
        · exact q
        · rw [List.getElem?_eq_none (by rw [byl_len]; exact q)] at hv; cases hv
      have e : (⟨R, 0, none⟩ : Addr).add j = ⟨R, j, none⟩ := by unfold Addr.add; split <;> simp_all
      rw [e]
      have hv' : v = .int .u8 (f j : Int) := by simp [byl, hj] at hv; exact hv.symm
      rw [hv']
      exact cell_of_blockz hR1 (hb j hj)
    have hfit : Builtin.nextslicecap (L + 1) cp * i0.bytes ≤ 281474976710656 := growslice_fits (by omega) (by rw [hz2]; omega)
    have hrun := run_append_grow (P := Tryd.prog) (w.alloc (.cells #[.int .u8 0] 5)) 22 22 5 i0 (.int .u8 0) Tryd.underlying22 hi hz0 ⟨R, 0, none⟩ L cp (byl f L) (by rw [hz1, byl_len]; omega) holds ⟨w.heap.size, 0, none⟩ 1 1 [.int .u8 0] (by rw [hz1]; rfl) hn (by omega) (by omega) hfit
    refine ⟨_, _, _, hrun, fun _ => ⟨_, 0, rfl, fun k hk => ?_⟩, Out.of_below (Below.comp ba (below_drew_alloc _ _))⟩
    rw [Nat.zero_add]
    refine cell_of_block (heap_alloc_new (w.alloc (.cells #[.int .u8 0] 5)).drew _) ?_
    have hlen : (byl f L).length = L := byl_len f L
    rw [Array.getElem?_append_left (by simp [hlen]; omega)]
    by_cases e : k = L
    · subst e
      rw [Array.getElem?_append_right (by simp [hlen])]
      simp [hlen, by', upf]
    · rw [Array.getElem?_append_left (by simp [hlen]; omega)]
      have hk' : k < L := by omega
      simp [byl, hk', by', upf, e]
end Go.Proofs.YtkpcbaapohdmfaaDoor
