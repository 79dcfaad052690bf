import Derived.Test.YtfphffbclpmobaaO3
/- spec.PutText, the walk. -/
namespace Go.Proofs.Ytfphffbclpmobaa
open Go.ChangeShapes Go.WideShapes Go.ChangeAt Go.RowKit
set_option linter.unusedVariables false
open Hd

attribute [local go_sem] Oper.semAt_some

/-- A vault in rows of one's own. -/
def RdV (w : World) (v : Value) (u : Va) : Prop := ∃ px pc fx fc B B', v = vv px u.pc.length pc fx u.fs.length fc ∧ OwnN w B (.slice px u.pc.length pc) u.pc ∧ OwnFi w B' (.slice fx u.fs.length fc) u.fs
theorem vz_at (w : World) : RdV w (vv none 0 0 none 0 0) vz := ⟨none, 0, none, 0, 0, 0, rfl, OwnN.nil _ _, OwnFi.nil _ _⟩
theorem RdV.below {w w' : World} {v : Value} {u : Va} (h : RdV w v u) (hb : Below w.heap.size w w') : RdV w' v u := by
  obtain ⟨px, pc, fx, fc, B, B', e, h1, h2⟩ := h
  exact ⟨px, pc, fx, fc, B, B', e, owns_below h1 hb, h2.below hb⟩
theorem RdV.out {w w' : World} {v : Value} {u : Va} {b : Nat} {c : Array Value} (h : RdV w v u) (ho : Out b (b + 1) w w') (hb : w.heap[b]? = some (.cells c 30 (0, 0))) : RdV w' v u := by
  obtain ⟨px, pc, fx, fc, B, B', e, h1, ks, h2, h3⟩ := h
  have k := KeepNot.of_out ho hb
  exact ⟨px, pc, fx, fc, B, B', e, k.owns h1 (by decide), ks, k.owns h2 (by decide), fun i hi => by obtain ⟨g, hg⟩ := h3 i hi; exact ⟨g, hg.outT ho hb (by decide)⟩⟩
theorem vat_of {w : World} {B B' : Nat} {px y8 : Option Addr} {pc c8 nf : Nat} {P : List Nm} {L : List (List Int)} (h : OwnN w B (.slice px P.length pc) P) (k : OwnFi w B' (.slice y8 nf c8) L) (hL : L.length = nf) : VAt w (vv px P.length pc y8 nf c8) ⟨P, L⟩ := by
  obtain ⟨a1, c1, e2, e3, e4⟩ := h.names
  obtain ⟨a2, c2, e5, e6, e7⟩ := k.fis
  subst hL
  refine ⟨a1, c1, a2, c2, ?_, e3, e6, e4, e7⟩
  show Value.agg #[.slice px P.length pc, .slice y8 L.length c8] = Value.agg #[.slice a1 P.length c1, .slice a2 L.length c2]
  rw [← e2, ← e5]
theorem RdV.at_ {w : World} {v : Value} {u : Va} (h : RdV w v u) : VAt w v u := by
  obtain ⟨px, pc, fx, fc, B, B', rfl, h1, h2⟩ := h
  exact vat_of h1 h2 rfl
theorem set_last (P : List Nm) (a b : Nm) : (P ++ [a]).set P.length b = P ++ [b] := by simp
end Go.Proofs.Ytfphffbclpmobaa
