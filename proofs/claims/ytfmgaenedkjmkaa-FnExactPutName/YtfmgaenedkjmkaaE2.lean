import Derived.Test.YtfmgaenedkjmkaaE1
/- The program: room made for a name. -/
namespace Go.Proofs.Ytfmgaenedkjmkaa
open Go.ChangeShapes Go.WideShapes Go.ChangeAt Go.RowKit
set_option linter.unusedVariables false
open Hd

attribute [local go_sem] Oper.semAt_some

theorem cutAt_wide {e : Dr} (h : GS e) (s : ByteArray) (h8 : ¬ (gb e.bs (bkN e s)).dp = 8) : CutAt (wide e s) (low (nh s) (wide e s).dp.toNat) (bkN e s) (dpN e s) (low (nh s) (dpN e s)) := by
  have C := h.gu.cut s h8
  have hw := h.way.wide s h8
  obtain ⟨D, -⟩ := hw.cut C C.hk
  have hlt := C.hlt
  have hle : dpN e s ≤ (wide e s).dp.toNat := by omega
  rw [low_low hle] at D
  exact D
/-- What a directory's box tells of the depth of a name's bucket. -/
def rdI (w : World) (a : Addr) : Int := match w.cell? a with | some (.int _ z) => z | _ => 0
def rdS (w : World) (a : Addr) : Addr := match w.cell? a with | some (.slice (some p) _ _) => p | _ => ⟨0, 0, none⟩
def mu (D : Nat) (s : ByteArray) (w : World) : Nat := 9 - (rdI w ((rdS w ⟨D, 2, none⟩).add ((rdI w ((rdS w ⟨D, 1, none⟩).add (low (nh s) (rdI w ⟨D, 0, none⟩).toNat))).toNat * 2))).toNat
theorem mu_is {w : World} {D : Nat} {s : ByteArray} {e : Dr} {a a' : Option Addr} {c c' : Nat} {t : TypeId} (hB : w.heap[D]? = some (.cells #[.int .i64 e.dp, .slice a e.sl.length c, .slice a' e.bs.length c'] t (0, 0))) (hG : GS e) (ha : Ints w a e.sl) (ha' : Bks w a' e.bs) : mu D s w = 9 - dpN e s := by
  obtain ⟨x0, x1, x2, -, -, -⟩ := box3_cells hB
  have hlo := good_low hG s
  obtain ⟨hk, hkl⟩ := good_bk hG s
  obtain ⟨b, off, rfl, hc⟩ := ha (by omega)
  obtain ⟨b', off', rfl, hc'⟩ := ha' (by omega)
  obtain ⟨na, nc, y0, -⟩ := hc' (bkN e s) hkl
  have y1 := hc _ hlo
  unfold mu
  have e0 : rdI w ⟨D, 0, none⟩ = e.dp := by unfold rdI; rw [x0]
  have e1 : rdS w ⟨D, 1, none⟩ = ⟨b, off, none⟩ := by unfold rdS; rw [x1]
  have e2 : rdS w ⟨D, 2, none⟩ = ⟨b', off', none⟩ := by unfold rdS; rw [x2]
  have e3 : rdI w ⟨b, off + low (nh s) e.dp.toNat, none⟩ = (bkN e s : Int) := by unfold rdI; rw [y1]; exact hk
  rw [e0, e1, e2, addN, addN, e3]
  have e4 : rdI w ⟨b', off' + (bkN e s : Int).toNat * 2, none⟩ = (gb e.bs (bkN e s)).dp := by
    rw [show ((bkN e s : Nat) : Int).toNat = bkN e s by omega]
    unfold rdI; rw [y0]
  rw [e4]
  rfl
theorem VA.away {B C : Nat} {w w' : World} {v : Value} {m : Nat} {d : Dr} (h : VA B C w v m) (hd : DirAt w v d) (hm : d.bs.length = m) (ho : Out B C w w') : VA B C w' v m := by
  have hd' := hd.away (by rw [hm]; exact h) ho
  obtain ⟨a0, c0, a0', c0', rfl, -, -, -, hbk⟩ := hd
  intro x0 a n c a' c' e
  simp only [dv, Value.agg.injEq, Array.mk.injEq, List.cons.injEq, Value.slice.injEq] at e
  obtain ⟨rfl, ⟨rfl, rfl, rfl⟩, ⟨rfl, -, rfl⟩, -⟩ := e
  obtain ⟨h1, h2, h3⟩ := h _ _ _ _ _ _ (by rw [hm])
  refine ⟨h1, h2, fun i hi ad had na nl nc hc => ?_⟩
  obtain ⟨b, off, rfl, hcell⟩ := hbk (by omega)
  cases had
  have hb := h2 (by omega) ⟨b, off, none⟩ rfl
  obtain ⟨na', nc', y0, y1, -⟩ := hcell i (by omega)
  have y2 : w'.cell? ⟨b, off + i * 2 + 1, none⟩ = some (.slice na' (gb d.bs i).ns.length nc') := by
    have hlt := World.block_lt_of_cell? w _ y1
    have := ho.block b hlt hb
    have y3 := y1
    unfold World.cell? at y3 ⊢
    simp only at y3 ⊢
    rw [this]
    exact y3
  rw [addN, ← Nat.add_assoc, y2] at hc
  cases hc
  exact h3 i hi _ rfl _ _ _ (by rw [addN, ← Nat.add_assoc]; exact y1)
end Go.Proofs.Ytfmgaenedkjmkaa
