import Derived.Test.YtfmgaenedkjmkaaGh
import Derived.Test.YtfmgaenedkjmkaaE4
import Derived.Test.YtfmgaenedkjmkaaH2
import Derived.Test.YtfmgaenedkjmkaaH3
import Derived.Test.YtfmgaenedkjmkaaN1
/- The specification: a name that is put; what its loop leans on. -/
namespace Go.Proofs.Ytfmgaenedkjmkaa
open Go.ChangeShapes Go.WideShapes Go.ChangeAt Go.RowKit
set_option linter.unusedVariables false
open Hd

attribute [local go_sem] Oper.semAt_some

theorem bkOf_gu {d : Dr} (h : GU d) (s : ByteArray) : bkOf d s = (bkN d s : Int) := (h.slot s).2.1
theorem sz_gu {d : Dr} (h : GU d) : szOk d := ⟨h.g.1, h.g.2.1, h.g.2.2.1⟩
theorem mu_gu {w : World} {D B gs gB c m : Nat} {s : ByteArray} {e : Dr} {t : TypeId} {cs : Array Value} {kb : Nat → Nat} (hB : w.heap[D]? = some (.cells #[.int .i64 e.dp, .slice (some ⟨gs, 0, none⟩) e.sl.length c, .slice (some ⟨gB, 0, none⟩) e.bs.length m] t (0, 0))) (hG : GU e) (hcs : w.heap[gs]? = some (.cells cs 3 (0, 0))) (hi : intsN e.sl.length e.sl cs) (hb : GB w B (.slice (some ⟨gB, 0, none⟩) e.bs.length m) e.bs kb) : mu D s w = 9 - dpN e s := by
  obtain ⟨x0, x1, x2, -, -, -⟩ := box3_cells hB
  obtain ⟨hlo, hk, hkl, -⟩ := hG.slot s
  obtain ⟨na, nc, y0, -⟩ := hb.nms rfl hkl
  have y1 : w.cell? ⟨gs, low (nh s) e.dp.toNat, none⟩ = some (iv (gi e.sl (low (nh s) e.dp.toNat))) := cell_of_block hcs (hi _ hlo)
  unfold mu
  have e0 : rdI w ⟨D, 0, none⟩ = e.dp := by unfold rdI; rw [x0]
  have e1 : rdS w ⟨D, 1, none⟩ = ⟨gs, 0, none⟩ := by unfold rdS; rw [x1]
  have e2 : rdS w ⟨D, 2, none⟩ = ⟨gB, 0, none⟩ := by unfold rdS; rw [x2]
  have e3 : rdI w ⟨gs, 0 + low (nh s) e.dp.toNat, none⟩ = (bkN e s : Int) := by unfold rdI; rw [Nat.zero_add, y1]; exact hk
  rw [e0, e1, e2, addN, addN, e3]
  have e4 : rdI w ⟨gB, 0 + (bkN e s : Int).toNat * 2, none⟩ = (gb e.bs (bkN e s)).dp := by
    rw [show ((bkN e s : Nat) : Int).toNat = bkN e s by omega]
    unfold rdI; rw [Nat.zero_add, y0]
  rw [e4]
  rfl
theorem way_ris {d e : Dr} (h : Hd.Way d e) (s : ByteArray) : Ris (bkL d s) ∧ (bkL d s).length ≤ 4 := by
  have := good_names h.s (good_bk h.s s).2
  rw [h.names s]
  exact ⟨this.2, this.1⟩
theorem put_way {d e : Dr} (h : Hd.Way d e) {x : Nm} (hx : isE x = true) {k : Nat} (hk : AtN (bkL d x.nm) x.nm k) (hr : roomy d x.nm = true) :
    Hd.Way (pD d (bkN d x.nm) (putL (bkL d x.nm) x k)) (exD e (bkN e x.nm) (exR (bkL e x.nm) x.nm k [x])) := by
  obtain ⟨s1, s2, s3, s4⟩ := h.u.slot x.nm
  obtain ⟨t1, t2, t3, t4⟩ := h.s.gu.slot x.nm
  obtain ⟨d1, d2, d3⟩ := h.u.deep x.nm
  have hl : (low (nh x.nm) e.dp.toNat) = low (nh x.nm) d.dp.toNat := by rw [h.dp]
  rw [hl] at t2
  obtain ⟨ris, hl4⟩ := way_ris h x.nm
  simp only [isE, Bool.and_eq_true] at hx
  have hq : dpN d x.nm ≤ d.dp.toNat := by omega
  have ok := put_ok (h.u.ok x.nm) hk hx.1 hx.2 rfl (by
    unfold roomy at hr
    rw [← hasN_is ris hk] at hr
    simpa using hr)
  have := h.put (R := putL (bkL d x.nm) x k) s1 s2 t2 (q := dpN d x.nm) (by rw [s4]; exact d1) (by rw [low_low hq]; exact ok)
  rw [← h.names x.nm]
  exact this
/-- One slice of a bucket's box is written: its names. -/
theorem GB.put1 {w : World} {B gB m cap k g : Nat} {N : List Bk} {kb : Nat → Nat} {l : List Nm} {p : Value} (h : GB w B (.slice (some ⟨gB, 0, none⟩) m cap) N kb) (hm : N.length = m) (hk : k < m) (hp : NB w B w.heap.size p l g) (hg : l ≠ [] → ∀ r, r < m → r ≠ k → (gb N r).ns ≠ [] → kb r ≠ g) :
    GB (w.setCell ⟨gB, k * 2 + 1, none⟩ p) B (.slice (some ⟨gB, 0, none⟩) m cap) (N.set k ⟨(gb N k).dp, l⟩) (kbPut kb k g) := by
  obtain ⟨cur, hcur, hsz, -⟩ := h.block hm
  obtain ⟨na, nc, y0, -⟩ := h.nms hm hk
  have h2 := h.put (dp := (gb N k).dp) hm hk hp hg
  have hc0 : cur[k * 2]? = some (.int .i64 (gb N k).dp) := by
    have e : w.cell? ⟨gB, k * 2, none⟩ = some (cur[k * 2]'(by omega)) := cell_of_block hcur (by simp)
    rw [e] at y0
    rw [Array.getElem?_eq_getElem (by omega)]
    exact y0
  have e1 : cur.setIfInBounds (k * 2) (.int .i64 (gb N k).dp) = cur := by
    apply Array.ext_getElem?
    intro i
    by_cases e : i = k * 2
    · subst e
      rw [set_at (by omega), hc0]
    · rw [set_ne e]
  have b1 : (w.setCell ⟨gB, k * 2, none⟩ (.int .i64 (gb N k).dp)).heap[gB]? = some (.cells cur 63 (0, 0)) := by
    have := block_set (i := k * 2) (v := .int .i64 (gb N k).dp) hcur
    rw [e1] at this
    exact this
  have o0 := out_setCell w gB (k * 2) (.int .i64 (gb N k).dp)
  have o1 := out_setCell (w.setCell ⟨gB, k * 2, none⟩ (.int .i64 (gb N k).dp)) gB (k * 2 + 1) p
  have o2 := out_setCell w gB (k * 2 + 1) p
  refine h2.keepT ⟨by simp, fun g c t hg _ => ?_⟩
  have hlt := box_lt hg
  by_cases e : g = gB
  · subst e
    rw [block_set b1, block_set hcur]
  · rw [o1.block g (by have := o0.size; simp at hlt ⊢; omega) (by omega), o0.block g (by simpa using hlt) (by omega), o2.block g (by simpa using hlt) (by omega)]
end Go.Proofs.Ytfmgaenedkjmkaa
