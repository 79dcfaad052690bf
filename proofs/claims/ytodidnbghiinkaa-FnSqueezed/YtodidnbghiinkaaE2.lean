import Derived.Test.YtodidnbghiinkaaB3
import Derived.Test.YtodidnbghiinkaaE1
/- The program tells a token on. -/
namespace Go.Proofs.Ytodidnbghiinkaa
open Go.ChangeShapes Go.WideShapes Go.ChangeAt Go.RowKit
set_option linter.unusedVariables false
open Tz

attribute [local go_sem] Oper.semAt_some

set_option maxHeartbeats 2000000 in
theorem tellOn_any (v : Value) (b : List UInt8) (x : Tk) (Z : Nat) (w : World) (hO : OwnB w Z v b) (hZ : Z ≤ w.heap.size) (hx : Few x) (hb : b.length ≤ 1000000) (hp : x.p.size ≤ 1000000) (hn : x.n ≤ 1000000) (hd : x.n ≤ 0 ∨ 1 ≤ x.d ∧ x.d ≤ b.length + x.p.size) :
    Calls Try.prog 48 #[v, tv x] w fun e w' => Below Z w w' ∧ ∃ v', e = .returned v' ∧ OwnB w' Z v' (tell b x) := by
  obtain ⟨p, d, n⟩ := x
  obtain ⟨hp63, hd63, hn63⟩ := hx
  simp only at hp63 hd63 hn63 hp hn hd
  obtain ⟨y, c, rfl⟩ := owns_form hO
  obtain ⟨i0, hi, hz0, hz1, hz2⟩ := info_parts info5
  have HE : Hid (tell b ⟨p, d, n⟩ = rep (b ++ bt p) d.toNat n.toNat) := rfl
  obtain ⟨E, hE⟩ : ∃ E, tell b ⟨p, d, n⟩ = E := ⟨_, rfl⟩
  rw [hE] at HE ⊢
  clear hE
  obtain ⟨D, hD⟩ : ∃ D, w.heap.size = D := ⟨_, rfl⟩
  obtain ⟨W0, hW0⟩ : ∃ W0, w.alloc (.cells #[.string p, .int .i64 d, .int .i64 n] 52) = W0 := ⟨_, rfl⟩
  have q0 : Below w.heap.size w W0 := by subst hW0; exact below_alloc _ _
  have HB0 : Hid (W0.heap[D]? = some (.cells #[.string p, .int .i64 d, .int .i64 n] 52 (0, 0))) := by subst hW0 hD; exact al1 _ _
  have hZ0 : Z ≤ W0.heap.size := Nat.le_trans hZ q0.size
  have o0 : Hid (OwnB W0 Z (.slice y b.length c) b) := owns_below hO q0
  have b0 : Below Z w W0 := q0.mono hZ
  clear q0 hO
  obtain ⟨x0, x1, x2, -, -, -⟩ := box3_cells HB0.out
  have hbl : (bt p).length = p.size := bt_len p
  go_enter Try.func48, Try.ntmps48
  go_wp2_with (at_builtin; refine Lib.wpList_append_own_string (P := Try.prog) _ rfl _ _ 39 9 rfl Z 5 i0 Try.underlying39 Try.underlying9 hi hz0 hz1 hz2 (.slice y b.length c) b.length (bys b) rfl o0.out p rfl ?_ (by omega) hZ0 ?_)
  · unfold maxLen; omega
  intro v1 w1 own1 gr1 _
  have HB1 : Hid (w1.heap[D]? = some (.cells #[.string p, .int .i64 d, .int .i64 n] 52 (0, 0))) := box_grown o0.out gr1 HB0.out (by decide)
  have b1 : Below Z w w1 := b0.trans (Grown.below gr1 hZ0 (owns_ge o0.out))
  have hZ1 : Z ≤ w1.heap.size := Nat.le_trans hZ0 gr1.size
  have o1 : OwnB w1 Z v1 (b ++ bt p) := by
    show w1.ownsRow Z 5 1 v1 (b ++ bt p).length (bys (b ++ bt p))
    rw [List.length_append, bys_app, bt_len]
    exact own1
  obtain ⟨y1, c1, rfl⟩ := owns_form o1
  have O1 : Hid _ := o1
  obtain ⟨j0, j1, j2, -, -, -⟩ := box3_cells HB1.out
  clear own1 gr1 o1 hW0 x0 x1 x2 b0 HB0 o0
  go_wp2
  have hLb : (b ++ bt p).length = b.length + p.size := by rw [List.length_append, hbl]
  obtain ⟨bb, hbb⟩ : ∃ bb, b ++ bt p = bb := ⟨_, rfl⟩
  rw [hbb] at O1 hLb HE
  clear hbb hbl
  have HLb : Hid _ := hLb
  obtain ⟨M, hM⟩ : ∃ M, b.length + p.size = M := ⟨_, rfl⟩
  have hM6 : M ≤ 2000000 := by omega
  have hd' : n ≤ 0 ∨ 1 ≤ d ∧ d ≤ (M : Int) := by omega
  have HbM : Hid (bb.length = M) := by show _ = _; rw [← hM]; exact HLb.out
  have O2 : Hid (OwnB w1 Z (.slice y1 M c1) bb) := by
    rw [show (Value.slice y1 M c1) = Value.slice y1 bb.length c1 by rw [HbM.out]]
    exact O1.out
  have eM : bb.length = M := HbM.out
  have eM2 : (b ++ bt p).length = (b ++ bt p).length := rfl
  rw [show (Value.slice y1 (b ++ bt p).length c1) = Value.slice y1 M c1 by rw [List.length_append, bt_len, hM]]
  clear hd hLb HLb O1 hM eM eM2
  go_loopw [0, 11] (fun tt ii wr => ∃ (k : Nat) (y2 : Option Addr) (c2 : Nat), k ≤ n.toNat ∧ ii = .int .i64 k ∧ tt = .slice y2 (M + k) c2 ∧ Hid (OwnB wr Z (.slice y2 (M + k) c2) (rep bb d.toNat k)) ∧ Hid (wr.heap[D]? = some (.cells #[.string p, .int .i64 d, .int .i64 n] 52 (0, 0))) ∧ Below Z w wr ∧ Z ≤ wr.heap.size) (fun _ ii _ => n.toNat - (intOf ii).toNat)
  case atStart => exact ⟨0, y1, c1, Nat.zero_le _, rfl, rfl, O2.out, HB1.out, b1, hZ1⟩
  case round =>
    obtain ⟨k, y2, c2, hk, rfl, rfl, HO, HB, hbw, hz⟩ := hrel
    by_cases hlt : (k : Int) < n
    · have hdd : 1 ≤ d ∧ d ≤ (M : Int) := by omega
      obtain ⟨m, hm⟩ : ∃ m : Nat, (M : Int) + k - d = (m : Int) := ⟨M + k - d.toNat, by omega⟩
      have hrl : (rep bb d.toNat k).length = M + k := by rw [rep_len, HbM.out]
      have hmL : m < (rep bb d.toNat k).length := by omega
      obtain ⟨g, rfl, hcell⟩ := HO.out.get hmL
      have hrep : Hid (rep bb d.toNat (k + 1) = rep bb d.toNat k ++ [(rep bb d.toNat k).getD m 0]) := by
        show _ = _
        rw [rep, hrl, show M + k - d.toNat = m by omega]
      obtain ⟨r, hr⟩ : ∃ r, rep bb d.toNat k = r := ⟨_, rfl⟩
      rw [hr] at HO hrep hcell hrl
      obtain ⟨B, hB⟩ : ∃ B, r.getD m 0 = B := ⟨_, rfl⟩
      rw [hB] at hcell hrep
      have Hrl : Hid _ := hrl
      have ew : IntKind.i64.wrap (((M + k : Nat) : Int) - d) = (m : Int) := by rw [wrapI (by omega) (by omega)]; omega
      have ew' : IntKind.i64.wrap ((M : Int) + k - d) = (m : Int) := by rw [wrapI (by omega) (by omega)]; omega
      have hmM : (m : Int) < (M : Int) + k := by omega
      obtain ⟨d0, d1, d2, -, -, -⟩ := box3_cells HB.out
      have own2 : (wr.alloc (.cells #[.int .u8 B.toNat] 5)).ownsRow Z 5 1 (.slice (some ⟨g, 0, none⟩) (M + k) c2) (M + k) (bys r) := by
        have h := owns_below HO.out (below_alloc wr (.cells #[.int .u8 B.toNat] 5))
        rw [Hrl.out] at h; exact h
      have own2' : OwnB (wr.alloc (.cells #[.int .u8 B.toNat] 5)) Z (.slice (some ⟨g, 0, none⟩) (M + k) c2) r := owns_below HO.out (below_alloc wr (.cells #[.int .u8 B.toNat] 5))
      have sr := cell_one wr B 5
      have hb2 : Below Z w (wr.alloc (.cells #[.int .u8 B.toNat] 5)) := hbw.trans ((below_alloc _ _).mono hz)
      have z2 : Z ≤ (wr.alloc (.cells #[.int .u8 B.toNat] 5)).heap.size := Nat.le_trans hz (below_alloc _ _).size
      have HB2 : Hid ((wr.alloc (.cells #[.int .u8 B.toNat] 5)).heap[D]? = some (.cells #[.string p, .int .i64 d, .int .i64 n] 52 (0, 0))) := box_on HB.out (below_alloc _ _)
      have Own2' : Hid _ := own2'
      clear hr hB hrl HO HB own2' hmL hm hd'
      go_wp2_with (at_builtin; refine wpList_append_src rfl _ _ 39 rfl Z 5 _ 1 1 Try.underlying39 info5 rfl (by decide) (.slice (some ⟨g, 0, none⟩) (M + k) c2) (M + k) (bys r) rfl own2 (some ⟨wr.heap.size, 0, none⟩) 1 1 [.int .u8 B.toNat] rfl rfl sr (by simp [Value.oneCell']) (by omega) (by decide) z2 ?_; intro v3 w3 own3 gr3; have b3 : Below Z w w3 := grown_on hb2 z2 own2 gr3; have z3 : Z ≤ w3.heap.size := Nat.le_trans z2 gr3.size; have HB3 : Hid (w3.heap[D]? = some (.cells #[.string p, .int .i64 d, .int .i64 n] 52 (0, 0))) := box_grown Own2'.out gr3 HB2.out (by decide); have OW3 : Hid (w3.ownsRow Z 5 1 v3 (M + k + 1) (bys r ++ [.int .u8 B.toNat])) := own3; clear own3 gr3; obtain ⟨y3, c3, hy3⟩ := owns_form OW3.out; subst hy3)
      go_roundw
      case rel => exact ⟨k + 1, y3, c3, by omega, by go_num, rfl, (by rw [hrep.out]; show w3.ownsRow Z 5 1 _ _ _; rw [bys_app, List.length_append, Hrl.out]; exact OW3.out), HB3.out, b3, z3⟩
      case measure => simp [intOf]; omega
    · have hkn : k = n.toNat := by omega
      subst hkn
      go_wp2_with fail
      go_ret
      exact ⟨hbw, _, rfl, by rw [HE.out]; exact HO.out⟩
end Go.Proofs.Ytodidnbghiinkaa
