import Derived.Test.YtodidnbghiinkaaE3
/- The specification's ExpandTokens. -/
namespace Go.Proofs.Ytodidnbghiinkaa
open Go.ChangeShapes Go.WideShapes Go.ChangeAt Go.RowKit
set_option linter.unusedVariables false
open Tz

attribute [local go_sem] Oper.semAt_some

set_option maxRecDepth 20000 in
set_option maxHeartbeats 4000000 in
/-- What good tokens tell. -/
theorem l16Expand_any (a : Option Addr) (c : Nat) (l : List Tk) (w : World) (hn : l.length ≤ 1048576) (hf : ∀ i, i < l.length → Few (gt l i)) (hgd : good l = true) (ha : Tks w a l) :
    Calls Try.prog 45 #[.slice a l.length c] w fun e w' => e = .returned (.string (txt (ex l l.length))) ∧ Below w.heap.size w w' := by
  obtain ⟨i0, hi, hz0, hz1, hz2⟩ := info_parts info5
  have HR : Hid (Tks w a l) := ha
  have HF : Hid (∀ i, i < l.length → Few (gt l i)) := hf
  have hgd' : gB l l.length = true ∧ tl l l.length ≤ 600 := by unfold good at hgd; simpa using hgd
  have HA : Hid (∀ k, k < l.length → okT (gt l k) = true ∧ (gt l k).d ≤ tl l k ∧ tl l (k + 1) ≤ 600) := fun k hk => ⟨(okA_T (gB_at hk hgd'.1)).1, (okA_T (gB_at hk hgd'.1)).2, Nat.le_trans (tl_le hk) hgd'.2⟩
  clear ha hf hgd hgd'
  obtain ⟨X, hX⟩ : ∃ X, txt (ex l l.length) = X := ⟨_, rfl⟩
  rw [hX]
  have HX : Hid _ := hX
  clear hX
  obtain ⟨N, hN⟩ : ∃ N, l.length = N := ⟨_, rfl⟩
  have HRow : Hid (RowT w a N (gt l)) := by show RowT w a N (gt l); rw [← hN]; exact HR.out
  rw [hN] at hn HF HA HX ⊢
  clear hN HR
  have hN63 : N ≤ 9223372036854775807 := by omega
  obtain ⟨Z, hZ⟩ : ∃ Z, w.heap.size = Z := ⟨_, rfl⟩
  have HZ : Hid _ := hZ
  have B0 : Below Z w w := hZ ▸ Below.refl _ _
  have Z0 : Z ≤ w.heap.size := by omega
  have HRb : Hid (∀ W, Below Z w W → RowT W a N (gt l)) := fun W h => RowT.below HRow.out (hZ ▸ h)
  rw [hZ]
  clear hZ HRow
  go_enter Try.func45, Try.ntmps45
  go_wp2
  go_loopw [3, 9] (fun tt ii wr => ∃ (k : Nat) (y2 : Option Addr) (c2 : Nat), k ≤ N ∧ ii = .int .i64 k ∧ tt = .slice y2 (tl l k) c2 ∧ Hid (OwnB wr Z (.slice y2 (tl l k) c2) (ex l k)) ∧ Below Z w wr ∧ Z ≤ wr.heap.size) (fun _ ii _ => N - (intOf ii).toNat)
  case atStart => exact ⟨0, none, 0, by omega, rfl, rfl, OwnB.nil _ _, B0, Z0⟩
  case round =>
    obtain ⟨k, y2, c2, hk, rfl, rfl, HO, hb, hz⟩ := hrel
    by_cases hlt : k < N
    · obtain ⟨b, off, rfl, hcell⟩ := (HRb.out _ hb) (by omega)
      obtain ⟨k0, k1, k2⟩ := hcell k hlt
      have hfx := HF.out k hlt
      obtain ⟨hT, hdT, h600⟩ := HA.out k hlt
      have hlt' : (k : Int) < (N : Int) := by omega
      have hzb : b < wr.heap.size := lt_of_cell k0
      obtain ⟨x, hx⟩ : ∃ x, gt l k = x := ⟨_, rfl⟩
      have Hx : Hid _ := hx
      rw [hx] at k0 k1 k2 hfx hT hdT
      have HT1 : Hid (tl l (k + 1) = tl l k + x.p.size + x.n.toNat) := by show _ = _; rw [tl, Hx.out]
      have HE1 : Hid (ex l (k + 1) = rep (ex l k ++ bt x.p) x.d.toNat x.n.toNat) := by show _ = _; rw [ex, Hx.out]; rfl
      have hexl : Hid ((ex l k).length = tl l k) := ex_len l k
      have h600' : tl l k + x.p.size + x.n.toNat ≤ 600 := by rw [← HT1.out]; exact h600
      obtain ⟨p, d, n⟩ := x
      simp only at k0 k1 k2 hdT h600'
      obtain ⟨hp63, hd63, hn63⟩ := hfx
      simp only at hp63 hd63 hn63
      have hdd : n = 0 ∨ 1 ≤ d ∧ d ≤ tl l k + p.size := by
        unfold okT at hT
        simp only at hT
        split at hT
        · simp at hT; omega
        · simp at hT; omega
      have hn0 : 0 ≤ n := (okT_n hT).1
      clear hT
      obtain ⟨D, hD⟩ : ∃ D, wr.heap.size = D := ⟨_, rfl⟩
      obtain ⟨W0, hW0⟩ : ∃ W0, wr.alloc (.cells #[.string p, .int .i64 d, .int .i64 n] 52) = W0 := ⟨_, rfl⟩
      have q1 : Below wr.heap.size wr W0 := by subst hW0; exact below_alloc _ _
      have HB0 : Hid (W0.heap[D]? = some (.cells #[.string p, .int .i64 d, .int .i64 n] 52 (0, 0))) := by subst hW0 hD; exact al1 _ _
      obtain ⟨c0, c1, c2', -, -, -⟩ := box3_cells HB0.out
      clear hcell hx hexl h600
      obtain ⟨T, hT⟩ : ∃ T, tl l k = T := ⟨_, rfl⟩
      obtain ⟨E, hE⟩ : ∃ E, ex l k = E := ⟨_, rfl⟩
      have hEl : E.length = T := by rw [← hE, ← hT]; exact ex_len l k
      have HEl : Hid _ := hEl
      rw [hT] at HO hdT h600' hdd HT1 ⊢
      rw [hE] at HO HE1
      clear hE hT hEl
      have hbW : Below Z w W0 := hb.trans (q1.mono hz)
      have hzW : Z ≤ W0.heap.size := Nat.le_trans hz q1.size
      have OE0 : Hid (OwnB W0 Z (.slice y2 T c2) E) := owns_below HO.out q1
      have own0 : W0.ownsRow Z 5 1 (.slice y2 T c2) T (bys E) := by have h := OE0.out; unfold OwnB at h; rw [HEl.out] at h; exact h
      clear HO
      go_wp2_with (at_builtin; refine Lib.wpList_append_own_string (P := Try.prog) _ rfl _ _ 39 9 rfl Z 5 i0 Try.underlying39 Try.underlying9 hi hz0 hz1 hz2 (.slice y2 T c2) T (bys E) rfl own0 p rfl ?_ (by omega) hzW ?_)
      · unfold maxLen; omega
      intro v1 w1 own1 gr1 _
      have HB1 : Hid (w1.heap[D]? = some (.cells #[.string p, .int .i64 d, .int .i64 n] 52 (0, 0))) := box_grown OE0.out gr1 HB0.out (by decide)
      have b1 : Below Z w w1 := hbW.trans (Grown.below gr1 hzW (owns_ge OE0.out))
      have hZ1 : Z ≤ w1.heap.size := Nat.le_trans hzW gr1.size
      obtain ⟨y1, cc1, rfl⟩ := owns_form own1
      obtain ⟨M, hM⟩ : ∃ M, T + p.size = M := ⟨_, rfl⟩
      replace hdd : n = 0 ∨ 1 ≤ d ∧ d ≤ (M : Int) := by omega
      rw [hM] at own1 h600' HT1 ⊢
      obtain ⟨bb, hbb⟩ : ∃ bb, E ++ bt p = bb := ⟨_, rfl⟩
      have HbM : Hid (bb.length = M) := by show _ = _; rw [← hbb, List.length_append, bt_len, HEl.out, hM]
      have O2 : Hid (OwnB w1 Z (.slice y1 M cc1) bb) := by
        show w1.ownsRow Z 5 1 _ bb.length (bys bb)
        rw [HbM.out, ← hbb, bys_app]
        exact own1
      rw [hbb] at HE1
      have hM6 : M ≤ 600 := by omega
      clear own1 gr1 hW0 c0 c1 c2' k0 k1 k2 OE0 own0 HB0 hbb hM HEl hdT q1 hbW hb
      go_wp2
      go_loopw [3, 6] (fun tt ii wx => ∃ (j : Nat) (y3 : Option Addr) (c3 : Nat), j ≤ n.toNat ∧ ii = .int .i64 j ∧ tt = .slice y3 (M + j) c3 ∧ Hid (OwnB wx Z (.slice y3 (M + j) c3) (rep bb d.toNat j)) ∧ Hid (wx.heap[D]? = some (.cells #[.string p, .int .i64 d, .int .i64 n] 52 (0, 0))) ∧ Below Z w wx ∧ Z ≤ wx.heap.size) (fun _ ii _ => n.toNat - (intOf ii).toNat)
      case atStart => exact ⟨0, y1, cc1, Nat.zero_le _, rfl, rfl, O2.out, HB1.out, b1, hZ1⟩
      case round =>
        obtain ⟨j, y3, c3, hj, rfl, rfl, HO, HB, hbw, hz'⟩ := hrel
        obtain ⟨d0, d1, d2, -, -, -⟩ := box3_cells HB.out
        clear O2 HB1 b1 hZ1
        by_cases hltj : (j : Int) < n
        · have hdd' : 1 ≤ d ∧ d ≤ (M : Int) := by omega
          obtain ⟨m, hm⟩ : ∃ m : Nat, (M : Int) + j - d = (m : Int) := ⟨M + j - d.toNat, by omega⟩
          have hrl : (rep bb d.toNat j).length = M + j := by rw [rep_len, HbM.out]
          have hmL : m < (rep bb d.toNat j).length := by omega
          obtain ⟨g, rfl, hcell⟩ := HO.out.get hmL
          have hrep : Hid (rep bb d.toNat (j + 1) = rep bb d.toNat j ++ [(rep bb d.toNat j).getD m 0]) := by
            show _ = _
            rw [rep, hrl, show M + j - d.toNat = m by omega]
          obtain ⟨r, hr⟩ : ∃ r, rep bb d.toNat j = r := ⟨_, rfl⟩
          rw [hr] at HO hrep hcell hrl
          obtain ⟨B, hB⟩ : ∃ B, r.getD m 0 = B := ⟨_, rfl⟩
          rw [hB] at hcell hrep
          have Hrl : Hid _ := hrl
          have ew' : IntKind.i64.wrap ((M : Int) + j - d) = (m : Int) := by rw [wrapI (by omega) (by omega)]; omega
          have hmM : (m : Int) < (M : Int) + j := by omega
          have own2 : (wr.alloc (.cells #[.int .u8 B.toNat] 5)).ownsRow Z 5 1 (.slice (some ⟨g, 0, none⟩) (M + j) c3) (M + j) (bys r) := by
            have h := owns_below HO.out (below_alloc wr (.cells #[.int .u8 B.toNat] 5))
            rw [Hrl.out] at h; exact h
          have own2' : OwnB (wr.alloc (.cells #[.int .u8 B.toNat] 5)) Z (.slice (some ⟨g, 0, none⟩) (M + j) c3) r := owns_below HO.out (below_alloc wr (.cells #[.int .u8 B.toNat] 5))
          have sr := cell_one wr B 5
          have hb2 : Below Z w (wr.alloc (.cells #[.int .u8 B.toNat] 5)) := hbw.trans ((below_alloc _ _).mono hz')
          have z2 : Z ≤ (wr.alloc (.cells #[.int .u8 B.toNat] 5)).heap.size := Nat.le_trans hz' (below_alloc _ _).size
          have HB2 : Hid ((wr.alloc (.cells #[.int .u8 B.toNat] 5)).heap[D]? = some (.cells #[.string p, .int .i64 d, .int .i64 n] 52 (0, 0))) := box_on HB.out (below_alloc _ _)
          have Own2' : Hid _ := own2'
          clear hr hB hrl HO HB own2' hmL hm hdd
          go_wp2_with (at_builtin; refine wpList_append_src rfl _ _ 39 rfl Z 5 _ 1 1 Try.underlying39 info5 rfl (by decide) (.slice (some ⟨g, 0, none⟩) (M + j) c3) (M + j) (bys r) rfl own2 (some ⟨wr.heap.size, 0, none⟩) 1 1 [.int .u8 B.toNat] rfl rfl sr (by simp [Value.oneCell']) (by omega) (by decide) z2 ?_; intro v3 w3 own3 gr3; have b3 : Below Z w w3 := grown_on hb2 z2 own2 gr3; have z3 : Z ≤ w3.heap.size := Nat.le_trans z2 gr3.size; have HB3 : Hid (w3.heap[D]? = some (.cells #[.string p, .int .i64 d, .int .i64 n] 52 (0, 0))) := box_grown Own2'.out gr3 HB2.out (by decide); have OW3 : Hid (w3.ownsRow Z 5 1 v3 (M + j + 1) (bys r ++ [.int .u8 B.toNat])) := own3; clear own3 gr3; obtain ⟨y4, c4, hy4⟩ := owns_form OW3.out; subst hy4)
          go_roundw
          case rel => exact ⟨j + 1, y4, c4, by omega, by go_num, rfl, (by rw [hrep.out]; show w3.ownsRow Z 5 1 _ _ _; rw [bys_app, List.length_append, Hrl.out]; exact OW3.out), HB3.out, b3, z3⟩
          case measure => simp [intOf]; omega
        · have hkn : j = n.toNat := by omega
          have Hj : Hid _ := hkn
          have HO' : Hid (OwnB wr Z (.slice y3 (M + j) c3) (ex l (k + 1))) := by show OwnB wr Z (.slice y3 (M + j) c3) (ex l (k + 1)); rw [HE1.out, ← Hj.out]; exact HO.out
          have HTj : Hid (tl l (k + 1) = M + j) := by show _ = _; rw [HT1.out, Hj.out]
          clear hkn HO HT1 HE1
          go_wp2_with fail
          go_roundw
          case rel => exact ⟨k + 1, y3, c3, by omega, by go_num, by rw [HTj.out], by rw [HTj.out]; exact HO'.out, hbw, hz'⟩
          case measure => simp [intOf]; omega
    · have hkN : k = N := by omega
      have hXt : X = txt (ex l k) := by rw [hkN, HX.out]
      clear hkN
      have hlt' : ¬ (k : Int) < (N : Int) := by omega
      have cv := OwnB.conv HO.out
      rw [← hXt] at cv
      clear hXt
      generalize tl l k = T at *
      go_wp2_with fail
      go_ret
      exact ⟨rfl, hb⟩
theorem specExp_any (a : Option Addr) (c : Nat) (l : List Tk) (w : World) (hn : l.length ≤ 1048576) (hf : ∀ i, i < l.length → Few (gt l i)) (ha : Tks w a l) :
    Calls Try.prog 20 #[.slice a l.length c] w fun e w' => e = .returned (.tuple #[.string (exA l), .bool (good l)]) ∧ Below w.heap.size w w' := by
  have c1 := specGood_any a c l w hn hf ha
  cases hG : good l with
  | false =>
    rw [hG] at c1
    rw [exA_no hG]
    generalize l.length = n at *
    go_enter Try.func20, Try.ntmps20
    go_wp2_with fail
    refine c1.mono ?_
    rintro e w1 ⟨rfl, b1⟩
    go_wp2_with fail
    go_ret2
    exact ⟨rfl, b1⟩
  | true =>
    rw [hG] at c1
    have c2 : Hid (∀ W, Below w.heap.size w W → Calls Try.prog 45 #[.slice a l.length c] W fun e w' => e = .returned (.string (txt (ex l l.length))) ∧ Below W.heap.size W w') := fun W h => l16Expand_any a c l W hn hf hG (RowT.below ha h)
    rw [exA_yes hG]
    generalize txt (ex l l.length) = X at *
    generalize l.length = n at *
    go_enter Try.func20, Try.ntmps20
    go_wp2_with fail
    refine c1.mono ?_
    rintro e w1 ⟨rfl, b1⟩
    go_wp2_with fail
    refine (c2.out _ b1).mono ?_
    rintro e w2 ⟨rfl, b2⟩
    go_wp2_with fail
    go_ret2
    exact ⟨rfl, Below.comp b1 b2⟩
end Go.Proofs.Ytodidnbghiinkaa
