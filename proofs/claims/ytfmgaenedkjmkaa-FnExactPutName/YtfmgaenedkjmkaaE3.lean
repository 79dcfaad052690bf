import Derived.Test.YtfmgaenedkjmkaaE2
import Derived.Test.YtfmgaenedkjmkaaC3
import Derived.Test.YtfmgaenedkjmkaaOL
/- The program: room made for a name, the walk. -/
namespace Go.Proofs.Ytfmgaenedkjmkaa
open Go.ChangeShapes Go.WideShapes Go.ChangeAt Go.RowKit
set_option linter.unusedVariables false
open Hd

attribute [local go_sem] Oper.semAt_some

/-- What makeRoom tells. -/
def RmA (w' : World) (d : Dr) (s : ByteArray) (v' : Value) (b : Bool) : Prop :=
  (∀ f, rm 9 d s = some f → b = true ∧ GS f ∧ roomy f s = true ∧ DirAt w' v' f) ∧ (rm 9 d s = none → b = false ∧ v' = .agg #[.int .i64 0, .slice none 0 0, .slice none 0 0])
theorem rm_yes {e : Dr} {s : ByteArray} (h : roomy e s = true) : rm 9 e s = some e := by rw [rm, if_pos h]
theorem rm_no {e : Dr} {s : ByteArray} (h : ¬ roomy e s = true) (h8 : (gb e.bs (bkN e s)).dp = 8) : rm 9 e s = none := by rw [rm, if_neg h, if_pos h8]
theorem rm_step {e : Dr} {s : ByteArray} (hG : GS e) (h : ¬ roomy e s = true) (h8 : ¬ (gb e.bs (bkN e s)).dp = 8) : rm 9 e s = rm 9 (stI e s) s := by
  rw [rm, if_neg h, if_neg h8]
  have := step_deep hG s h8
  exact rm_more (hG.step s h8) s 8 9 (by omega) (by omega)
set_option maxHeartbeats 8000000 in
set_option maxRecDepth 20000 in
theorem makeRoom_any (v : Value) (d : Dr) (s : ByteArray) (w : World) (hG : GS d) (hs : s.size ≤ 9223372036854775807) (hc : DirAt w v d) :
    Calls Try.prog 41 #[v, .string s] w fun e w' => Below w.heap.size w w' ∧ ∃ v' b, e = .returned (.tuple #[v', .bool b]) ∧ RmA w' d s v' b := by
  have HBu : Hid (∀ W x e, GS e → DirAt W x e → Calls Try.prog 64 #[x, .string s] W fun z w' => z = .returned (.int .i64 (bkN e s : Nat)) ∧ Below W.heap.size W w') := fun W x e h hd => by have := bucketFor_any x e s W h.1 hs hd; rw [bkOf_is h] at this; exact this
  have HSe : Hid (∀ W e na nc, GS e → Nms W na (bkL e s) → ∃ k : Nat, Calls Try.prog 65 #[.slice na (bkL e s).length nc, .string s] W fun z w' => z = .returned (.tuple #[.int .i64 (k : Int), .bool (hasM (bkL e s) s)]) ∧ Below W.heap.size W w') := fun W e na nc h hn => by
    obtain ⟨k, hk⟩ := at_ex (bkL e s) s
    have hgn := good_names h (good_bk h s).2
    refine ⟨k, ?_⟩
    have := searchName_any na (bkL e s) nc s k W (by have : (bkL e s).length ≤ 4 := hgn.1; omega) hn hgn.2 hk
    have hh : hasN (bkL e s) s k = hasM (bkL e s) s := hasN_is hgn.2 hk
    rw [hh] at this
    exact this
  have cHa := fun W => implHash_any s W hs
  have hG0 := hG
  obtain ⟨a, c, a', c', rfl, hca, hca', ha, ha'⟩ := hc
  unfold dv at *
  obtain ⟨W0, hW0⟩ : ∃ W0, (w.alloc (.cells #[.int .i64 d.dp, .slice a d.sl.length c, .slice a' d.bs.length c'] 32)).alloc Z27 = W0 := ⟨_, rfl⟩
  have q0 : Below w.heap.size w W0 := by subst hW0; exact ba2 _ _ _
  obtain ⟨B1, B2⟩ : W0.heap[w.heap.size]? = some (.cells #[.int .i64 d.dp, .slice a d.sl.length c, .slice a' d.bs.length c'] 32 (0, 0)) ∧ W0.heap[w.heap.size + 1]? = some (.cells #[.int .i64 0, .slice none 0 0, .slice none 0 0] 32 (0, 0)) := by subst hW0; exact al2 _ _ _
  have HA : Hid (W0.heap[w.heap.size]? = some (.cells #[.int .i64 d.dp, .slice a d.sl.length c, .slice a' d.bs.length c'] 32 (0, 0))) := B1
  have HB : Hid (W0.heap[w.heap.size + 1]? = some (.cells #[.int .i64 0, .slice none 0 0, .slice none 0 0] 32 (0, 0))) := B2
  have HI0 : Hid (GS d ∧ d.sl.length ≤ c ∧ d.bs.length ≤ c' ∧ Ints W0 a d.sl ∧ Bks W0 a' d.bs ∧ VA w.heap.size (w.heap.size + 2) W0 (.agg #[.int .i64 d.dp, .slice a d.sl.length c, .slice a' d.bs.length c']) d.bs.length) := ⟨hG, hca, hca', ha.below q0, ha'.below q0, (VA.start (B := w.heap.size) (C := w.heap.size + 2) (w := w) (d := d) ⟨a, c, a', c', rfl, hca, hca', ha, ha'⟩ (Nat.le_refl _)).below ⟨a, c, a', c', rfl, hca, hca', ha, ha'⟩ rfl q0⟩
  clear B1 B2 ha ha' hca hca' hG
  go_enter Try.func41, Try.ntmps41
  go_wp2_with fail
  clear hW0
  go_loopw [6] (fun x wr => ∃ (e : Dr) (a : Option Addr) (c : Nat) (a' : Option Addr) (c' : Nat), Hid (GS e ∧ Hid (rm 9 e s = rm 9 d s) ∧ e.sl.length ≤ c ∧ e.bs.length ≤ c' ∧ Ints wr a e.sl ∧ Bks wr a' e.bs ∧ VA w.heap.size (w.heap.size + 2) wr (.agg #[.int .i64 e.dp, .slice a e.sl.length c, .slice a' e.bs.length c']) e.bs.length) ∧ Hid (wr.heap[w.heap.size]? = some (.cells #[.int .i64 e.dp, .slice a e.sl.length c, .slice a' e.bs.length c'] 32 (0, 0))) ∧ Hid (wr.heap[w.heap.size + 1]? = some (.cells #[.int .i64 0, .slice none 0 0, .slice none 0 0] 32 (0, 0))) ∧ Below w.heap.size w wr) (fun _ wr => mu w.heap.size s wr)
  case atStart => exact ⟨d, a, c, a', c', ⟨HI0.out.1, rfl, HI0.out.2⟩, HA, HB, q0⟩
  case round =>
    obtain ⟨e, a, c, a', c', HI, HD, HZ, hbw⟩ := hrel
    obtain ⟨hGe, hrm, hca, hca', ha, ha', hva⟩ := HI.out
    obtain ⟨hslot, hkl⟩ := good_bk hGe s
    have hl4 : (bkL e s).length ≤ 4 := (good_names hGe hkl).1
    obtain ⟨hq1, hq2, hq3⟩ := hGe.gu.deep s
    have hz0 : w.heap.size + 1 < wr.heap.size := box_lt HZ.out
    have hmu : Hid (mu w.heap.size s wr = 9 - dpN e s) := mu_is HD.out hGe ha ha'
    have HDA : Hid (∀ W, Below wr.heap.size wr W → DirAt W (.agg #[.int .i64 e.dp, .slice a e.sl.length c, .slice a' e.bs.length c']) e ∧ VA w.heap.size (w.heap.size + 2) W (.agg #[.int .i64 e.dp, .slice a e.sl.length c, .slice a' e.bs.length c']) e.bs.length) := fun W h => ⟨⟨a, c, a', c', rfl, hca, hca', ha.below h, ha'.below h⟩, hva.below ⟨a, c, a', c', rfl, hca, hca', ha, ha'⟩ rfl h⟩
    have HCu : Hid (¬ (gb e.bs (bkN e s)).dp = 8 → ∀ W x, DirAt W x (wide e s) → VA w.heap.size (w.heap.size + 2) W x e.bs.length → w.heap.size + 2 ≤ W.heap.size → Calls Try.prog 67 #[x, .int .i64 (bkN e s : Int), .agg #[.int .i64 (dpN e s : Int), .int .i64 ((low (nh s) (dpN e s) : Nat) : Int)]] W fun z w' => Below W.heap.size W w' ∧ ∃ v', z = .returned v' ∧ DirAt w' v' (stI e s) ∧ VA w.heap.size (w.heap.size + 2) w' v' (stI e s).bs.length) := fun h8 W x hd hv hz => by
      obtain ⟨-, -, hwb, -⟩ := wide_gu hGe.gu s h8
      have C := cutAt_wide hGe s h8
      refine (cut_any x (wide e s) _ _ _ _ W C hd).mono ?_
      rintro z w' ⟨hb, v', rfl, hd', hv'⟩
      refine ⟨hb, v', rfl, hd', ?_⟩
      have := hv' w.heap.size (w.heap.size + 2) hz (by rw [hwb]; exact hv)
      have el : (stI e s).bs.length = (wide e s).bs.length + 1 := cuB_len (cut_u C).2.2.2.2.2
      rw [el]
      exact this
    have FIN9 : ¬ roomy e s = true → ¬ (gb e.bs (bkN e s)).dp = 8 → ∀ (w7 : World) (v7 u0 u1 u2 : Value), w7.heap[w.heap.size]? = some (.cells #[u0, u1, u2] 32 (0, 0)) → w7.heap[w.heap.size + 1]? = some (.cells #[.int .i64 0, .slice none 0 0, .slice none 0 0] 32 (0, 0)) → Below w.heap.size w w7 → DirAt w7 v7 (stI e s) → VA w.heap.size (w.heap.size + 2) w7 v7 (stI e s).bs.length → ∃ a7 c7 a7' c7' D7 n7 m7, v7 = .agg #[.int .i64 D7, .slice a7 n7 c7, .slice a7' m7 c7'] ∧ ∀ W9, ((w7.setCell ⟨w.heap.size, 0, none⟩ (.int .i64 D7)).setCell ⟨w.heap.size, 1, none⟩ (.slice a7 n7 c7)).setCell ⟨w.heap.size, 2, none⟩ (.slice a7' m7 c7') = W9 → (∃ (e : Dr) (a : Option Addr) (c : Nat) (a' : Option Addr) (c' : Nat), Hid (GS e ∧ Hid (rm 9 e s = rm 9 d s) ∧ e.sl.length ≤ c ∧ e.bs.length ≤ c' ∧ Ints W9 a e.sl ∧ Bks W9 a' e.bs ∧ VA w.heap.size (w.heap.size + 2) W9 (.agg #[.int .i64 e.dp, .slice a e.sl.length c, .slice a' e.bs.length c']) e.bs.length) ∧ Hid (W9.heap[w.heap.size]? = some (.cells #[.int .i64 e.dp, .slice a e.sl.length c, .slice a' e.bs.length c'] 32 (0, 0))) ∧ Hid (W9.heap[w.heap.size + 1]? = some (.cells #[.int .i64 0, .slice none 0 0, .slice none 0 0] 32 (0, 0))) ∧ Below w.heap.size w W9) ∧ mu w.heap.size s W9 < mu w.heap.size s wr := fun hro h8 w7 v7 u0 u1 u2 hB hZ hb hd hv => by
      have hd0 := hd
      obtain ⟨a7, c7, a7', c7', rfl, -, -, -, -⟩ := hd
      refine ⟨a7, c7, a7', c7', _, _, _, rfl, fun W9 hW9 => ?_⟩
      have o9 : Out w.heap.size (w.heap.size + 1) w7 W9 := by subst hW9; exact box3_out _ _ _ _ _
      have o9' : Out w.heap.size (w.heap.size + 2) w7 W9 := o9.mono (Nat.le_refl _) (by omega)
      have hB9 : W9.heap[w.heap.size]? = some (.cells #[.int .i64 (stI e s).dp, .slice a7 (stI e s).sl.length c7, .slice a7' (stI e s).bs.length c7'] 32 (0, 0)) := by subst hW9; exact box3_set hB
      have hd9 := hd0.away hv o9'
      have hv9 := hv.away hd0 rfl o9'
      obtain ⟨b7, e7, b7', e7', he, k1, k2, k3, k4⟩ := hd9
      simp only [dv, Value.agg.injEq, Array.mk.injEq, List.cons.injEq, Value.slice.injEq] at he
      obtain ⟨-, ⟨rfl, -, rfl⟩, ⟨rfl, -, rfl⟩, -⟩ := he
      have hz7 := box_lt hZ
      refine ⟨⟨stI e s, a7, c7, a7', c7', ⟨hGe.step s h8, ?_, k1, k2, k3, k4, hv9⟩, hB9, box_out hZ o9 (.inr (by omega)), hb.trans ((o9.below (by omega)).mono (Nat.le_refl _))⟩, ?_⟩
      · show rm 9 (stI e s) s = rm 9 d s
        rw [← rm_step hGe hro h8]
        exact hrm.out
      · rw [mu_is hB9 (hGe.step s h8) k3 k4, hmu.out, step_deep hGe s h8]
        omega
    obtain ⟨bb, boff, rfl, hbc⟩ := ha' (by omega)
    obtain ⟨na, nc, y0, y1, y2, y3⟩ := hbc (bkN e s) hkl
    have HSe2 : Hid (∀ W, Below wr.heap.size wr W → ∃ kS : Nat, Calls Try.prog 65 #[.slice na (bkL e s).length nc, .string s] W fun z w' => z = .returned (.tuple #[.int .i64 (kS : Int), .bool (hasM (bkL e s) s)]) ∧ Below W.heap.size W w') := fun W h => HSe.out W e na nc hGe (y2.below h)
    have HBu2 : Hid (∀ W, Below wr.heap.size wr W → Calls Try.prog 64 #[.agg #[.int .i64 e.dp, .slice a e.sl.length c, .slice (some ⟨bb, boff, none⟩) e.bs.length c'], .string s] W fun z w' => z = .returned (.int .i64 (bkN e s : Nat)) ∧ Below W.heap.size W w') := fun W h => HBu.out W _ e hGe (HDA.out W h).1
    have HDb : Hid (∀ W x, DirAt W x e → Calls Try.prog 66 #[x] W fun z w' => Below W.heap.size W w' ∧ ∃ v', z = .returned v' ∧ DirAt w' v' (dbl e) ∧ ∀ B C, C ≤ W.heap.size → VA B C W x e.bs.length → VA B C w' v' e.bs.length) := fun W x h => double_any x e W ⟨hGe.1.1, hGe.1.2.1⟩ (by rw [hGe.1.2.2]; have := Nat.pow_le_pow_right (n := 2) (by omega) (show e.dp.toNat ≤ 8 by have := hGe.1.2.1; omega); omega) h
    have HGe : Hid (GS e ∧ Hid (rm 9 e s = rm 9 d s)) := ⟨hGe, hrm⟩
    have hro : roomy e s = (hasM (bkL e s) s || decide ((bkL e s).length < 4)) := rfl
    have hwd : (gb e.bs (bkN e s)).dp = e.dp → wide e s = dbl e := fun h => if_pos h
    have hwn : ¬ (gb e.bs (bkN e s)).dp = e.dp → wide e s = e := fun h => if_neg h
    have HNo : Hid (¬ roomy e s = true → (dpN e s : Int) = 8 → rm 9 d s = none) := fun h h8 => by rw [← hrm.out]; exact rm_no h (hq1.trans h8)
    have hy1 : (gb e.bs (bkN e s)).ns.length = (bkL e s).length := rfl
    rw [hq1] at y0 HCu FIN9 hwd hwn
    rw [hy1] at y1
    clear hbc y2 y3 ha ha' hca hca' hslot hGe hrm hy1 HI hva hmu hq1
    have HFIN9 : Hid _ := FIN9
    have HCu' : Hid _ := HCu
    have Hwd : Hid _ := hwd
    have Hwn : Hid _ := hwn
    clear FIN9 hwd hwn
    obtain ⟨qn, hqn⟩ : ∃ qn, dpN e s = qn := ⟨_, rfl⟩
    have cLw := fun W => lowestBits_any (nh s) qn W (by have := nh_lt s; omega) (by omega)
    obtain ⟨DP, hDP⟩ : ∃ DP, e.dp = DP := ⟨_, rfl⟩
    obtain ⟨n, hn⟩ : ∃ n, e.sl.length = n := ⟨_, rfl⟩
    obtain ⟨m, hm⟩ : ∃ m, e.bs.length = m := ⟨_, rfl⟩
    obtain ⟨k, hk⟩ : ∃ k, bkN e s = k := ⟨_, rfl⟩
    obtain ⟨nl, hnl⟩ : ∃ nl, (bkL e s).length = nl := ⟨_, rfl⟩
    have HWm : Hid ((wide e s).bs.length = m) := by show (wide e s).bs.length = m; unfold wide; split <;> exact hm
    have HEm : Hid (e.bs.length = m) := hm
    rw [hDP, hn, hm] at HD HDA HBu2
    rw [hm] at HDb
    rw [hqn] at y0 hq2 HCu' HFIN9 Hwd Hwn HNo
    rw [hDP] at Hwd Hwn hq2 hq3
    rw [hm] at HCu' hkl
    rw [hk] at HBu2 y0 y1 hkl HCu'
    rw [hnl] at HSe2 y1 hl4 hro
    clear hDP hn hm hk hnl hqn HCu
    have hkm : (k : Int) < (m : Int) := by omega
    obtain ⟨x0, x1, x2, -, -, -⟩ := box3_cells HD.out
    go_wp2_with fail
    refine (HBu2.out _ (Below.refl _ _)).mono ?_
    rintro z w1 ⟨rfl, b1⟩
    clear x0 x1 x2
    obtain ⟨x0, x1, x2, -, -, -⟩ := box3_cells (box_on HD.out b1)
    have y0' := cell_on y0 b1
    have y1' := cell_on y1 b1
    obtain ⟨F, hF⟩ : ∃ F, w1.heap.size = F := ⟨_, rfl⟩
    have HF : Hid _ := hF
    obtain ⟨W2, hW2⟩ : ∃ W2, w1.alloc (.cells #[.int .i64 (qn : Int), .slice na nl nc] 63) = W2 := ⟨_, rfl⟩
    have b2 : Below w1.heap.size w1 W2 := by subst hW2; exact below_alloc _ _
    have HF2 : Hid (W2.heap[F]? = some (.cells #[.int .i64 (qn : Int), .slice na nl nc] 63 (0, 0))) := by subst hW2 hF; exact al1 _ _
    have b02 : Below wr.heap.size wr W2 := Below.comp b1 b2
    obtain ⟨x3, x4, -, -⟩ := box2_cells HF2.out
    obtain ⟨kS, cSe⟩ := HSe2.out W2 b02
    go_wp2_with fail
    refine cSe.mono ?_
    rintro z w3 ⟨rfl, b3⟩
    clear hW2 x0 x1 x2 x3 x4 y0' y1' cSe hF
    have b03 : Below wr.heap.size wr w3 := Below.comp b02 b3
    have hF3 : wr.heap.size ≤ F := by rw [← HF.out]; exact b1.size
    have HF3 : Hid (w3.heap[F]? = some (.cells #[.int .i64 (qn : Int), .slice na nl nc] 63 (0, 0))) := box_on HF2.out b3
    have HD3 : Hid (w3.heap[w.heap.size]? = some (.cells #[.int .i64 DP, .slice a n c, .slice (some ⟨bb, boff, none⟩) m c'] 32 (0, 0))) := box_on HD.out b03
    have HZ3 : Hid (w3.heap[w.heap.size + 1]? = some (.cells #[.int .i64 0, .slice none 0 0, .slice none 0 0] 32 (0, 0))) := box_on HZ.out b03
    have bw3 : Below w.heap.size w w3 := hbw.trans (b03.mono (by have := box_lt HD.out; omega))
    have z3 := b03.size
    obtain ⟨x0, x1, x2, -, -, -⟩ := box3_cells HD3.out
    obtain ⟨r0, r1, r2, r3, r4, r5⟩ := box3_cells HZ3.out
    obtain ⟨x3, x4, -, -⟩ := box2_cells HF3.out
    have FIN : Hid (roomy e s = true → ∀ W4, ((w3.setCell ⟨w.heap.size + 1, 0, none⟩ (.int .i64 DP)).setCell ⟨w.heap.size + 1, 1, none⟩ (.slice a n c)).setCell ⟨w.heap.size + 1, 2, none⟩ (.slice (some ⟨bb, boff, none⟩) m c') = W4 → W4.heap[w.heap.size + 1]? = some (.cells #[.int .i64 DP, .slice a n c, .slice (some ⟨bb, boff, none⟩) m c'] 32 (0, 0)) ∧ Below w.heap.size w W4 ∧ RmA W4 d s (.agg #[.int .i64 DP, .slice a n c, .slice (some ⟨bb, boff, none⟩) m c']) true) := fun h W4 hW4 => by
      have o4 : Out (w.heap.size + 1) (w.heap.size + 2) w3 W4 := by subst hW4; exact box3_out _ _ _ _ _
      obtain ⟨hd3, hv3⟩ := HDA.out w3 b03
      refine ⟨by subst hW4; exact box3_set HZ3.out, bw3.trans ((o4.below (by omega)).mono (by omega)), fun f hf => ?_, fun hf => ?_⟩
      · rw [← HGe.out.2.out, rm_yes h] at hf
        cases hf
        exact ⟨rfl, HGe.out.1, h, hd3.away (by rw [HEm.out]; exact hv3) (o4.mono (by omega) (Nat.le_refl _))⟩
      · rw [← HGe.out.2.out, rm_yes h] at hf
        cases hf
    cases hh : hasM (bkL e s) s with
    | true =>
      rw [hh] at hro
      have Hro : Hid (roomy e s = true) := by rw [hro]; rfl
      clear hro
      go_wp2_with fail
      obtain ⟨W4, hW4⟩ : ∃ W4, ((w3.setCell ⟨w.heap.size + 1, 0, none⟩ (.int .i64 DP)).setCell ⟨w.heap.size + 1, 1, none⟩ (.slice a n c)).setCell ⟨w.heap.size + 1, 2, none⟩ (.slice (some ⟨bb, boff, none⟩) m c') = W4 := ⟨_, rfl⟩
      obtain ⟨k1, k2, k3⟩ := FIN.out Hro.out W4 hW4
      rw [hW4]
      obtain ⟨t0, t1, t2, -, -, -⟩ := box3_cells k1
      exact bodyPost_ret (v := .tuple #[.agg #[.int .i64 DP, .slice a n c, .slice (some ⟨bb, boff, none⟩) m c'], .bool true]) (by simp [results, Try.results41, go_sem, t0, t1, t2]) rfl ⟨k2, _, _, rfl, k3⟩
    | false =>
      rw [hh] at hro
      by_cases hl : nl < 4
      · have Hro : Hid (roomy e s = true) := by show roomy e s = true; rw [hro]; simp [hl]
        have hl' : (nl : Int) < 4 := by omega
        clear hro
        go_wp2_with fail
        obtain ⟨W4, hW4⟩ : ∃ W4, ((w3.setCell ⟨w.heap.size + 1, 0, none⟩ (.int .i64 DP)).setCell ⟨w.heap.size + 1, 1, none⟩ (.slice a n c)).setCell ⟨w.heap.size + 1, 2, none⟩ (.slice (some ⟨bb, boff, none⟩) m c') = W4 := ⟨_, rfl⟩
        obtain ⟨k1, k2, k3⟩ := FIN.out Hro.out W4 hW4
        rw [hW4]
        obtain ⟨t0, t1, t2, -, -, -⟩ := box3_cells k1
        exact bodyPost_ret (v := .tuple #[.agg #[.int .i64 DP, .slice a n c, .slice (some ⟨bb, boff, none⟩) m c'], .bool true]) (by simp [results, Try.results41, go_sem, t0, t1, t2]) rfl ⟨k2, _, _, rfl, k3⟩
      · have Hro : Hid (¬ roomy e s = true) := by show ¬ roomy e s = true; rw [hro]; simp; omega
        have hl' : ¬ (nl : Int) < 4 := by omega
        clear hro FIN
        by_cases hq8 : (qn : Int) = 8
        · have hno := HNo.out Hro.out hq8
          have Hno : Hid _ := hno
          clear hno
          go_wp2_with fail
          have o4 := box3_out w3 (w.heap.size + 1) (.int .i64 0) (.slice none 0 0) (.slice none 0 0)
          have k1 := box3_set HZ3.out (x0 := .int .i64 0) (x1 := .slice none 0 0) (x2 := .slice none 0 0)
          obtain ⟨W4, hW4⟩ : ∃ W4, ((w3.setCell ⟨w.heap.size + 1, 0, none⟩ (.int .i64 0)).setCell ⟨w.heap.size + 1, 1, none⟩ (.slice none 0 0)).setCell ⟨w.heap.size + 1, 2, none⟩ (.slice none 0 0) = W4 := ⟨_, rfl⟩
          rw [hW4] at o4 k1 ⊢
          obtain ⟨t0, t1, t2, -, -, -⟩ := box3_cells k1
          exact bodyPost_ret (v := .tuple #[.agg #[.int .i64 0, .slice none 0 0, .slice none 0 0], .bool false]) (by simp [results, Try.results41, go_sem, t0, t1, t2]) rfl ⟨bw3.trans ((o4.below (by omega)).mono (by omega)), _, _, rfl, (by refine ⟨fun f hf => ?_, fun _ => ⟨rfl, rfl⟩⟩; rw [Hno.out] at hf; cases hf)⟩
        · have FIN9 := HFIN9.out Hro.out hq8
          have HCu : Hid _ := HCu'.out hq8
          have HF9x : Hid _ := FIN9
          clear FIN9
          by_cases hqd : (qn : Int) = DP
          · subst hqd
            have hwd := Hwd.out rfl
            have HWd : Hid (wide e s = dbl e) := hwd
            clear hwd
            go_wp2_with fail
            refine (HDb.out w3 _ (HDA.out w3 b03).1).mono ?_
            rintro z w4 ⟨b4, v4, rfl, hd4, hv4⟩
            clear x0 x1 x2 x3 x4 r0 r1 r2 r3 r4 r5
            have hv4' := hv4 w.heap.size (w.heap.size + 2) (by omega) (HDA.out w3 b03).2
            have hd4' := hd4
            obtain ⟨a4, c4, a4', c4', rfl, -, -, -, -⟩ := hd4
            have hm4 : (dbl e).bs.length = m := HEm.out
            obtain ⟨DA, hDA⟩ : ∃ DA, (dbl e).dp = DA := ⟨_, rfl⟩
            obtain ⟨nA, hnA⟩ : ∃ nA, (dbl e).sl.length = nA := ⟨_, rfl⟩
            rw [hm4, hDA, hnA] at hd4' hv4' ⊢
            clear hDA hnA hv4
            have HD4 : Hid (w4.heap[w.heap.size]? = some (.cells #[.int .i64 (qn : Int), .slice a n c, .slice (some ⟨bb, boff, none⟩) m c'] 32 (0, 0))) := box_on HD3.out b4
            have hZ4 := box_on HZ3.out b4
            have hF4 := box_on HF3.out b4
            obtain ⟨x0, x1, x2, f0, f1, f2⟩ := box3_cells HD4.out
            obtain ⟨WA, hWA⟩ : ∃ WA, ((w4.setCell ⟨w.heap.size, 0, none⟩ (.int .i64 DA)).setCell ⟨w.heap.size, 1, none⟩ (.slice a4 nA c4)).setCell ⟨w.heap.size, 2, none⟩ (.slice a4' m c4') = WA := ⟨_, rfl⟩
            have oA : Out w.heap.size (w.heap.size + 1) w4 WA := by subst hWA; exact box3_out _ _ _ _ _
            have oA' : Out w.heap.size (w.heap.size + 2) w4 WA := oA.mono (Nat.le_refl _) (by omega)
            have HBA : Hid (WA.heap[w.heap.size]? = some (.cells #[.int .i64 DA, .slice a4 nA c4, .slice a4' m c4'] 32 (0, 0))) := by subst hWA; exact box3_set HD4.out
            have HFA : Hid (WA.heap[F]? = some (.cells #[.int .i64 (qn : Int), .slice na nl nc] 63 (0, 0))) := box_out hF4 oA (.inr (by omega))
            have HZA : Hid (WA.heap[w.heap.size + 1]? = some (.cells #[.int .i64 0, .slice none 0 0, .slice none 0 0] 32 (0, 0))) := box_out hZ4 oA (.inr (by omega))
            have HDX : Hid (DirAt WA (.agg #[.int .i64 DA, .slice a4 nA c4, .slice a4' m c4']) (wide e s)) := by show DirAt _ _ _; rw [HWd.out]; exact hd4'.away (by rw [hm4]; exact hv4') oA'
            have HVX : Hid (VA w.heap.size (w.heap.size + 2) WA (.agg #[.int .i64 DA, .slice a4 nA c4, .slice a4' m c4']) m) := hv4'.away hd4' hm4 oA'
            have z4 := b4.size
            have zA := oA.size
            have bwA : Below w.heap.size w WA := (bw3.trans (b4.mono (by omega))).trans ((oA.below (by omega)).mono (Nat.le_refl _))
            have hwA : w.heap.size + 2 ≤ WA.heap.size := by omega
            clear hd4' hv4' hZ4 hF4 oA oA'
            go_wp2_with fail
            clear hWA x0 x1 x2 f0 f1 f2
            have FIN9 := HF9x.out
            have SB : Hid (∀ W, Below WA.heap.size WA W → W.cell? ⟨w.heap.size, 0, none⟩ = some (.int .i64 DA) ∧ W.cell? ⟨w.heap.size, 1, none⟩ = some (.slice a4 nA c4) ∧ W.cell? ⟨w.heap.size, 2, none⟩ = some (.slice a4' m c4') ∧ W.cell? ⟨F, 0, none⟩ = some (.int .i64 (qn : Int))) := fun W hW => ⟨(box3_cells (box_on HBA.out hW)).1, (box3_cells (box_on HBA.out hW)).2.1, (box3_cells (box_on HBA.out hW)).2.2.1, (box2_cells (box_on HFA.out hW)).1⟩
            refine wp_region_L (fun W => Below WA.heap.size WA W) 11 12 (by kernel_rfl) rfl (Below.drew (Below.refl _ _)) (fun hS0 => ?_)
            refine tkL (i := 0) (d := 44) (v := ?_) rfl rfl (by kernel_rfl) (by kernel_rfl) (by kernel_rfl) (by kernel_rfl) (fun _ _ _ h => h) (Or.inl ⟨by rfl, by intro wq hSq; obtain ⟨q1, q2, q3, q4⟩ := SB.out wq hSq; go_simp; try with_reducible rfl⟩) (by assumption) ?_
            simp only [List.setIfInBounds_toArray, List.set_cons_zero, List.set_cons_succ]
            refine tkL (i := 1) (d := 45) (v := ?_) rfl rfl (by kernel_rfl) (by kernel_rfl) (by kernel_rfl) (by kernel_rfl) (fun _ _ _ h => h) (Or.inl ⟨by rfl, by intro wq hSq; obtain ⟨q1, q2, q3, q4⟩ := SB.out wq hSq; go_simp; try with_reducible rfl⟩) (by assumption) ?_
            simp only [List.setIfInBounds_toArray, List.set_cons_zero, List.set_cons_succ]
            refine tkL (i := 2) (d := 46) (v := ?_) rfl rfl (by kernel_rfl) (by kernel_rfl) (by kernel_rfl) (by kernel_rfl) (fun _ _ _ h => h) (Or.inl ⟨by rfl, by intro wq hSq; obtain ⟨q1, q2, q3, q4⟩ := SB.out wq hSq; go_simp; try with_reducible rfl⟩) (by assumption) ?_
            simp only [List.setIfInBounds_toArray, List.set_cons_zero, List.set_cons_succ]
            refine tkL (i := 3) (d := 47) (v := ?_) rfl rfl (by kernel_rfl) (by kernel_rfl) (by kernel_rfl) (by kernel_rfl) (fun _ _ _ h => h) (Or.inl ⟨by rfl, by intro wq hSq; obtain ⟨q1, q2, q3, q4⟩ := SB.out wq hSq; go_simp; try with_reducible rfl⟩) (by assumption) ?_
            simp only [List.setIfInBounds_toArray, List.set_cons_zero, List.set_cons_succ]
            refine tkL (i := 4) (d := 48) (v := ?_) rfl rfl (by kernel_rfl) (by kernel_rfl) (by kernel_rfl) (by kernel_rfl) (fun _ _ _ h => h) (Or.inl ⟨by rfl, by intro wq hSq; obtain ⟨q1, q2, q3, q4⟩ := SB.out wq hSq; go_simp; try with_reducible rfl⟩) (by assumption) ?_
            simp only [List.setIfInBounds_toArray, List.set_cons_zero, List.set_cons_succ]
            refine tkL (i := 6) (d := 50) (v := ?_) rfl rfl (by kernel_rfl) (by kernel_rfl) (by kernel_rfl) (by kernel_rfl) (fun _ _ _ h => h) (Or.inl ⟨by rfl, by intro wq hSq; obtain ⟨q1, q2, q3, q4⟩ := SB.out wq hSq; go_simp; try with_reducible rfl⟩) (by assumption) ?_
            simp only [List.setIfInBounds_toArray, List.set_cons_zero, List.set_cons_succ]
            refine tkL (i := 7) (d := 51) (v := ?_) rfl rfl (by kernel_rfl) (by kernel_rfl) (by kernel_rfl) (by kernel_rfl) (fun _ _ _ h => h) (Or.inl ⟨by rfl, by intro wq hSq; obtain ⟨q1, q2, q3, q4⟩ := SB.out wq hSq; go_simp; try with_reducible rfl⟩) (by assumption) ?_
            simp only [List.setIfInBounds_toArray, List.set_cons_zero, List.set_cons_succ]
            refine oneL (i := 5) rfl (by kernel_rfl) (fun K hK => ?_)
            go_simp
            refine (cHa _).mono ?_
            rintro z w6 ⟨rfl, hw6⟩
            subst hw6
            refine hK.out _ _ hS0 (fun _ => ?_)
            clear hK K
            refine oneL (i := 8) rfl (by kernel_rfl) (fun K hK => ?_)
            go_simp
            refine (cLw _).mono ?_
            rintro z w6 ⟨rfl, hw6⟩
            subst hw6
            refine hK.out _ _ hS0 (fun _ => ?_)
            clear hK K
            refine tkL (i := 9) (d := 53) (v := ?_) rfl rfl (by kernel_rfl) (by kernel_rfl) (by kernel_rfl) (by kernel_rfl) (fun _ _ _ h => h) (Or.inl ⟨by rfl, by intro wq hSq; go_simp; try with_reducible rfl⟩) (by assumption) ?_
            simp only [List.setIfInBounds_toArray, List.set_cons_zero, List.set_cons_succ]
            refine oneL (i := 10) rfl (by kernel_rfl) (fun K hK => ?_)
            go_simp
            refine (HCu.out WA.drew _ ((HDX.out).below hS0) (HVX.out.below HDX.out HWm.out hS0) (Nat.le_trans hwA hS0.size)).mono ?_
            rintro z w7 ⟨b7, v7, rfl, hd7, hv7⟩
            have s7 : Below WA.heap.size WA w7 := Below.comp hS0 b7
            refine hK.out _ _ s7 (fun _ => ?_)
            clear hK K
            have HFIN := FIN9 w7 v7 _ _ _ (box_on HBA.out s7) (box_on HZA.out s7) (bwA.trans (s7.mono (by omega))) hd7 hv7
            obtain ⟨a7, c7, a7', c7', D7, n7, m7, rfl, HF9⟩ := HFIN
            have HF9' : Hid _ := HF9
            clear HF9 hd7 hv7
            obtain ⟨k0, k1, k2, k3, k4, k5⟩ := box3_cells (box_on HBA.out s7)
            refine lastL rfl (by kernel_rfl) (by kernel_rfl) (fun K hK => ?_)
            go_simp
            refine hK.out _ _ ?_
            clear hK K
            go_wp2_with fail
            go_round
            case rel => exact (HF9'.out _ rfl).1
            case measure => exact (HF9'.out _ rfl).2
          · have hwn := Hwn.out hqd
            have HDX : Hid (DirAt w3 (.agg #[.int .i64 DP, .slice a n c, .slice (some ⟨bb, boff, none⟩) m c']) (wide e s)) := by show DirAt _ _ _; rw [hwn]; exact (HDA.out w3 b03).1
            have HVX : Hid (VA w.heap.size (w.heap.size + 2) w3 (.agg #[.int .i64 DP, .slice a n c, .slice (some ⟨bb, boff, none⟩) m c']) m) := (HDA.out w3 b03).2
            have hwA : w.heap.size + 2 ≤ w3.heap.size := by omega
            clear hwn
            go_wp2_with fail
            clear x0 x1 x2 x3 x4 r0 r1 r2 r3 r4 r5
            have FIN9 := HF9x.out
            have SB : Hid (∀ W, Below w3.heap.size w3 W → W.cell? ⟨w.heap.size, 0, none⟩ = some (.int .i64 DP) ∧ W.cell? ⟨w.heap.size, 1, none⟩ = some (.slice a n c) ∧ W.cell? ⟨w.heap.size, 2, none⟩ = some (.slice (some ⟨bb, boff, none⟩) m c') ∧ W.cell? ⟨F, 0, none⟩ = some (.int .i64 (qn : Int))) := fun W hW => ⟨(box3_cells (box_on HD3.out hW)).1, (box3_cells (box_on HD3.out hW)).2.1, (box3_cells (box_on HD3.out hW)).2.2.1, (box2_cells (box_on HF3.out hW)).1⟩
            refine wp_region_L (fun W => Below w3.heap.size w3 W) 11 12 (by kernel_rfl) rfl (Below.drew (Below.refl _ _)) (fun hS0 => ?_)
            refine tkL (i := 0) (d := 44) (v := ?_) rfl rfl (by kernel_rfl) (by kernel_rfl) (by kernel_rfl) (by kernel_rfl) (fun _ _ _ h => h) (Or.inl ⟨by rfl, by intro wq hSq; obtain ⟨q1, q2, q3, q4⟩ := SB.out wq hSq; go_simp; try with_reducible rfl⟩) (by assumption) ?_
            simp only [List.setIfInBounds_toArray, List.set_cons_zero, List.set_cons_succ]
            refine tkL (i := 1) (d := 45) (v := ?_) rfl rfl (by kernel_rfl) (by kernel_rfl) (by kernel_rfl) (by kernel_rfl) (fun _ _ _ h => h) (Or.inl ⟨by rfl, by intro wq hSq; obtain ⟨q1, q2, q3, q4⟩ := SB.out wq hSq; go_simp; try with_reducible rfl⟩) (by assumption) ?_
            simp only [List.setIfInBounds_toArray, List.set_cons_zero, List.set_cons_succ]
            refine tkL (i := 2) (d := 46) (v := ?_) rfl rfl (by kernel_rfl) (by kernel_rfl) (by kernel_rfl) (by kernel_rfl) (fun _ _ _ h => h) (Or.inl ⟨by rfl, by intro wq hSq; obtain ⟨q1, q2, q3, q4⟩ := SB.out wq hSq; go_simp; try with_reducible rfl⟩) (by assumption) ?_
            simp only [List.setIfInBounds_toArray, List.set_cons_zero, List.set_cons_succ]
            refine tkL (i := 3) (d := 47) (v := ?_) rfl rfl (by kernel_rfl) (by kernel_rfl) (by kernel_rfl) (by kernel_rfl) (fun _ _ _ h => h) (Or.inl ⟨by rfl, by intro wq hSq; obtain ⟨q1, q2, q3, q4⟩ := SB.out wq hSq; go_simp; try with_reducible rfl⟩) (by assumption) ?_
            simp only [List.setIfInBounds_toArray, List.set_cons_zero, List.set_cons_succ]
            refine tkL (i := 4) (d := 48) (v := ?_) rfl rfl (by kernel_rfl) (by kernel_rfl) (by kernel_rfl) (by kernel_rfl) (fun _ _ _ h => h) (Or.inl ⟨by rfl, by intro wq hSq; obtain ⟨q1, q2, q3, q4⟩ := SB.out wq hSq; go_simp; try with_reducible rfl⟩) (by assumption) ?_
            simp only [List.setIfInBounds_toArray, List.set_cons_zero, List.set_cons_succ]
            refine tkL (i := 6) (d := 50) (v := ?_) rfl rfl (by kernel_rfl) (by kernel_rfl) (by kernel_rfl) (by kernel_rfl) (fun _ _ _ h => h) (Or.inl ⟨by rfl, by intro wq hSq; obtain ⟨q1, q2, q3, q4⟩ := SB.out wq hSq; go_simp; try with_reducible rfl⟩) (by assumption) ?_
            simp only [List.setIfInBounds_toArray, List.set_cons_zero, List.set_cons_succ]
            refine tkL (i := 7) (d := 51) (v := ?_) rfl rfl (by kernel_rfl) (by kernel_rfl) (by kernel_rfl) (by kernel_rfl) (fun _ _ _ h => h) (Or.inl ⟨by rfl, by intro wq hSq; obtain ⟨q1, q2, q3, q4⟩ := SB.out wq hSq; go_simp; try with_reducible rfl⟩) (by assumption) ?_
            simp only [List.setIfInBounds_toArray, List.set_cons_zero, List.set_cons_succ]
            refine oneL (i := 5) rfl (by kernel_rfl) (fun K hK => ?_)
            go_simp
            refine (cHa _).mono ?_
            rintro z w6 ⟨rfl, hw6⟩
            subst hw6
            refine hK.out _ _ hS0 (fun _ => ?_)
            clear hK K
            refine oneL (i := 8) rfl (by kernel_rfl) (fun K hK => ?_)
            go_simp
            refine (cLw _).mono ?_
            rintro z w6 ⟨rfl, hw6⟩
            subst hw6
            refine hK.out _ _ hS0 (fun _ => ?_)
            clear hK K
            refine tkL (i := 9) (d := 53) (v := ?_) rfl rfl (by kernel_rfl) (by kernel_rfl) (by kernel_rfl) (by kernel_rfl) (fun _ _ _ h => h) (Or.inl ⟨by rfl, by intro wq hSq; go_simp; try with_reducible rfl⟩) (by assumption) ?_
            simp only [List.setIfInBounds_toArray, List.set_cons_zero, List.set_cons_succ]
            refine oneL (i := 10) rfl (by kernel_rfl) (fun K hK => ?_)
            go_simp
            refine (HCu.out w3.drew _ ((HDX.out).below hS0) (HVX.out.below HDX.out HWm.out hS0) (Nat.le_trans hwA hS0.size)).mono ?_
            rintro z w7 ⟨b7, v7, rfl, hd7, hv7⟩
            have s7 : Below w3.heap.size w3 w7 := Below.comp hS0 b7
            refine hK.out _ _ s7 (fun _ => ?_)
            clear hK K
            have HFIN := FIN9 w7 v7 _ _ _ (box_on HD3.out s7) (box_on HZ3.out s7) (bw3.trans (s7.mono (by omega))) hd7 hv7
            obtain ⟨a7, c7, a7', c7', D7, n7, m7, rfl, HF9⟩ := HFIN
            have HF9' : Hid _ := HF9
            clear HF9 hd7 hv7
            obtain ⟨k0, k1, k2, k3, k4, k5⟩ := box3_cells (box_on HD3.out s7)
            refine lastL rfl (by kernel_rfl) (by kernel_rfl) (fun K hK => ?_)
            go_simp
            refine hK.out _ _ ?_
            clear hK K
            go_wp2_with fail
            go_round
            case rel => exact (HF9'.out _ rfl).1
            case measure => exact (HF9'.out _ rfl).2
end Go.Proofs.Ytfmgaenedkjmkaa
