import Derived.Test.YtienhdlhlddemaaTF
/- The specification: a picture taken. -/
namespace Go.Proofs.Ytienhdlhlddemaa
open Go.ChangeShapes Go.WideShapes Go.ChangeAt Go.RowKit
set_option linter.unusedVariables false
open Hd

attribute [local go_sem] Oper.semAt_some

/-- What a picture taken leaves. -/
def tkV (c : Co) (p : Nat) : Co := ⟨oneMore c.cs (gi c.rs p), c.rs ++ [gi c.rs p], c.lv⟩
theorem gI_kids {c : Co} (hg : gI c = true) (i : Nat) (hi : i < c.cs.length) : (gc c.cs i).kd.length ≤ 4 := by
  have ho := (gI_parts hg).2.1 i hi
  unfold okC at ho
  split at ho
  · simp at ho; rw [ho.2]; simp
  · split at ho
    · rename_i h; rw [h]; simp
    · simp at ho; omega
theorem gI_ctle {c : Co} (hg : gI c = true) (i : Nat) (hi : i < c.cs.length) : (gc c.cs i).ct ≤ 1000 := by
  obtain ⟨-, hok, hro, hm⟩ := gI_parts hg
  obtain ⟨-, -, h8, hl1, hl3⟩ := gI_few' hg
  have h := mt_bd hok hro (zer_nn c.cs.length) (zer_len _) i
  have hT := TT4 (l := c.lv.toNat) (by omega)
  have e : gi (c.rs.foldl (mt c.cs c.lv.toNat) (zer c.cs.length)) i = (gc c.cs i).ct := by
    have : c.rs.foldl (mt c.cs c.lv.toNat) (zer c.cs.length) = met c c.rs := rfl
    rw [this, hm, gi_ct hi]
  rw [e, zer_gi] at h
  have : c.rs.length * TT 4 c.lv.toNat ≤ 8 * 21 := Nat.mul_le_mul h8 hT
  omega
theorem gI_root {c : Co} (hg : gI c = true) {p : Nat} (hp : p < c.rs.length) : gi c.rs p = -1 ∨ ∃ q : Nat, gi c.rs p = (q : Int) ∧ q < c.cs.length := by
  obtain ⟨-, hok, hro, hm⟩ := gI_parts hg
  obtain ⟨-, -, -, hl1, hl3⟩ := gI_few' hg
  have ho := hro (gi c.rs p) (by rw [gi_eq hp]; exact List.getElem_mem _)
  obtain ⟨l, hl⟩ : ∃ l, c.lv.toNat = l + 1 := ⟨c.lv.toNat - 1, by omega⟩
  rw [hl] at ho
  rcases isO_succ.1 ho with h | ⟨hr, -, -, -⟩
  · exact .inl h
  · exact .inr ⟨(gi c.rs p).toNat, by have := hr.1; omega, by have := hr.1; have := hr.2; omega⟩
set_option maxRecDepth 20000 in
set_option maxHeartbeats 4000000 in
theorem specTake_yes (v : Value) (c : Co) (p : Nat) (w : World) (hc : CowAt w v c) (hf : FewW c) (hs : Sml c) (hg : gI c = true) (hp : p < c.rs.length) (h8 : c.rs.length ≠ 8) :
    Calls Try.prog 6 #[v, .int .i64 (p : Int)] w fun e w' => Below w.heap.size w w' ∧ ∃ v', e = .returned (.tuple #[v', .bool true]) ∧ CowAt w' v' (tkV c p) := by
  have cG := fun W h => specGood_any v c W (hc.below h) hf hs
  have HC : Hid (∀ W, Below w.heap.size w W → CowAt W v c) := fun W h => hc.below h
  have HG : Hid (gI c = true) := hg
  obtain ⟨hn80, hm1, hm8, hl1, hl3⟩ := gI_few' hg
  have hkr := gI_root hg hp
  obtain ⟨a, ca, a', ca', rfl, -, -, -, -⟩ := hc
  rw [hg] at cG
  clear hf hs hg
  unfold kv at *
  obtain ⟨n, hn⟩ : ∃ n, c.cs.length = n := ⟨_, rfl⟩
  have Hn : Hid (c.cs.length = n) := hn
  obtain ⟨m, hm⟩ : ∃ m, c.rs.length = m := ⟨_, rfl⟩
  have Hm : Hid (c.rs.length = m) := hm
  obtain ⟨lv, hlv⟩ : ∃ lv, c.lv = lv := ⟨_, rfl⟩
  have Hlv : Hid (c.lv = lv) := hlv
  obtain ⟨kx, hkx⟩ : ∃ kx, gi c.rs p = kx := ⟨_, rfl⟩
  have HKx : Hid (gi c.rs p = kx) := hkx
  rw [hn, hm, hlv] at cG HC
  rw [hn] at hn80 hkr
  rw [hm] at hm1 hm8 hp h8
  rw [hlv] at hl1 hl3
  rw [hkx] at hkr
  rw [hn, hm, hlv]
  clear hn hm hlv hkx
  obtain ⟨z, hz⟩ : ∃ z, w.heap.size = z := ⟨_, rfl⟩
  have Hz : Hid (w.heap.size = z) := hz
  obtain ⟨W0, hW0⟩ : ∃ W0, (w.alloc (.cells #[.slice a n ca, .slice a' m ca', .int .i64 lv] 29)).alloc (.cells #[.slice none 0 0, .slice none 0 0, .int .i64 0] 29) = W0 := ⟨_, rfl⟩
  have q0 : Below w.heap.size w W0 := by subst hW0; exact ba2 _ _ _
  obtain ⟨B1, B2⟩ : W0.heap[z]? = some (.cells #[.slice a n ca, .slice a' m ca', .int .i64 lv] 29 (0, 0)) ∧ W0.heap[z + 1]? = some (.cells #[.slice none 0 0, .slice none 0 0, .int .i64 0] 29 (0, 0)) := by subst hW0 hz; exact al2 _ _ _
  have HB1 : Hid _ := B1
  have HB2 : Hid _ := B2
  obtain ⟨i0, i1, i2⟩ := box3_one B1
  clear B1 B2
  have cI1 := fun W => l1In_yes (x := (p : Int)) (lo := 0) (hi := (m : Int) - 1) (by omega) (by omega) W
  have hmn : ¬ (m : Int) = 8 := by omega
  go_enter Try.func6, Try.ntmps6
  go_wp2_with fail
  refine (cG _ q0).mono ?_
  rintro e w1 ⟨rfl, b1⟩
  clear i0 i1 i2 hW0 cG
  have g1 := Below.comp q0 b1
  have K1 : Hid (w1.heap[z]? = _) := box_on HB1.out b1
  obtain ⟨i0, i1, i2⟩ := box3_one K1.out
  have hz1 : z + 1 < w1.heap.size := box_lt (box_on HB2.out b1)
  go_wp2_with fail
  refine (cI1 _).mono ?_
  rintro e w1' ⟨rfl, hw⟩
  have hw' := hw.symm
  subst hw'
  clear hw cI1
  go_wp2_with fail
  have hk4 := gI_kids HG.out
  refine (own14_any _ c w1 (HC.out _ g1) (by rw [Hn.out]; exact hn80) hk4 (by rw [Hm.out]; exact hm8)).mono ?_
  rintro e w2 ⟨b2, M, U, R, rfl, hu, hr, hM⟩
  obtain ⟨ux, uc, rfl, -, -⟩ := hu.ces
  obtain ⟨rx, rc, rfl, -, -⟩ := hr.ints
  rw [Hn.out] at hu ⊢
  rw [Hm.out] at hr ⊢
  rw [Hlv.out]
  clear i0 i1 i2 hk4
  have K2 : Hid (w2.heap[z]? = some (.cells #[.slice a n ca, .slice a' m ca', .int .i64 lv] 29 (0, 0))) := box_on K1.out b2
  have R2 : Hid (w2.heap[z + 1]? = some (.cells #[.slice none 0 0, .slice none 0 0, .int .i64 0] 29 (0, 0))) := box_on (box_on HB2.out b1) b2
  obtain ⟨x0, x1, x2, f0, f1, f2⟩ := box3_cells K2.out
  obtain ⟨W3, hW3⟩ : ∃ W3, ((w2.setCell ⟨z, 0, none⟩ (.slice ux n uc)).setCell ⟨z, 1, none⟩ (.slice rx m rc)).setCell ⟨z, 2, none⟩ (.int .i64 lv) = W3 := ⟨_, rfl⟩
  have o3 : Out z (z + 1) w2 W3 := by subst hW3; exact (((Out.refl _ _ _).setCell (by omega) (by omega) _ _).setCell (by omega) (by omega) _ _).setCell (by omega) (by omega) _ _
  have K3 : Hid (W3.heap[z]? = some (.cells #[.slice ux n uc, .slice rx m rc, .int .i64 lv] 29 (0, 0))) := by subst hW3; exact box3_set K2.out
  have R3 : Hid (W3.heap[z + 1]? = some (.cells #[.slice none 0 0, .slice none 0 0, .int .i64 0] 29 (0, 0))) := box_out R2.out o3 (by omega)
  have g3 : Below w.heap.size w W3 := (Below.comp g1 b2).trans ((o3.below (Nat.le_of_lt (box_lt K2.out))).mono (by omega))
  have HU3 : Hid (OwnCk W3 w1.heap.size M (.slice ux n uc) c.cs) := hu.outT o3 (by omega) K2.out (by decide)
  have HR3 : Hid (OwnI W3 M (.slice rx m rc) c.rs) := owns_outS hr o3 (by omega)
  obtain ⟨rx', rc', e3, -, hri⟩ := OwnI.ints HR3.out
  rw [Hm.out] at e3
  simp only [Value.slice.injEq, true_and] at e3
  obtain ⟨rfl, rfl⟩ := e3
  obtain ⟨rb, roff, rfl, hcell⟩ := hri (by rw [Hm.out]; omega)
  have t0 : W3.cell? ⟨rb, roff + p, none⟩ = some (.int .i64 (gi c.rs p)) := hcell p (by rw [Hm.out]; exact hp)
  rw [HKx.out] at t0
  have hpm : (p : Int) < (m : Int) := by omega
  clear hri hcell hu hr
  obtain ⟨W4, hW4⟩ : ∃ W4, W3.alloc (.cells #[.int .i64 kx] 3) = W4 := ⟨_, rfl⟩
  have b4 : Below W3.heap.size W3 W4 := by subst hW4; exact below_alloc _ _
  have HU4 : Hid (OwnCk W4 w1.heap.size M (.slice ux n uc) c.cs) := HU3.out.below b4
  have own4 : W4.ownsRow M 3 1 (.slice (some ⟨rb, roff, none⟩) m rc) m (cis c.rs) := by have h := owns_below HR3.out b4; rwa [Hm.out] at h
  have sr4 := src_new W3 (.int .i64 kx) 3
  rw [hW4] at sr4
  have z4 : M ≤ W4.heap.size := by
    have h := b4.size
    have h2 : M ≤ W3.heap.size := by
      rcases HR3.out.2 with ⟨e, h0⟩ | ⟨g, cap, cur, e, hb, hg, -⟩
      · rw [Hm.out] at h0; omega
      · exact Nat.le_trans hb (Nat.le_of_lt (box_lt hg))
    omega
  have K4 : Hid (W4.heap[z]? = some (.cells #[.slice ux n uc, .slice (some ⟨rb, roff, none⟩) m rc, .int .i64 lv] 29 (0, 0))) := box_on K3.out b4
  have R4 : Hid (W4.heap[z + 1]? = some (.cells #[.slice none 0 0, .slice none 0 0, .int .i64 0] 29 (0, 0))) := box_on R3.out b4
  have g4 : Hid (Below w.heap.size w W4) := Below.comp g3 b4
  have hMz : z + 1 < M := by omega
  have HM : Hid (w.heap.size ≤ M ∧ z + 1 < w1.heap.size) := ⟨by omega, hz1⟩
  have KEY7 : Hid (∀ (v7 : Value) (w7 : World), w7.ownsRow M 3 1 v7 (m + 1) (cis c.rs ++ [.int .i64 kx]) → W4.grownBy w7 (Value.slice (some ⟨rb, roff, none⟩) m rc).ownBlock →
      ∃ y7 c7 W8, v7 = .slice y7 (m + 1) c7 ∧ (w7.cell? ⟨z, 1, none⟩ = some (.slice (some ⟨rb, roff, none⟩) m rc) ∧ w7.frozen? ⟨z, 1, none⟩ = false) ∧ w7.setCell ⟨z, 1, none⟩ (.slice y7 (m + 1) c7) = W8 ∧
        (W8.cell? ⟨z, 0, none⟩ = some (.slice ux n uc) ∧ W8.cell? ⟨z, 1, none⟩ = some (.slice y7 (m + 1) c7) ∧ W8.cell? ⟨z, 2, none⟩ = some (.int .i64 lv)) ∧
        Hid (W8.heap[z]? = some (.cells #[.slice ux n uc, .slice y7 (m + 1) c7, .int .i64 lv] 29 (0, 0)) ∧ W8.heap[z + 1]? = some (.cells #[.slice none 0 0, .slice none 0 0, .int .i64 0] 29 (0, 0)) ∧ Below w.heap.size w W8 ∧ OwnCk W8 w1.heap.size M (.slice ux n uc) c.cs ∧ W8.ownsRow M 3 1 (.slice y7 (m + 1) c7) (m + 1) (cis (c.rs ++ [kx])))) := fun v7 w7 own7 gr7 => by
    obtain ⟨y7, c7, rfl⟩ := owns_form own7
    have b7 : Below M W4 w7 := grown_on (Below.refl _ _) z4 own4 gr7
    have X7 : w7.heap[z]? = _ := (b7.block z (by omega)).trans K4.out
    have Y7 : w7.heap[z + 1]? = _ := (b7.block (z + 1) (by omega)).trans R4.out
    obtain ⟨x0, x1, x2, f0, f1, f2⟩ := box3_cells X7
    have o8 : Out z (z + 1) w7 (w7.setCell ⟨z, 1, none⟩ (.slice y7 (m + 1) c7)) := out_setCell _ _ _ _
    have X8 : (w7.setCell ⟨z, 1, none⟩ (.slice y7 (m + 1) c7)).heap[z]? = some (.cells #[.slice ux n uc, .slice y7 (m + 1) c7, .int .i64 lv] 29 (0, 0)) := block_set X7
    refine ⟨y7, c7, _, rfl, ⟨x1, f1⟩, rfl, box3_one X8, X8, box_out Y7 o8 (by omega), (g4.out.trans (b7.mono HM.out.1)).trans ((o8.below (Nat.le_of_lt (box_lt X7))).mono (by have := Hz.out; omega)), (HU4.out.grown own4 gr7 z4).outT o8 (by omega) X7 (by decide), owns_outS ?_ o8 (by omega)⟩
    rw [cis_app]
    exact own7
  have FIN : Hid (∀ (W9 : World) (L' : List Ce) (y7 : Option Addr) (c7 : Nat), L'.length = n → W9.heap[z + 1]? = some (.cells #[.slice none 0 0, .slice none 0 0, .int .i64 0] 29 (0, 0)) → Below w.heap.size w W9 → OwnCk W9 w1.heap.size M (.slice ux n uc) L' → W9.ownsRow M 3 1 (.slice y7 (m + 1) c7) (m + 1) (cis (c.rs ++ [kx])) →
      ∃ W11, ((W9.setCell ⟨z + 1, 0, none⟩ (.slice ux n uc)).setCell ⟨z + 1, 1, none⟩ (.slice y7 (m + 1) c7)).setCell ⟨z + 1, 2, none⟩ (.int .i64 lv) = W11 ∧
        (W9.cell? ⟨z + 1, 0, none⟩ = some (.slice none 0 0) ∧ W9.cell? ⟨z + 1, 1, none⟩ = some (.slice none 0 0) ∧ W9.cell? ⟨z + 1, 2, none⟩ = some (.int .i64 0) ∧ W9.frozen? ⟨z + 1, 0, none⟩ = false ∧ W9.frozen? ⟨z + 1, 1, none⟩ = false ∧ W9.frozen? ⟨z + 1, 2, none⟩ = false) ∧
        (W11.cell? ⟨z + 1, 0, none⟩ = some (.slice ux n uc) ∧ W11.cell? ⟨z + 1, 1, none⟩ = some (.slice y7 (m + 1) c7) ∧ W11.cell? ⟨z + 1, 2, none⟩ = some (.int .i64 lv)) ∧
        Hid (Below w.heap.size w W11 ∧ CowAt W11 (.agg #[.slice ux n uc, .slice y7 (m + 1) c7, .int .i64 lv]) ⟨L', c.rs ++ [kx], lv⟩)) := fun W9 L' y7 c7 hL hB hb hC hI => by
    have o11 : Out (z + 1) (z + 1 + 1) W9 (((W9.setCell ⟨z + 1, 0, none⟩ (.slice ux n uc)).setCell ⟨z + 1, 1, none⟩ (.slice y7 (m + 1) c7)).setCell ⟨z + 1, 2, none⟩ (.int .i64 lv)) := (((Out.refl _ _ _).setCell (by omega) (by omega) _ _).setCell (by omega) (by omega) _ _).setCell (by omega) (by omega) _ _
    have X11 := box3_set (x0 := .slice ux n uc) (x1 := .slice y7 (m + 1) c7) (x2 := .int .i64 lv) hB
    have hC2 := hC.outT o11 (by have := HM.out.2; omega) hB (by decide)
    have hl : (c.rs ++ [kx]).length = m + 1 := by rw [List.length_append, Hm.out]; rfl
    have hI2 : OwnI (((W9.setCell ⟨z + 1, 0, none⟩ (.slice ux n uc)).setCell ⟨z + 1, 1, none⟩ (.slice y7 (m + 1) c7)).setCell ⟨z + 1, 2, none⟩ (.int .i64 lv)) M (.slice y7 (m + 1) c7) (c.rs ++ [kx]) := by
      have h := owns_outS hI o11 (by omega)
      show World.ownsRow _ M 3 1 _ (c.rs ++ [kx]).length _
      rw [hl]
      exact h
    obtain ⟨a1, k1, e1, h1, h2⟩ := hC2.ces
    obtain ⟨a2, k2, e2, h3, h4⟩ := hI2.ints
    rw [hL] at e1
    rw [hl] at e2
    simp only [Value.slice.injEq, true_and] at e1 e2
    obtain ⟨rfl, rfl⟩ := e1
    obtain ⟨rfl, rfl⟩ := e2
    refine ⟨_, rfl, box3_cells hB, box3_one X11, hb.trans ((o11.below (Nat.le_of_lt (box_lt hB))).mono (by have := Hz.out; omega)), ux, uc, y7, c7, ?_, h1, h3, h2, h4⟩
    show _ = Value.agg #[.slice ux L'.length uc, .slice y7 (c.rs ++ [kx]).length c7, .int .i64 lv]
    rw [hL, hl]
  obtain ⟨y0, y1, y2⟩ := box3_one K3.out
  obtain ⟨y3, y4, y5⟩ := box3_one K4.out
  rcases hkr with hk1 | ⟨q, hk1, hqn⟩
  · subst hk1
    have HDe : Hid (tkV c p = ⟨c.cs, c.rs ++ [-1], lv⟩) := by show _ = _; unfold tkV; rw [HKx.out, Hlv.out]; rfl
    go_wp2_with (at_builtin; refine wpList_append_src rfl _ _ 23 rfl M 3 _ 1 8 Try.underlying23 info3 rfl (by decide) (.slice (some ⟨rb, roff, none⟩) m rc) m (cis c.rs) rfl own4 (some ⟨W3.heap.size, 0, none⟩) 1 1 [.int .i64 (-1)] rfl rfl sr4 (by simp [Value.oneCell']) (by omega) (by decide) z4 ?_; intro v7 w7 own7 gr7; obtain ⟨y7, c7, W8, rfl, ⟨e0, e1⟩, hW8, ⟨e2, e3, e4⟩, H8⟩ := KEY7.out v7 w7 own7 gr7; obtain ⟨W11, hW11, ⟨r0, r1, r2, r3, r4, r5⟩, ⟨t5, t6, t7⟩, H11⟩ := FIN.out W8 c.cs y7 c7 Hn.out H8.out.2.1 H8.out.2.2.1 H8.out.2.2.2.1 H8.out.2.2.2.2; clear own7 gr7)
    exact bodyPost_ret (v := .tuple #[.agg #[.slice ux n uc, .slice y7 (m + 1) c7, .int .i64 lv], .bool true]) (by simp [results, Try.results6, go_sem, t5, t6, t7]) rfl ⟨H11.out.1, _, rfl, by rw [HDe.out]; exact H11.out.2⟩
  · subst hk1
    have HDe : Hid (tkV c p = ⟨oneMore c.cs (q : Int), c.rs ++ [(q : Int)], lv⟩) := by show _ = _; unfold tkV; rw [HKx.out, Hlv.out]
    have hct0 := gI_ct HG.out q (by rw [Hn.out]; exact hqn)
    have hct1 := gI_ctle HG.out q (by rw [Hn.out]; exact hqn)
    have hqn' : (q : Int) < (n : Int) := by omega
    have hq0 : ¬ (q : Int) < 0 := by omega
    have KEY9 : Hid (∀ W8 y7 c7, (W8.heap[z]? = some (.cells #[.slice ux n uc, .slice y7 (m + 1) c7, .int .i64 lv] 29 (0, 0)) ∧ W8.heap[z + 1]? = some (.cells #[.slice none 0 0, .slice none 0 0, .int .i64 0] 29 (0, 0)) ∧ Below w.heap.size w W8 ∧ OwnCk W8 w1.heap.size M (.slice ux n uc) c.cs ∧ W8.ownsRow M 3 1 (.slice y7 (m + 1) c7) (m + 1) (cis (c.rs ++ [(q : Int)]))) →
        ∃ g W9, ux = some ⟨g, 0, none⟩ ∧ (W8.cell? ⟨g, q * 3, none⟩ = some (.int .i64 (gc c.cs q).ct) ∧ W8.frozen? ⟨g, q * 3, none⟩ = false) ∧ W8.setCell ⟨g, q * 3, none⟩ (.int .i64 ((gc c.cs q).ct + 1)) = W9 ∧
          (W9.cell? ⟨z, 0, none⟩ = some (.slice ux n uc) ∧ W9.cell? ⟨z, 1, none⟩ = some (.slice y7 (m + 1) c7) ∧ W9.cell? ⟨z, 2, none⟩ = some (.int .i64 lv)) ∧
          ∃ W11, ((W9.setCell ⟨z + 1, 0, none⟩ (.slice ux n uc)).setCell ⟨z + 1, 1, none⟩ (.slice y7 (m + 1) c7)).setCell ⟨z + 1, 2, none⟩ (.int .i64 lv) = W11 ∧
            (W9.cell? ⟨z + 1, 0, none⟩ = some (.slice none 0 0) ∧ W9.cell? ⟨z + 1, 1, none⟩ = some (.slice none 0 0) ∧ W9.cell? ⟨z + 1, 2, none⟩ = some (.int .i64 0) ∧ W9.frozen? ⟨z + 1, 0, none⟩ = false ∧ W9.frozen? ⟨z + 1, 1, none⟩ = false ∧ W9.frozen? ⟨z + 1, 2, none⟩ = false) ∧
            (W11.cell? ⟨z + 1, 0, none⟩ = some (.slice ux n uc) ∧ W11.cell? ⟨z + 1, 1, none⟩ = some (.slice y7 (m + 1) c7) ∧ W11.cell? ⟨z + 1, 2, none⟩ = some (.int .i64 lv)) ∧
            Hid (Below w.heap.size w W11 ∧ CowAt W11 (.agg #[.slice ux n uc, .slice y7 (m + 1) c7, .int .i64 lv]) ⟨oneMore c.cs (q : Int), c.rs ++ [(q : Int)], lv⟩)) := fun W8 y7 c7 ⟨h1, h2, h3, h4, h5⟩ => by
      obtain ⟨g, e1, hgB, ⟨cs, hcs⟩, ⟨e2, e3⟩, hmore⟩ := h4.more Hn.out hqn
      have o9 : Out g (g + 1) W8 (W8.setCell ⟨g, q * 3, none⟩ (.int .i64 ((gc c.cs q).ct + 1))) := out_setCell _ _ _ _
      have hz2 := HM.out.2
      have X9 := box_out h1 o9 (by omega)
      have Y9 := box_out h2 o9 (by omega)
      have hI9 : (W8.setCell ⟨g, q * 3, none⟩ (.int .i64 ((gc c.cs q).ct + 1))).ownsRow M 3 1 (.slice y7 (m + 1) c7) (m + 1) (cis (c.rs ++ [(q : Int)])) := by
        refine ⟨h5.1, ?_⟩
        rcases h5.2 with h6 | ⟨g', cap, cur, k1, k2, k3, k4⟩
        · exact .inl h6
        · refine .inr ⟨g', cap, cur, k1, k2, box_out k3 o9 ?_, k4⟩
          have : g' ≠ g := fun e => by
            subst e
            rw [hcs] at k3
            simp at k3
          omega
      obtain ⟨W11, k1, k2, k3, k4⟩ := FIN.out _ (oneMore c.cs (q : Int)) y7 c7 (by rw [oneMore_len, Hn.out]) Y9 (h3.trans ((o9.below (Nat.le_of_lt (box_lt hcs))).mono (by have := Hz.out; omega))) hmore hI9
      exact ⟨g, _, e1, ⟨e2, e3⟩, rfl, box3_one X9, W11, k1, k2, k3, k4⟩
    go_wp2_with (at_builtin; refine wpList_append_src rfl _ _ 23 rfl M 3 _ 1 8 Try.underlying23 info3 rfl (by decide) (.slice (some ⟨rb, roff, none⟩) m rc) m (cis c.rs) rfl own4 (some ⟨W3.heap.size, 0, none⟩) 1 1 [.int .i64 (q : Int)] rfl rfl sr4 (by simp [Value.oneCell']) (by omega) (by decide) z4 ?_; intro v7 w7 own7 gr7; obtain ⟨y7, c7, W8, rfl, ⟨e0, e1⟩, hW8, ⟨e2, e3, e4⟩, H8⟩ := KEY7.out v7 w7 own7 gr7; obtain ⟨g, W9, hux, ⟨u0, u1⟩, hW9, ⟨u2, u3, u4⟩, W11, hW11, ⟨r0, r1, r2, r3, r4, r5⟩, ⟨t5, t6, t7⟩, H11⟩ := KEY9.out W8 y7 c7 H8.out; subst hux; clear own7 gr7)
    exact bodyPost_ret (v := .tuple #[.agg #[.slice (some ⟨g, 0, none⟩) n uc, .slice y7 (m + 1) c7, .int .i64 lv], .bool true]) (by simp [results, Try.results6, go_sem, t5, t6, t7]) rfl ⟨H11.out.1, _, rfl, by rw [HDe.out]; exact H11.out.2⟩
end Go.Proofs.Ytienhdlhlddemaa
