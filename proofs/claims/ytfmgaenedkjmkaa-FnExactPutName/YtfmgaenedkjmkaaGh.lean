import Derived.Test.YtfmgaenedkjmkaaGf
/- The specification: a directory of one's own, that goes on its way (C6's walk, told in full). -/
namespace Go.Proofs.Ytfmgaenedkjmkaa
open Go.ChangeShapes Go.WideShapes Go.ChangeAt Go.RowKit
set_option linter.unusedVariables false
open Hd

attribute [local go_sem] Oper.semAt_some

theorem GB.base {w : World} {B B' : Nat} {v : Value} {N : List Bk} {kb : Nat → Nat} (h : GB w B v N kb) (hB : B' ≤ B) : GB w B' v N kb := by
  obtain ⟨⟨xs, ho, hx⟩, hd⟩ := h
  exact ⟨⟨xs, owns_low ho hB, fun i hi => by obtain ⟨h0, p, h1, h2⟩ := hx i hi; exact ⟨h0, p, h1, h2.mono hB (Nat.le_refl _)⟩⟩, hd⟩
/-- Two boxes of directories beside each other are written. -/
theorem KeepT.two {w w' : World} {b : Nat} {c0 c1 : Array Value} (h0 : w.heap[b]? = some (.cells c0 32 (0, 0))) (h1 : w.heap[b + 1]? = some (.cells c1 32 (0, 0))) (ho : Out b (b + 2) w w') : KeepT w w' :=
  ⟨ho.size, fun g c t hg ht => ho.block g (box_lt hg) (by
    by_cases e1 : g = b
    · rw [e1, h0] at hg
      simp only [Option.some.injEq, Obj.cells.injEq] at hg
      obtain ⟨-, rfl, -⟩ := hg
      rcases ht with ht | ht <;> exact absurd ht (by decide)
    · by_cases e2 : g = b + 1
      · rw [e2, h1] at hg
        simp only [Option.some.injEq, Obj.cells.injEq] at hg
        obtain ⟨-, rfl, -⟩ := hg
        rcases ht with ht | ht <;> exact absurd ht (by decide)
      · omega)⟩
set_option maxHeartbeats 4000000 in
theorem l8OwnG_any (v : Value) (d : Dr) (w : World) (hn0 : d.sl ≠ []) (hsm : Sml d) (hfn : ∀ i, i < d.bs.length → (gb d.bs i).ns.length ≤ 1000000) (hc : DirAt w v d) :
    Calls Try.prog 31 #[v] w fun e w' => Below w.heap.size w w' ∧ ∃ v' kb, e = .returned v' ∧ SpO w' w.heap.size v' d kb := by
  have HN0 : Hid (d.sl ≠ []) := hn0
  obtain ⟨a, ca, a', ca', rfl, hca, hca', ha, ha'⟩ := hc
  have hisrc := At.src ha
  have HBk : Hid (Bks w a' d.bs) := ha'
  have hs1 := hsm.1
  have hs2 := hsm.2.1
  clear ha ha' hsm
  unfold dv at *
  obtain ⟨DP, hDP⟩ : ∃ DP, d.dp = DP := ⟨_, rfl⟩
  obtain ⟨n, hn⟩ : ∃ n, d.sl.length = n := ⟨_, rfl⟩
  obtain ⟨m, hm⟩ : ∃ m, d.bs.length = m := ⟨_, rfl⟩
  have HDP : Hid _ := hDP
  have Hn : Hid _ := hn
  have Hm : Hid _ := hm
  have hil : (cis d.sl).length = n := by rw [cis_len, hn]
  rw [hDP, hn, hm]
  rw [hn] at hs1 hisrc hca
  rw [hm] at hs2 hca' hfn
  clear hDP hn hm
  obtain ⟨W0, hW0⟩ : ∃ W0, (w.alloc (.cells #[.int .i64 DP, .slice a n ca, .slice a' m ca'] 32)).alloc Z27 = W0 := ⟨_, rfl⟩
  have q0 : Below w.heap.size w W0 := by subst hW0; exact ba2 _ _ _
  obtain ⟨B1, B2⟩ : W0.heap[w.heap.size]? = some (.cells #[.int .i64 DP, .slice a n ca, .slice a' m ca'] 32 (0, 0)) ∧ W0.heap[w.heap.size + 1]? = some (.cells #[.int .i64 0, .slice none 0 0, .slice none 0 0] 32 (0, 0)) := by subst hW0; exact al2 _ _ _
  have HA : Hid _ := B1
  have HB : Hid _ := B2
  have z0 := box_lt B2
  clear B1 B2
  obtain ⟨W1, hW1⟩ : ∃ W1, W0.alloc (.cells #[] 3) = W1 := ⟨_, rfl⟩
  have b1 : Below W0.heap.size W0 W1 := by subst hW1; exact below_alloc _ _
  have own0 : W1.ownsRow W0.heap.size 3 1 (.slice (some ⟨W0.heap.size, 0, none⟩) 0 0) 0 [] := by subst hW1; exact own_empty _ _ _
  have hz1 := b1.size
  have g1 := Below.comp q0 b1
  have st1 : n = 0 ∨ ∃ ad, a = some ad ∧ ∀ j u, (cis d.sl)[j]? = some u → W1.cell? (ad.add j) = some u := by
    rcases hisrc with h | ⟨ad, e, h⟩
    · exact .inl h
    · exact .inr ⟨ad, e, fun j u hj => by have := h j u hj; rw [g1.cell (p := ad.add j) (World.block_lt_of_cell? w _ this)]; exact this⟩
  obtain ⟨x0, x1, x2, -, -, -⟩ := box3_cells (box_on HA.out b1)
  clear hisrc
  go_enter Try.func31, Try.ntmps31
  go_wp2_with (first
      | (at_builtin; refine wpList_append_src rfl _ _ 22 rfl W0.heap.size 3 _ 1 8 Try.underlying22 info3 rfl (by decide) (.slice (some ⟨W0.heap.size, 0, none⟩) 0 0) 0 [] rfl own0 a n ca (cis d.sl) rfl (by omega) st1 (cis_one _) (by omega) (by decide) hz1 ?_; intro v2 w2 own2 gr2; have b2 : Below W0.heap.size W1 w2 := grown_on (Below.refl _ _) hz1 own0 gr2; rw [Nat.zero_add, List.nil_append] at own2; obtain ⟨y2, cy2, rfl⟩ := owns_form own2; obtain ⟨j0, j1, j2, j3, j4, j5⟩ := box3_cells (box_on HA.out (b1.trans b2))))
  obtain ⟨w3, hw3⟩ : ∃ w3, w2.setCell ⟨w.heap.size, 1, none⟩ (.slice y2 n cy2) = w3 := ⟨_, rfl⟩
  rw [hw3]
  have hA2 := box_on HA.out (b1.trans b2)
  have o3 : Out w.heap.size (w.heap.size + 1) w2 w3 := by subst hw3; exact (Out.refl _ _ _).setCell (Nat.le_refl _) (Nat.lt_succ_self _) _ _
  have HA3 : Hid (w3.heap[w.heap.size]? = some (.cells #[.int .i64 DP, .slice y2 n cy2, .slice a' m ca'] 32 (0, 0))) := by subst hw3; exact block_set hA2
  have HB3 : Hid (w3.heap[w.heap.size + 1]? = some Z27) := box_out (box_on HB.out (b1.trans b2)) o3 (by omega)
  have HI3 : Hid (∃ g, IB w3 W0.heap.size w3.heap.size (.slice y2 n cy2) d.sl g) := by
    have hn := Hn.out
    subst hn
    obtain ⟨g, hg⟩ := OwnI.ib own2
    exact ⟨g, (hg.out' o3 (.inr (by omega))).mono (Nat.le_refl _) o3.size⟩
  have g3 : Below w.heap.size w w3 := (g1.trans (b2.mono (by omega))).trans (o3.below (by have := b2.size; omega))
  have z3 := g3.size
  have z3' := box_lt HB3.out
  have z30 : W0.heap.size ≤ w3.heap.size := by have := b2.size; have := o3.size; omega
  clear hw3 own0 own2 gr2 b2 b1 hW0 hW1 x0 x1 x2 j0 j1 j2 j3 j4 j5 st1 hA2 o3 g1 q0 hz1 HA HB
  go_loopw [3, 14] (fun v i wr => ∃ (kk : Nat) (x : Option Addr) (cx : Nat) (kb : Nat → Nat), kk ≤ m ∧ i = .int .i64 kk ∧ v = .slice x kk cx ∧ Hid (GB wr w3.heap.size (.slice x kk cx) (d.bs.take kk) kb) ∧ Below w3.heap.size w3 wr) (fun _ i _ => m - (intOf i).toNat)
  case atStart => exact ⟨0, none, 0, fun _ => 0, Nat.zero_le _, rfl, rfl, GB.nil _ _ _, Below.refl _ _⟩
  case round =>
    obtain ⟨kk, x, cx, kb, hkk, rfl, rfl, HG, hb⟩ := hrel
    have hbw := Below.comp g3 hb
    have zr := hb.size
    by_cases hlt : kk < m
    · obtain ⟨bb, boff, rfl, hbc⟩ := HBk.out (by rw [Hm.out]; omega)
      obtain ⟨na, nc, y0, y1, y2', y3⟩ := (hbc kk (by rw [Hm.out]; exact hlt)).below hbw
      have hlen := hfn kk hlt
      obtain ⟨nd, hnd⟩ : ∃ nd, gb d.bs kk = nd := ⟨_, rfl⟩
      have Hnd : Hid _ := hnd
      rw [hnd] at y0 y1 y2' y3 hlen
      clear hnd hbc
      obtain ⟨dk, l⟩ := nd
      simp only at y0 y1 y2' y3 hlen
      obtain ⟨⟨xs, own8, hx⟩, hd⟩ := HG.out
      rw [takeB_len d.bs kk (by rw [Hm.out]; omega)] at own8
      have HX : Hid _ := hx
      have HDd : Hid _ := hd
      clear hx hd
      obtain ⟨E, hE⟩ : ∃ E, wr.heap.size = E := ⟨_, rfl⟩
      obtain ⟨W4, hW4⟩ : ∃ W4, wr.alloc (.cells #[.int .i64 dk, .slice na l.length nc] 63) = W4 := ⟨_, rfl⟩
      have b4 : Below wr.heap.size wr W4 := by subst hW4; exact below_alloc _ _
      have HE : Hid (W4.heap[E]? = some (.cells #[.int .i64 dk, .slice na l.length nc] 63 (0, 0))) := by subst hW4 hE; exact al1 _ _
      have hE4 : E < W4.heap.size := box_lt HE.out
      obtain ⟨W5, hW5⟩ : ∃ W5, W4.alloc (.cells #[] 36) = W5 := ⟨_, rfl⟩
      have b5 : Below W4.heap.size W4 W5 := by subst hW5; exact below_alloc _ _
      have own5 : W5.ownsRow W4.heap.size 36 2 (.slice (some ⟨W4.heap.size, 0, none⟩) 0 0) 0 [] := by subst hW5; exact own_empty _ _ _
      have hz5 := b5.size
      have st5 := (y2'.below (Below.comp b4 b5)).src
      have hcl := cns_len l
      obtain ⟨nl, hnl⟩ : ∃ nl, l.length = nl := ⟨_, rfl⟩
      have Hnl : Hid _ := hnl
      rw [hnl] at y1 y3 hlen hW4 HE st5 hcl
      clear hnl y2'
      obtain ⟨c0, c1, -, -⟩ := box2_cells (box_on HE.out b5)
      obtain ⟨x0, x1, x2, -, -, -⟩ := box3_cells (box_on HA3.out hb)
      have hkm : (kk : Int) < (m : Int) := by omega
      go_wp2_with (first
        | (at_builtin; refine wpList_append_src rfl _ _ 48 rfl W4.heap.size 36 _ 2 24 Try.underlying48 info47 rfl (by decide) (.slice (some ⟨W4.heap.size, 0, none⟩) 0 0) 0 [] rfl own5 na nl nc (cns l) rfl hcl st5 (cns_one _) (by omega) (by decide) hz5 ?_; intro v6 w6 own6 gr6; have b6 : Below W4.heap.size W5 w6 := grown_on (Below.refl _ _) hz5 own5 gr6; rw [Nat.zero_add, List.nil_append] at own6; obtain ⟨y6, cy6, rfl⟩ := owns_form own6; have h6 := box_on HE.out (b5.trans b6); obtain ⟨k0, k1, k2, k3⟩ := box2_cells h6; obtain ⟨W7, hW7⟩ : ∃ W7, w6.setCell ⟨E, 1, none⟩ (.slice y6 nl cy6) = W7 := ⟨_, rfl⟩; have h7 : W7.heap[E]? = some (.cells #[.int .i64 dk, .slice y6 nl cy6] 63 (0, 0)) := (by subst hW7; exact block_set h6); obtain ⟨r0, r1, -, -⟩ := box2_cells h7; obtain ⟨W8, hW8⟩ : ∃ W8, W7.alloc (.cells #[.int .i64 dk, .slice y6 nl cy6] 63) = W8 := ⟨_, rfl⟩; have o7 : Out E (E + 1) w6 W7 := (by subst hW7; exact (Out.refl _ _ _).setCell (Nat.le_refl _) (Nat.lt_succ_self _) _ _); have b48 : Below E wr W8 := (by have z6 := b6.size; subst hW8; exact (((hE ▸ b4).trans ((b5.trans b6).mono (by omega))).trans (o7.below (by omega))).trans ((below_alloc _ _).mono (by have := o7.size; omega))); have own8' := owns_below own8 (by rw [hE]; exact b48); have sr8 := src_two W7 (.int .i64 dk) (.slice y6 nl cy6) 63; rw [hW8] at sr8; have hz8 : w3.heap.size ≤ W8.heap.size := Nat.le_trans zr b48.size; clear c0 c1 st5 own5 x0 x1 x2)
        | (at_builtin; refine wpList_append_src rfl _ _ 30 rfl w3.heap.size 63 _ 2 32 Try.underlying30 info67 rfl (by decide) (.slice x kk cx) kk xs rfl own8' (some ⟨W7.heap.size, 0, none⟩) 1 1 [.int .i64 dk, .slice y6 nl cy6] rfl rfl sr8 (by simp [Value.oneCell']) (by omega) (by decide) hz8 ?_; intro v9 w9 own9 gr9; obtain ⟨y9, cy9, rfl⟩ := owns_form own9))
      have hn := Hnl.out
      subst hn
      obtain ⟨g, hg⟩ := OwnN.nb own6
      have z6 := b6.size
      have z7 := o7.size
      have z8 : W7.heap.size ≤ W8.heap.size := by subst hW8; exact (below_alloc _ _).size
      have n8 : NB W8 w3.heap.size W8.heap.size (.slice y6 l.length cy6) l g := by
        have n7 := hg.out' o7 (.inr (by omega))
        have : NB W8 W4.heap.size w6.heap.size (.slice y6 l.length cy6) l g := by subst hW8; exact n7.below (below_alloc _ _)
        exact this.mono (by omega) (by omega)
      have bW8 : Below wr.heap.size wr W8 := by rw [hE]; exact b48
      have hkl : (d.bs.take kk).length = kk := takeB_len d.bs kk (by rw [Hm.out]; omega)
      have hgE : l ≠ [] → E < g := fun q => by have := (hg.type q).1; omega
      have sn := GB.snoc (N := d.bs.take kk) (kb := kb) (dp := dk) (l := l) (g := g) (by rw [hkl]; exact own8') (fun i hi => by obtain ⟨h0, p, h1, h2⟩ := HX.out i hi; exact ⟨h0, p, h1, (h2.below bW8).mono (Nat.le_refl _) bW8.size⟩) HDd.out (by rw [hkl]; exact own9) gr9 n8 (fun q r hr hq => by have h1 := (HG.out.row hr hq).2.1; have := hgE q; omega)
      have tk : d.bs.take (kk + 1) = d.bs.take kk ++ [⟨dk, l⟩] := by rw [takeB_snoc d.bs kk (by rw [Hm.out]; exact hlt), Hnd.out]
      refine ⟨⟨kk + 1, y9, cy9, _, by omega, by go_num, rfl, by rw [tk]; exact sn, ?_⟩, by simp [intOf]; omega⟩
      exact grown_on (hb.trans (b48.mono (by omega))) hz8 own8' gr9
    · have hkm : kk = m := by omega
      subst hkm
      have hA9 := box_on HA3.out hb
      have hB9 := box_on HB3.out hb
      obtain ⟨x0, x1, x2, x3, x4, x5⟩ := box3_cells hA9
      obtain ⟨f0, f1, f2, f3, f4, f5⟩ := box3_cells hB9
      go_wp2_with fail
      obtain ⟨W9, hW9⟩ : ∃ W9, (((wr.setCell ⟨w.heap.size, 2, none⟩ (.slice x kk cx)).setCell ⟨w.heap.size + 1, 0, none⟩ (.int .i64 DP)).setCell ⟨w.heap.size + 1, 1, none⟩ (.slice y2 n cy2)).setCell ⟨w.heap.size + 1, 2, none⟩ (.slice x kk cx) = W9 := ⟨_, rfl⟩
      have o9 : Out w.heap.size (w.heap.size + 2) wr W9 := by
        subst hW9
        exact ((((Out.refl _ _ _).setCell (by omega) (by omega) _ _).setCell (by omega) (by omega) _ _).setCell (by omega) (by omega) _ _).setCell (by omega) (by omega) _ _
      have R : W9.heap[w.heap.size + 1]? = some (.cells #[.int .i64 DP, .slice y2 n cy2, .slice x kk cx] 32 (0, 0)) := by
        subst hW9
        exact box3_set (box_out hB9 (out_setCell _ _ _ _) (by omega))
      rw [hW9]
      clear hW9
      obtain ⟨t0, t1, t2, -, -, -⟩ := box3_cells R
      have z9 := o9.size
      obtain ⟨g, hg⟩ := HI3.out
      have htk : d.bs.take kk = d.bs := by rw [← Hm.out]; exact List.take_length
      have HGo := HG.out
      rw [htk] at HGo
      have k9 : KeepT wr W9 := KeepT.two hA9 hB9 o9
      obtain ⟨ag, cg, e, hcg, hr⟩ := hg.below hb
      obtain ⟨rfl, r1, r2, cs, r3, r4⟩ := hr HN0.out
      injection e with e1 e2 e3
      subst e1 e3
      have hsp : SpO W9 w.heap.size (.agg #[.int .i64 DP, .slice (some ⟨g, 0, none⟩) n cy2, .slice x kk cx]) d kb := ⟨g, cy2, cs, .slice x kk cx, by rw [HDP.out, e2], hcg, by omega, box_out r3 o9 (by omega), r4, (HGo.keepT k9).base (by omega)⟩
      refine bodyPost_ret (v := .agg #[.int .i64 DP, .slice (some ⟨g, 0, none⟩) n cy2, .slice x kk cx]) (by simp [results, Try.results31, go_sem, t0, t1, t2]) rfl ⟨?_, _, kb, rfl, hsp⟩
      exact hbw.trans (o9.below (by omega))
end Go.Proofs.Ytfmgaenedkjmkaa
