import Derived.Test.YtfmgaenedkjmkaaE0
import Derived.Test.YtfmgaenedkjmkaaOL
/- The program: a bucket cut into two. -/
namespace Go.Proofs.Ytfmgaenedkjmkaa
open Go.ChangeShapes Go.WideShapes Go.ChangeAt Go.RowKit
set_option linter.unusedVariables false
open Hd

attribute [local go_sem] Oper.semAt_some

theorem cis_arr {S : List Int} {j : Nat} (h : j < S.length) : (cis S).toArray[j]? = some (iv (gi S j)) := by simpa using cis_at h
theorem concatCut_any (A : Option Addr) (ca' m c b g1 : Nat) (cs : List Value) (v1 v2 : Value) (W : World) (hm : m ≤ 1000) (hcm : c ≤ m) (hca : m ≤ ca') (hl : cs.length = m * 2) (h1 : ∀ u ∈ cs, u.oneCell' = true)
    (hsrc : ∀ W', Below W.heap.size W W' → (m = 0 ∨ ∃ ad, A = some ad ∧ ∀ j u, cs[j]? = some u → W'.cell? (ad.add j) = some u)) (hA : ∀ ad, A = some ad → ad.spot = none) (hv1 : v1.oneCell' = true) (hv2 : v2.oneCell' = true)
    (hB : W.heap[b]? = some (.cells #[.slice (subA A 0 ca') c ca', .slice (some ⟨g1, 0, none⟩) 1 1, .slice (subA A c ca') (m - c) (ca' - c)] 30 (0, 0))) (hG : W.heap[g1]? = some (.cells #[v1, v2] 63 (0, 0))) :
    Calls Try.prog 87 #[.slice (some ⟨b, 0, none⟩) 3 3] W fun e w' => Below W.heap.size W w' ∧ ∃ x y, e = .returned (.slice x (m + 1) y) ∧ w'.ownsRow W.heap.size 63 2 (.slice x (m + 1) y) (m + 1) (cs.take (c * 2) ++ [v1, v2] ++ cs.drop (c * 2)) := by
  obtain ⟨x0, x1, x2, -, -, -⟩ := box3_cells hB
  have := ConcatB_any b 3 3 (fun i => if i = 0 then subA A 0 ca' else if i = 1 then some ⟨g1, 0, none⟩ else subA A c ca') (fun i => if i = 0 then ca' else if i = 1 then 1 else ca' - c) (fun i => if i = 0 then c else if i = 1 then 1 else m - c) (fun i => if i = 0 then cs.take (c * 2) else if i = 1 then [v1, v2] else cs.drop (c * 2)) W (by omega)
    (fun i hi => by
      rcases (by omega : i = 0 ∨ i = 1 ∨ i = 2) with rfl | rfl | rfl
      · simp; omega
      · simp
      · simp; omega)
    (fun i hi => by
      rcases (by omega : i = 0 ∨ i = 1 ∨ i = 2) with rfl | rfl | rfl
      · simp [x0]
      · simp [x1]
      · simp [x2])
    (fun i hi => by
      rcases (by omega : i = 0 ∨ i = 1 ∨ i = 2) with rfl | rfl | rfl
      · refine ⟨by simp; omega, fun u hu => h1 u (List.mem_of_mem_take (by simpa using hu)), fun W' hW => ?_⟩
        have := (parts_src (cp := ca') hl (hsrc W' hW) hA hcm hca).1
        simpa using this
      · refine ⟨by simp, fun u hu => by simp at hu; rcases hu with rfl | rfl <;> assumption, fun W' hW => .inr ⟨⟨g1, 0, none⟩, by simp, fun j u hj => ?_⟩⟩
        have hg := box_on hG hW
        rw [addN]
        match j with
        | 0 => simp at hj; subst hj; exact cell_of_block hg rfl
        | 1 => simp at hj; subst hj; exact cell_of_block hg rfl
        | j + 2 => simp at hj
      · refine ⟨by simp; omega, fun u hu => h1 u (List.mem_of_mem_drop (by simpa using hu)), fun W' hW => ?_⟩
        have := (parts_src (cp := ca') hl (hsrc W' hW) hA hcm hca).2
        simpa using this)
  have e1 : sumN (fun i => if i = 0 then c else if i = 1 then 1 else m - c) 3 = m + 1 := by simp [sumN]; omega
  have e2 : flatK (fun i => if i = 0 then cs.take (c * 2) else if i = 1 then [v1, v2] else cs.drop (c * 2)) 3 = cs.take (c * 2) ++ [v1, v2] ++ cs.drop (c * 2) := by simp [flatK]
  rw [e1, e2] at this
  exact this
set_option maxHeartbeats 8000000 in
set_option maxRecDepth 20000 in
theorem cut_any (v : Value) (d : Dr) (i0 k q p : Nat) (w : World) (C : CutAt d i0 k q p) (hc : DirAt w v d) :
    Calls Try.prog 67 #[v, .int .i64 (k : Int), pv q p] w fun e w' => Below w.heap.size w w' ∧ ∃ v', e = .returned v' ∧ DirAt w' v' (cuI d k q p) ∧ ∀ B C, C ≤ w.heap.size → VA B C w v d.bs.length → VA B C w' v' (d.bs.length + 1) := by
  obtain ⟨hp, hU, hkc, -, -, hcb⟩ := cut_u C
  obtain ⟨G, hi0, hk0, hq0, hq1, hp0⟩ := C
  have hsz := G.1
  obtain ⟨z1, z2, z3⟩ := hsz
  have hq8 : q ≤ 8 := by omega
  have hn8 : d.sl.length ≤ 1000 := by rw [z3]; have := Nat.pow_le_pow_right (n := 2) (by omega) (show d.dp.toNat ≤ 8 by omega); omega
  have hm8 : d.bs.length ≤ 1000 := by have := G.2.1; omega
  have hM : Hid (∀ j, j < d.sl.length → 0 ≤ gi d.sl j ∧ gi d.sl j < d.bs.length) := fun j hj => ⟨(G.cn.1 j hj).1, G.cn.lt hj⟩
  obtain ⟨hl4, hl5⟩ : (gb d.bs k).ns.length ≤ 4 ∧ ∀ i, i < (gb d.bs k).ns.length → (gm (gb d.bs k).ns i).nm.size ≤ 9223372036854775807 := by
    have hB := G.2.2.2.1 k (by omega)
    refine ⟨hB.2, fun i hi => ?_⟩
    have := (hB.1 i hi).1
    unfold isN at this
    simp only [Bool.and_eq_true, decide_eq_true_eq] at this
    omega
  obtain ⟨a, ca, a', ca', rfl, hca, hca', ha, ha'⟩ := hc
  obtain ⟨cs, hcs, hcsrc⟩ := ha'.cells
  have hmx := mx_take (S := d.sl) (m := p + 2 ^ q) G.cn.1 (by have := Nat.two_pow_pos q; omega) (by omega)
  obtain ⟨c1, hc1⟩ : ∃ c1, sn d.sl (p + 2 ^ q) = c1 + 1 := ⟨sn d.sl (p + 2 ^ q) - 1, by omega⟩
  have cM : ∀ W, Below w.heap.size w W → Calls Try.prog 86 #[.slice (subI a 0 ca) (p + 2 ^ q) ca] W fun e w' => e = .returned (.int .i64 (c1 : Int)) ∧ Below W.heap.size W w' := fun W hW => by
    have el : (d.sl.take (p + 2 ^ q)).length = p + 2 ^ q := by simp; omega
    have := Max_any (subI a 0 ca) (d.sl.take (p + 2 ^ q)) ca W (by rw [el]; have := Nat.two_pow_pos q; omega) (by rw [el]; omega) (Ints.takeI (l := d.sl) (ha.below hW) ca _ (by omega))
    rw [el] at this
    rw [show mxI (d.sl.take (p + 2 ^ q)) (p + 2 ^ q - 1) = (c1 : Int) by rw [hc1] at hmx; omega] at this
    exact this
  have cH := fun W => halves_any q p W hq8 hp
  have hT : ∀ w, (Instr.slice 22 (.slice a d.sl.length ca) none (some (.int .i64 ((p + 2 ^ q : Nat) : Int))) none).run Try.prog w = .ok (.slice (subI a 0 ca) (p + 2 ^ q) ca) w := fun w => slice_toI a d.sl.length ca (p + 2 ^ q) (by omega) w
  obtain ⟨U, hUe⟩ : ∃ U, p + 2 ^ q = U := ⟨_, rfl⟩
  have HUe : Hid _ := hUe
  rw [hUe] at cM cH hT hU hkc hcb hc1
  have isrc := At.src ha
  have HcI : Hid (∀ W, Below w.heap.size w W → Calls Try.prog 70 #[.slice a d.sl.length ca] W fun e w' => Below W.heap.size W w' ∧ e = .returned (.slice (some ⟨W.heap.size, 0, none⟩) d.sl.length d.sl.length) ∧ w'.heap[W.heap.size]? = some (.cells (cis d.sl).toArray 3 (0, 0))) := fun W h => copyInt_any a ca d.sl.length (cis d.sl) W (cis_len _) (cis_one _) (by omega) (by
    rcases isrc with h0 | ⟨ad, e, h0⟩
    · exact .inl h0
    · exact .inr ⟨ad, e, fun j u hj => by have := h0 j u hj; rw [h.cell (p := ad.add j) (World.block_lt_of_cell? w _ this)]; exact this⟩)
  have HVS : Hid (∀ B C, VA B C w (dv d.dp a d.sl.length ca a' d.bs.length ca') d.bs.length → ∀ j, j < d.bs.length → ∀ na nl nc, cs[j * 2 + 1]? = some (.slice na nl nc) → Av B C na nl) := fun B C hV j hj na nl nc hcj => by
    obtain ⟨-, -, h3⟩ := hV _ _ _ _ _ _ rfl
    rcases hcsrc with h0 | ⟨ad, e, h0⟩
    · omega
    · exact h3 j hj ad e na nl nc (h0 _ _ hcj)
  obtain ⟨b', off', rfl, hbk⟩ := ha' (by omega)
  obtain ⟨na, nc, y0, y1, y2, y3⟩ := hbk k (by omega)
  have HBk : Hid (BkCs w d.bs cs) := hcs
  have HSrc : Hid _ := hcsrc
  have Hy2 : Hid (Nms w na (gb d.bs k).ns) := y2
  have HG : Hid (GS d) := G
  have Hca : Hid (d.sl.length ≤ ca) := hca
  have Hca' : Hid (d.bs.length ≤ ca') := hca'
  have cA : Hid (∀ q' p' W, q' ≤ 62 → Below w.heap.size w W → Calls Try.prog 88 #[pv q' p', .slice na (gb d.bs k).ns.length nc] W fun e w' => Below W.heap.size W w' ∧ ∃ x c g, e = .returned (.agg #[.int .i64 (q' : Int), .slice x (hf q' p' (gb d.bs k).ns).length c]) ∧ NB w' W.heap.size w'.heap.size (.slice x (hf q' p' (gb d.bs k).ns).length c) (hf q' p' (gb d.bs k).ns) g) := fun q' p' W h1 h2 => bucketAt_any na (gb d.bs k).ns nc q' p' W (by omega) hl5 h1 (y2.below h2)
  clear hbk y2 hcs hcsrc ha isrc hmx hl5 hi0 hk0 hq0 hq1 hp0 z1 z2 z3
  unfold dv pv at *
  obtain ⟨DP, hDP⟩ : ∃ DP, d.dp = DP := ⟨_, rfl⟩
  have HDP : Hid _ := hDP
  rw [hDP] at HVS ⊢
  clear hDP G hca hca'
  obtain ⟨n, hn⟩ : ∃ n, d.sl.length = n := ⟨_, rfl⟩
  have Hn : Hid _ := hn
  obtain ⟨m, hm⟩ : ∃ m, d.bs.length = m := ⟨_, rfl⟩
  have Hm : Hid _ := hm
  have HRk : Hid (∀ j, j < n → gi (cuS d.sl q U (c1 + 1)) j = if low j (q + 1) = U then (c1 : Int) + 1 else if (c1 : Int) + 1 ≤ gi d.sl j then gi d.sl j + 1 else gi d.sl j) := fun j hj => by
    unfold cuS
    rw [gi_range _ (by rw [hn]; exact hj)]
    push_cast
    rfl
  rw [hn] at HcI hT hU hn8 hM HVS ⊢
  rw [hm] at hcb hm8 HSrc hM HVS ⊢
  clear hn hm
  have cS : Hid (∀ kk W, kk < n → Calls Try.prog 77 #[.agg #[.int .i64 ((q : Int) + 1), .int .i64 (U : Int)], .int .i64 (kk : Int)] W fun e w' => e = .returned (.bool (decide (low kk (q + 1) = U))) ∧ Below W.heap.size W w') := fun kk W hkk => hasSlot_any (q + 1) U kk W (by omega) (by omega)
  obtain ⟨W0, hW0⟩ : ∃ W0, ((w.alloc (.cells #[.int .i64 DP, .slice a n ca, .slice (some ⟨b', off', none⟩) m ca'] 32)).alloc (.cells #[.int .i64 (q : Int), .int .i64 (p : Int)] 92)).alloc (.cells #[.int .i64 0, .slice none 0 0, .slice none 0 0] 32) = W0 := ⟨_, rfl⟩
  have q0 : Below w.heap.size w W0 := by subst hW0; exact ba3 _ _ _ _
  obtain ⟨B1, B2, B3⟩ : W0.heap[w.heap.size]? = some (.cells #[.int .i64 DP, .slice a n ca, .slice (some ⟨b', off', none⟩) m ca'] 32 (0, 0)) ∧ W0.heap[w.heap.size + 1]? = some (.cells #[.int .i64 (q : Int), .int .i64 (p : Int)] 92 (0, 0)) ∧ W0.heap[w.heap.size + 1 + 1]? = some (.cells #[.int .i64 0, .slice none 0 0, .slice none 0 0] 32 (0, 0)) := by subst hW0; exact al3 _ _ _ _
  have H1 : Hid (W0.heap[w.heap.size]? = some (.cells #[.int .i64 DP, .slice a n ca, .slice (some ⟨b', off', none⟩) m ca'] 32 (0, 0))) := B1
  have H3 : Hid (W0.heap[w.heap.size + 1 + 1]? = some (.cells #[.int .i64 0, .slice none 0 0, .slice none 0 0] 32 (0, 0))) := B3
  have zz := box_lt B3
  obtain ⟨x0, x1, x2, -, -, -⟩ := box3_cells B1
  obtain ⟨x3, x4, -, -⟩ := box2_cells B2
  clear B1 B2 B3
  go_enter Try.func67, Try.ntmps67
  go_wp2_with fail
  refine (cH _).mono ?_
  rintro e w1 ⟨rfl, b1⟩
  clear hW0 x0 x1 x2 x3 x4
  obtain ⟨E, hE⟩ : ∃ E, w1.heap.size = E := ⟨_, rfl⟩
  have z1 := b1.size
  obtain ⟨W2, hW2⟩ : ∃ W2, (w1.alloc (.cells #[.int .i64 ((q : Int) + 1), .int .i64 (p : Int)] 92)).alloc (.cells #[.int .i64 ((q : Int) + 1), .int .i64 (U : Int)] 92) = W2 := ⟨_, rfl⟩
  have b2 : Below w1.heap.size w1 W2 := by subst hW2; exact ba2 _ _ _
  obtain ⟨B7, B8⟩ : W2.heap[E]? = some (.cells #[.int .i64 ((q : Int) + 1), .int .i64 (p : Int)] 92 (0, 0)) ∧ W2.heap[E + 1]? = some (.cells #[.int .i64 ((q : Int) + 1), .int .i64 (U : Int)] 92 (0, 0)) := by subst hW2 hE; exact al2 _ _ _
  have H7 : Hid (W2.heap[E]? = some (.cells #[.int .i64 ((q : Int) + 1), .int .i64 (p : Int)] 92 (0, 0))) := B7
  have H8 : Hid (W2.heap[E + 1]? = some (.cells #[.int .i64 ((q : Int) + 1), .int .i64 (U : Int)] 92 (0, 0))) := B8
  clear B7 B8
  have b02 : Below W0.heap.size W0 W2 := Below.comp b1 b2
  have bw2 : Below w.heap.size w W2 := Below.comp q0 b02
  have ze := box_lt H8.out
  have HD2 : Hid (W2.heap[w.heap.size]? = some (.cells #[.int .i64 DP, .slice a n ca, .slice (some ⟨b', off', none⟩) m ca'] 32 (0, 0))) := box_on H1.out b02
  have HZ2 : Hid (W2.heap[w.heap.size + 1 + 1]? = some (.cells #[.int .i64 0, .slice none 0 0, .slice none 0 0] 32 (0, 0))) := box_on H3.out b02
  obtain ⟨x0, x1, x2, -, -, -⟩ := box3_cells HD2.out
  obtain ⟨x3, x4, -, -⟩ := box2_cells H8.out
  have y0' := cell_on y0 bw2
  have y1' := cell_on y1 bw2
  have hkm : (k : Int) < (m : Int) := by omega
  generalize hR : (gb d.bs k).ns.length = nl at *
  have HR : Hid _ := hR
  clear hR y0 y1
  go_wp2_with fail
  refine (cM _ bw2).mono ?_
  rintro e w3 ⟨rfl, b3⟩
  clear hW2 x0 x1 x2 x3 x4 y0' y1'
  have bw3 : Below w.heap.size w w3 := Below.comp bw2 b3
  obtain ⟨x0, x1, x2, -, -, -⟩ := box3_cells (box_on HD2.out b3)
  go_wp2_with fail
  refine (HcI.out _ bw3).mono ?_
  rintro e w4 ⟨b4, rfl, hI⟩
  clear x0 x1 x2
  have HI : Hid _ := hI
  clear hI
  go_wp2_with fail
  obtain ⟨R, hRR⟩ : ∃ R, cuS d.sl q U (c1 + 1) = R := ⟨_, rfl⟩
  have HRR : Hid _ := hRR
  rw [hRR] at HRk
  clear hRR
  obtain ⟨S, hS⟩ : ∃ S, d.sl = S := ⟨_, rfl⟩
  have HS : Hid _ := hS
  have zg : W2.heap.size ≤ w3.heap.size := b3.size
  have hSn : Hid (S.length = n) := by rw [← hS]; exact Hn.out
  have bg4 : Below w.heap.size w w4 := Below.comp bw3 b4
  rw [hS] at HRk hM HI
  have H84 : Hid (w4.heap[E + 1]? = some (.cells #[.int .i64 ((q : Int) + 1), .int .i64 (U : Int)] 92 (0, 0))) := box_on (box_on H8.out b3) b4
  clear hS
  go_loopw [38] (fun i wr => ∃ (kk : Nat) (c : Array Value), kk ≤ n ∧ i = .int .i64 kk ∧ Hid (wr.heap[w3.heap.size]? = some (.cells c 3 (0, 0))) ∧ c.size = n ∧ Hid (∀ j, j < kk → c[j]? = some (iv (gi R j))) ∧ Hid (∀ j, kk ≤ j → j < n → c[j]? = some (iv (gi S j))) ∧ Out w3.heap.size (w3.heap.size + 1) w4 wr) (fun i _ => n - (intOf i).toNat)
  case atStart => exact ⟨0, _, Nat.zero_le _, rfl, HI, by simp [cis_len, hSn.out], fun j hj => absurd hj (by omega), fun j _ hj => cis_arr (by rw [hSn.out]; exact hj), Out.refl _ _ _⟩
  case round =>
    obtain ⟨kk, c, hkk, rfl, HC, hcs, HL, HG2, ho⟩ := hrel
    by_cases hlt : kk < n
    · have hk0 := HG2.out kk (Nat.le_refl _) hlt
      have hm0 := hM.out kk hlt
      have hr0 := HRk.out kk hlt
      obtain ⟨M, hMM⟩ : ∃ M, gi S kk = M := ⟨_, rfl⟩
      rw [hMM] at hk0 hm0 hr0
      clear hMM
      have k0 : wr.cell? ⟨w3.heap.size, kk, none⟩ = some (.int .i64 M) := cell_of_block HC.out hk0
      have H8r : Hid (wr.heap[E + 1]? = some (.cells #[.int .i64 ((q : Int) + 1), .int .i64 (U : Int)] 92 (0, 0))) := box_out H84.out ho (by omega)
      obtain ⟨x3, x4, -, -⟩ := box2_cells H8r.out
      have cs := cS.out kk wr hlt
      have Hr0 : Hid _ := hr0
      clear hk0 hr0
      by_cases hA : low kk (q + 1) = U
      · rw [decide_eq_true hA] at cs
        go_wp2_with fail
        refine cs.mono ?_
        rintro e w5 ⟨rfl, b5⟩
        clear x3 x4 k0
        have HC5 : Hid (w5.heap[w3.heap.size]? = some (.cells c 3 (0, 0))) := box_on HC.out b5
        have k0 : w5.cell? ⟨w3.heap.size, kk, none⟩ = some c[kk] := cell_of_block HC5.out (by simp)
        have f0 := free_of_block (i := kk) HC5.out
        have Hr1 : Hid (gi R kk = (c1 : Int) + 1) := by have := Hr0.out; rw [if_pos hA] at this; exact this
        clear cs
        go_wp2_with fail
        go_round
        case rel => exact ⟨kk + 1, _, by omega, by go_num, block_set HC5.out, by simpa using hcs, fun j hj => by
            by_cases e : j = kk
            · subst e; rw [set_at (by omega), Hr1.out]
            · rw [set_ne (by omega)]; exact HL.out j (by omega), fun j h1 h2 => by rw [set_ne (by omega)]; exact HG2.out j (by omega) h2, (ho.trans (Out.of_below b5)).setCell (Nat.le_refl _) (Nat.lt_succ_self _) _ _⟩
        case measure => simp [intOf]; omega
      · rw [decide_eq_false hA] at cs
        by_cases hB : (c1 : Int) + 1 ≤ M
        · have Hr1 : Hid (gi R kk = M + 1) := by have := Hr0.out; rw [if_neg hA, if_pos hB] at this; exact this
          go_wp2_with fail
          refine cs.mono ?_
          rintro e w5 ⟨rfl, b5⟩
          clear x3 x4 k0
          have HC5 : Hid (w5.heap[w3.heap.size]? = some (.cells c 3 (0, 0))) := box_on HC.out b5
          have k0 : w5.cell? ⟨w3.heap.size, kk, none⟩ = some c[kk] := cell_of_block HC5.out (by simp)
          have f0 := free_of_block (i := kk) HC5.out
          clear cs
          go_wp2_with fail
          go_round
          case rel => exact ⟨kk + 1, _, by omega, by go_num, block_set HC5.out, by simpa using hcs, fun j hj => by
              by_cases e : j = kk
              · subst e; rw [set_at (by omega), Hr1.out]
              · rw [set_ne (by omega)]; exact HL.out j (by omega), fun j h1 h2 => by rw [set_ne (by omega)]; exact HG2.out j (by omega) h2, (ho.trans (Out.of_below b5)).setCell (Nat.le_refl _) (Nat.lt_succ_self _) _ _⟩
          case measure => simp [intOf]; omega
        · have Hr1 : Hid (gi R kk = M) := by have := Hr0.out; rw [if_neg hA, if_neg hB] at this; exact this
          have Hk0 : Hid (c[kk]? = some (iv M)) := by have := k0; simp only [World.cell?, HC.out] at this; exact this
          go_wp2_with fail
          refine cs.mono ?_
          rintro e w5 ⟨rfl, b5⟩
          clear x3 x4 k0
          have HC5 : Hid (w5.heap[w3.heap.size]? = some (.cells c 3 (0, 0))) := box_on HC.out b5
          clear cs
          go_wp2_with fail
          go_round
          case rel => exact ⟨kk + 1, _, by omega, by go_num, HC5, hcs, fun j hj => by
              by_cases e : j = kk
              · subst e; rw [Hk0.out, Hr1.out]
              · exact HL.out j (by omega), fun j h1 h2 => HG2.out j (by omega) h2, ho.trans (Out.of_below b5)⟩
          case measure => simp [intOf]; omega
    · have hkn : kk = n := by omega
      subst kk
      clear hlt hkk
      have zw := ho.size
      have bwr : Below w.heap.size w wr := bg4.trans ((ho.below (by have := b4.size; omega)).mono (by have := bw3.size; omega))
      have HDr : Hid (wr.heap[w.heap.size]? = some (.cells #[.int .i64 DP, .slice a n ca, .slice (some ⟨b', off', none⟩) m ca'] 32 (0, 0))) := box_out (box_on (box_on HD2.out b3) b4) ho (.inl (by have := box_lt HD2.out; omega))
      have HZr : Hid (wr.heap[w.heap.size + 1 + 1]? = some (.cells #[.int .i64 0, .slice none 0 0, .slice none 0 0] 32 (0, 0))) := box_out (box_on (box_on HZ2.out b3) b4) ho (.inl (by have := box_lt HZ2.out; omega))
      have H7r : Hid (wr.heap[E]? = some (.cells #[.int .i64 ((q : Int) + 1), .int .i64 (p : Int)] 92 (0, 0))) := box_out (box_on (box_on H7.out b3) b4) ho (.inl (by have := box_lt H7.out; omega))
      have H8r : Hid (wr.heap[E + 1]? = some (.cells #[.int .i64 ((q : Int) + 1), .int .i64 (U : Int)] 92 (0, 0))) := box_out H84.out ho (.inl (by omega))
      have SB : Hid (∀ W, Below wr.heap.size wr W → W.cell? ⟨w.heap.size, 2, none⟩ = some (.slice (some ⟨b', off', none⟩) m ca') ∧ W.cell? ⟨E + 1, 0, none⟩ = some (.int .i64 ((q : Int) + 1)) ∧ W.cell? ⟨E + 1, 1, none⟩ = some (.int .i64 (U : Int))) := fun W hW => ⟨(box3_cells (box_on HDr.out hW)).2.2.1, (box2_cells (box_on H8r.out hW)).1, (box2_cells (box_on H8r.out hW)).2.1⟩
      have hS1 : ∀ w, (Instr.slice 30 (.slice (some ⟨b', off', none⟩) m ca') none (some (.int .i64 ((c1 : Int) + 1))) none).run Try.prog w = .ok (.slice (subA (some ⟨b', off', none⟩) 0 ca') (c1 + 1) ca') w := fun w => slice_toB (some ⟨b', off', none⟩) m ca' (c1 + 1) (by have := Hca'.out; rw [Hm.out] at this; omega) w
      have hS2 : ∀ w, (Instr.slice 30 (.slice (some ⟨b', off', none⟩) m ca') (some (.int .i64 ((c1 : Int) + 1))) none none).run Try.prog w = .ok (.slice (subA (some ⟨b', off', none⟩) (c1 + 1) ca') (m - (c1 + 1)) (ca' - (c1 + 1))) w := fun w => slice_fromB (some ⟨b', off', none⟩) m ca' (c1 + 1) (by omega) w
      obtain ⟨RH, hRH⟩ : ∃ RH, hf (q + 1) U (gb d.bs k).ns = RH := ⟨_, rfl⟩
      obtain ⟨RL, hRL⟩ : ∃ RL, hf (q + 1) p (gb d.bs k).ns = RL := ⟨_, rfl⟩
      have cHi : Hid (∀ W, Below w.heap.size w W → Calls Try.prog 88 #[.agg #[.int .i64 ((q : Int) + 1), .int .i64 (U : Int)], .slice na nl nc] W fun e w' => Below W.heap.size W w' ∧ ∃ x c g, e = .returned (.agg #[.int .i64 ((q : Int) + 1), .slice x RH.length c]) ∧ NB w' W.heap.size w'.heap.size (.slice x RH.length c) RH g) := fun W hW => by
        have := cA.out (q + 1) U W (by omega) hW
        rw [hRH] at this
        exact this
      have cLo : Hid (∀ W, Below w.heap.size w W → Calls Try.prog 88 #[.agg #[.int .i64 ((q : Int) + 1), .int .i64 (p : Int)], .slice na nl nc] W fun e w' => Below W.heap.size W w' ∧ ∃ x c g, e = .returned (.agg #[.int .i64 ((q : Int) + 1), .slice x RL.length c]) ∧ NB w' W.heap.size w'.heap.size (.slice x RL.length c) RL g) := fun W hW => by
        have := cA.out (q + 1) p W (by omega) hW
        rw [hRL] at this
        exact this
      have HRH : Hid _ := hRH
      have HRL : Hid _ := hRL
      clear hRH hRL
      have cCo : Hid (∀ (W : World) b g1 v2, Below w.heap.size w W → v2.oneCell' = true → W.heap[b]? = some (.cells #[.slice (subA (some ⟨b', off', none⟩) 0 ca') (c1 + 1) ca', .slice (some ⟨g1, 0, none⟩) 1 1, .slice (subA (some ⟨b', off', none⟩) (c1 + 1) ca') (m - (c1 + 1)) (ca' - (c1 + 1))] 30 (0, 0)) → W.heap[g1]? = some (.cells #[.int .i64 ((q : Int) + 1), v2] 63 (0, 0)) → Calls Try.prog 87 #[.slice (some ⟨b, 0, none⟩) 3 3] W fun e w' => Below W.heap.size W w' ∧ ∃ x y, e = .returned (.slice x (m + 1) y) ∧ w'.ownsRow W.heap.size 63 2 (.slice x (m + 1) y) (m + 1) (cs.take ((c1 + 1) * 2) ++ [.int .i64 ((q : Int) + 1), v2] ++ cs.drop ((c1 + 1) * 2))) := fun W b g1 v2 hW hv hB hG => concatCut_any (some ⟨b', off', none⟩) ca' m (c1 + 1) b g1 cs _ v2 W (by omega) (by omega) (by have := Hca'.out; rw [Hm.out] at this; exact this) (by rw [HBk.out.1, Hm.out]) HBk.out.2.1 (fun W' hW' => by
          rcases HSrc.out with h0 | ⟨ad, e, h0⟩
          · exact .inl h0
          · exact .inr ⟨ad, e, fun j u hj => by have := h0 j u hj; rw [(Below.comp hW hW').cell (p := ad.add j) (World.block_lt_of_cell? w _ this)]; exact this⟩) (fun ad h => by cases h; rfl) rfl hv hB hG
      go_wp2_with fail
      refine wp_region_L (fun W => Below wr.heap.size wr W) 14 15 (by kernel_rfl) rfl (Below.drew (Below.refl _ _)) (fun hS0 => ?_)
      refine tkL (i := 0) (d := 61) (v := ?_) rfl rfl (by kernel_rfl) (by kernel_rfl) (by kernel_rfl) (by kernel_rfl) (fun _ _ _ h => h) (Or.inl ⟨by rfl, by intro wq hSq; obtain ⟨q1, q2, q3⟩ := SB.out wq hSq; go_simp; try with_reducible rfl⟩) (by assumption) ?_
      simp only [List.setIfInBounds_toArray, List.set_cons_zero, List.set_cons_succ]
      refine tkL (i := 1) (d := 62) (v := ?_) rfl rfl (by kernel_rfl) (by kernel_rfl) (by kernel_rfl) (by kernel_rfl) (fun _ _ _ h => h) (Or.inl ⟨by rfl, by intro wq hSq; obtain ⟨q1, q2, q3⟩ := SB.out wq hSq; go_simp; try with_reducible rfl⟩) (by assumption) ?_
      simp only [List.setIfInBounds_toArray, List.set_cons_zero, List.set_cons_succ]
      refine tkL (i := 2) (d := 63) (v := ?_) rfl rfl (by kernel_rfl) (by kernel_rfl) (by kernel_rfl) (by kernel_rfl) (fun _ _ _ h => h) (Or.inl ⟨by rfl, by intro wq hSq; obtain ⟨q1, q2, q3⟩ := SB.out wq hSq; go_simp; try with_reducible rfl⟩) (by assumption) ?_
      simp only [List.setIfInBounds_toArray, List.set_cons_zero, List.set_cons_succ]
      refine tkL (i := 3) (d := 64) (v := ?_) rfl rfl (by kernel_rfl) (by kernel_rfl) (by kernel_rfl) (by kernel_rfl) (fun _ _ _ h => h) (Or.inl ⟨by rfl, by intro wq hSq; obtain ⟨q1, q2, q3⟩ := SB.out wq hSq; go_simp; try with_reducible rfl⟩) (by assumption) ?_
      simp only [List.setIfInBounds_toArray, List.set_cons_zero, List.set_cons_succ]
      refine tkL (i := 4) (d := 65) (v := ?_) rfl rfl (by kernel_rfl) (by kernel_rfl) (by kernel_rfl) (by kernel_rfl) (fun _ _ _ h => h) (Or.inl ⟨by rfl, by intro wq hSq; obtain ⟨q1, q2, q3⟩ := SB.out wq hSq; go_simp; try with_reducible rfl⟩) (by assumption) ?_
      simp only [List.setIfInBounds_toArray, List.set_cons_zero, List.set_cons_succ]
      refine tkL (i := 5) (d := 66) (v := ?_) rfl rfl (by kernel_rfl) (by kernel_rfl) (by kernel_rfl) (by kernel_rfl) (fun _ _ _ h => h) (Or.inl ⟨by rfl, by intro wq hSq; obtain ⟨q1, q2, q3⟩ := SB.out wq hSq; go_simp; try with_reducible rfl⟩) (by assumption) ?_
      simp only [List.setIfInBounds_toArray, List.set_cons_zero, List.set_cons_succ]
      refine tkL (i := 8) (d := 69) (v := ?_) rfl rfl (by kernel_rfl) (by kernel_rfl) (by kernel_rfl) (by kernel_rfl) (fun _ _ _ h => h) (Or.inl ⟨by rfl, by intro wq hSq; obtain ⟨q1, q2, q3⟩ := SB.out wq hSq; go_simp; try with_reducible rfl⟩) (by assumption) ?_
      simp only [List.setIfInBounds_toArray, List.set_cons_zero, List.set_cons_succ]
      refine tkL (i := 9) (d := 70) (v := ?_) rfl rfl (by kernel_rfl) (by kernel_rfl) (by kernel_rfl) (by kernel_rfl) (fun _ _ _ h => h) (Or.inl ⟨by rfl, by intro wq hSq; obtain ⟨q1, q2, q3⟩ := SB.out wq hSq; go_simp; try with_reducible rfl⟩) (by assumption) ?_
      simp only [List.setIfInBounds_toArray, List.set_cons_zero, List.set_cons_succ]
      refine tkL (i := 10) (d := 71) (v := ?_) rfl rfl (by kernel_rfl) (by kernel_rfl) (by kernel_rfl) (by kernel_rfl) (fun _ _ _ h => h) (Or.inl ⟨by rfl, by intro wq hSq; obtain ⟨q1, q2, q3⟩ := SB.out wq hSq; go_simp; try with_reducible rfl⟩) (by assumption) ?_
      simp only [List.setIfInBounds_toArray, List.set_cons_zero, List.set_cons_succ]
      refine tkL (i := 11) (d := 72) (v := ?_) rfl rfl (by kernel_rfl) (by kernel_rfl) (by kernel_rfl) (by kernel_rfl) (fun _ _ _ h => h) (Or.inl ⟨by rfl, by intro wq hSq; obtain ⟨q1, q2, q3⟩ := SB.out wq hSq; go_simp; try with_reducible rfl⟩) (by assumption) ?_
      simp only [List.setIfInBounds_toArray, List.set_cons_zero, List.set_cons_succ]
      refine oneL (i := 6) rfl (by kernel_rfl) (fun K hK => ?_)
      go_simp
      refine (cHi.out _ (Below.comp bwr hS0)).mono ?_
      rintro e w6 ⟨b6, xh, ch, gh, rfl, hNh⟩
      have s6 : Below wr.heap.size wr w6 := Below.comp hS0 b6
      refine hK.out _ _ s6 (fun _ => ?_)
      clear hK K
      have HNh : Hid (NB w6 wr.heap.size w6.heap.size (.slice xh RH.length ch) RH gh) := hNh
      clear hNh
      refine oneL (i := 7) rfl (by kernel_rfl) (fun K hK => ?_)
      go_simp
      obtain ⟨W7, hW7⟩ : ∃ W7, w6.alloc (.cells #[.int .i64 ((q : Int) + 1), .slice xh RH.length ch] 63) = W7 := ⟨_, rfl⟩
      have b7 : Below w6.heap.size w6 W7 := by subst hW7; exact below_alloc _ _
      have s7 : Below wr.heap.size wr W7 := Below.comp s6 b7
      have HG7 : Hid (W7.heap[w6.heap.size]? = some (.cells #[.int .i64 ((q : Int) + 1), .slice xh RH.length ch] 63 (0, 0))) := by subst hW7; exact al1 _ _
      refine hK.out _ _ (by first | exact s7 | exact Below.comp s6 (below_alloc _ _)) (fun _ => ?_)
      clear hK K
      first | rw [hW7] | skip
      clear hW7
      refine oneL (i := 12) rfl (by kernel_rfl) (fun K hK => ?_)
      go_simp
      obtain ⟨W8, hW8⟩ : ∃ W8, W7.alloc (.cells #[.slice (subA (some ⟨b', off', none⟩) 0 ca') (c1 + 1) ca', .slice (some ⟨w6.heap.size, 0, none⟩) 1 1, .slice (subA (some ⟨b', off', none⟩) (c1 + 1) ca') (m - (c1 + 1)) (ca' - (c1 + 1))] 30) = W8 := ⟨_, rfl⟩
      have b8 : Below W7.heap.size W7 W8 := by subst hW8; exact below_alloc _ _
      have s8 : Below wr.heap.size wr W8 := Below.comp s7 b8
      have HG8 : Hid (W8.heap[W7.heap.size]? = some (.cells #[.slice (subA (some ⟨b', off', none⟩) 0 ca') (c1 + 1) ca', .slice (some ⟨w6.heap.size, 0, none⟩) 1 1, .slice (subA (some ⟨b', off', none⟩) (c1 + 1) ca') (m - (c1 + 1)) (ca' - (c1 + 1))] 30 (0, 0))) := by subst hW8; exact al1 _ _
      refine hK.out _ _ (by first | exact s8 | exact Below.comp s7 (below_alloc _ _)) (fun _ => ?_)
      clear hK K
      first | rw [hW8] | skip
      clear hW8
      refine oneL (i := 13) rfl (by kernel_rfl) (fun K hK => ?_)
      go_simp
      refine (cCo.out W8 W7.heap.size w6.heap.size _ (Below.comp bwr s8) rfl HG8.out (box_on HG7.out b8)).mono ?_
      rintro e w9 ⟨b9, xb, yb, rfl, hOb⟩
      have s9 : Below wr.heap.size wr w9 := Below.comp s8 b9
      refine hK.out _ _ s9 (fun _ => ?_)
      clear hK K
      have HOb : Hid (w9.ownsRow W8.heap.size 63 2 (.slice xb (m + 1) yb) (m + 1) (cs.take ((c1 + 1) * 2) ++ [.int .i64 ((q : Int) + 1), .slice xh RH.length ch] ++ cs.drop ((c1 + 1) * 2))) := hOb
      rcases hOb.2 with ⟨-, h0⟩ | ⟨gB, cap, cur, e9, hgB, hcB, hcap1, hcap2, hcs9, htk⟩
      · exact absurd h0 (by omega)
      simp only [Value.slice.injEq] at e9
      obtain ⟨rfl, -, rfl⟩ := e9
      have HcB : Hid (w9.heap[gB]? = some (.cells cur 63 (0, 0))) := hcB
      have Htk : Hid _ := htk
      clear hcB htk hOb
      refine lastL rfl (by kernel_rfl) (by kernel_rfl) (fun K hK => ?_)
      go_simp
      refine hK.out _ _ ?_
      clear hK K
      have zs9 := s9.size
      have zbwr := bwr.size
      obtain ⟨x3, x4, -, -⟩ := box2_cells (box_on H7r.out s9)
      have hkm1 : (k : Int) < ((m + 1 : Nat) : Int) := by omega
      have hkm2 : (k : Int) < (m : Int) + 1 := by omega
      go_wp2_with fail
      refine (cLo.out _ (Below.comp bwr s9)).mono ?_
      rintro e w10 ⟨b10, xl, cl, gl, rfl, hNl⟩
      have HNl : Hid (NB w10 w9.heap.size w10.heap.size (.slice xl RL.length cl) RL gl) := hNl
      clear hNl x3 x4
      have s10 : Below wr.heap.size wr w10 := Below.comp s9 b10
      have HcB10 : Hid (w10.heap[gB]? = some (.cells cur 63 (0, 0))) := box_on HcB.out b10
      have zB9 := box_lt HcB.out
      have zB10 := box_lt HcB10.out
      have z8 := s8.size
      have z10 := s10.size
      have z78 := b8.size
      have z67 := b7.size
      have hZ : w.heap.size + 1 + 1 < wr.heap.size := box_lt HZr.out
      have k0 : w10.cell? ⟨gB, k * 2, none⟩ = some cur[k * 2] := cell_of_block HcB10.out (by simp)
      have k1 : w10.cell? ⟨gB, k * 2 + 1, none⟩ = some cur[k * 2 + 1] := cell_of_block HcB10.out (by simp)
      have f0 := free_of_block (i := k * 2) HcB10.out
      have f1 := free_of_block (i := k * 2 + 1) HcB10.out
      obtain ⟨W11, hW11⟩ : ∃ W11, (w10.setCell ⟨gB, k * 2, none⟩ (.int .i64 ((q : Int) + 1))).setCell ⟨gB, k * 2 + 1, none⟩ (.slice xl RL.length cl) = W11 := ⟨_, rfl⟩
      have o11 : Out gB (gB + 1) w10 W11 := by subst hW11; exact ((Out.refl _ _ _).setCell (Nat.le_refl _) (Nat.lt_succ_self _) _ _).setCell (Nat.le_refl _) (Nat.lt_succ_self _) _ _
      have HB11 : Hid (W11.heap[gB]? = some (.cells ((cur.setIfInBounds (k * 2) (.int .i64 ((q : Int) + 1))).setIfInBounds (k * 2 + 1) (.slice xl RL.length cl)) 63 (0, 0))) := by subst hW11; exact block_set (block_set HcB10.out)
      have HD11 : Hid (W11.heap[w.heap.size]? = some (.cells #[.int .i64 DP, .slice a n ca, .slice (some ⟨b', off', none⟩) m ca'] 32 (0, 0))) := box_out (box_on HDr.out s10) o11 (.inl (by omega))
      have HZ11 : Hid (W11.heap[w.heap.size + 1 + 1]? = some (.cells #[.int .i64 0, .slice none 0 0, .slice none 0 0] 32 (0, 0))) := box_out (box_on HZr.out s10) o11 (.inl (by omega))
      obtain ⟨x0, x1, x2, -, -, -⟩ := box3_cells HD11.out
      obtain ⟨r0, r1, r2, r3, r4, r5⟩ := box3_cells HZ11.out
      go_wp2
      obtain ⟨W12, hW12⟩ : ∃ W12, ((W11.setCell ⟨w.heap.size + 1 + 1, 0, none⟩ (.int .i64 DP)).setCell ⟨w.heap.size + 1 + 1, 1, none⟩ (.slice (some ⟨w3.heap.size, 0, none⟩) n n)).setCell ⟨w.heap.size + 1 + 1, 2, none⟩ (.slice (some ⟨gB, 0, none⟩) (m + 1) yb) = W12 := ⟨_, rfl⟩
      have o12 : Out (w.heap.size + 1 + 1) (w.heap.size + 1 + 1 + 1) W11 W12 := by subst hW12; exact box3_out _ _ _ _ _
      have R12 : W12.heap[w.heap.size + 1 + 1]? = some (.cells #[.int .i64 DP, .slice (some ⟨w3.heap.size, 0, none⟩) n n, .slice (some ⟨gB, 0, none⟩) (m + 1) yb] 32 (0, 0)) := by subst hW12; exact box3_set HZ11.out
      first | rw [hW12] | skip
      clear hW12 hW11 k0 k1 f0 f1 x0 x1 x2 r0 r1 r2 r3 r4 r5
      obtain ⟨t0, t1, t2, -, -, -⟩ := box3_cells R12
      have z11 := o11.size
      have z12 := o12.size
      have bw12 : Below w.heap.size w W12 := (Below.comp bwr s10).trans (((o11.below (by omega)).mono (by omega)).trans ((o12.below (by omega)).mono (by omega)))
      have hcc : ∀ j, j < (m + 1) * 2 → cur[j]? = (cs.take ((c1 + 1) * 2) ++ [.int .i64 ((q : Int) + 1), .slice xh RH.length ch] ++ cs.drop ((c1 + 1) * 2))[j]? := fun j hj => by
        have := congrArg (fun l => l[j]?) Htk.out
        simp only [List.getElem?_take, if_pos hj, Array.getElem?_toList] at this
        exact this
      have hszc : (m + 1) * 2 ≤ cur.size := by rw [hcs9]; exact Nat.mul_le_mul_right _ hcap1
      have hcu : cuI d k q p = ⟨d.dp, R, cuB d.bs k (c1 + 1) ⟨(q : Int) + 1, RL⟩ ⟨(q : Int) + 1, RH⟩⟩ := by
        unfold cuI
        rw [HUe.out, hc1, HS.out, ← HRR.out, HRH.out, HRL.out, HS.out]
        push_cast
        rfl
      have hRn : R.length = n := by rw [← HRR.out]; unfold cuS; simp [Hn.out]
      have hbn : (cuB d.bs k (c1 + 1) ⟨(q : Int) + 1, RL⟩ ⟨(q : Int) + 1, RH⟩).length = m + 1 := by rw [cuB_len (by rw [Hm.out]; omega), Hm.out]
      have hI12 : W12.heap[w3.heap.size]? = some (.cells c 3 (0, 0)) := box_out (box_out (box_on HC.out s10) o11 (.inl (by have := box_lt HC.out; omega))) o12 (.inr (by omega))
      have hB12 : W12.heap[gB]? = _ := box_out HB11.out o12 (.inr (by omega))
      obtain ⟨al, cl', el, hl1, hl2⟩ := ((HNl.out.out' o11 (.inr (by omega))).out' o12 (.inr (by omega))).names
      obtain ⟨ah, ch', eh, hh1, hh2⟩ := (((HNh.out.below (Below.comp b7 (Below.comp b8 (Below.comp b9 b10)))).out' o11 (.inl (by omega))).out' o12 (.inr (by omega))).names
      cases el
      cases eh
      refine bodyPost_ret (v := .agg #[.int .i64 DP, .slice (some ⟨w3.heap.size, 0, none⟩) n n, .slice (some ⟨gB, 0, none⟩) (m + 1) yb]) (by simp [results, Try.results67, go_sem, t0, t1, t2]) rfl ⟨bw12, _, rfl, ?_, ?_⟩
      rotate_left
      · intro B C hC hV y0 a9 n9 c9 a9' c9' e9
        simp only [Value.agg.injEq, Array.mk.injEq, List.cons.injEq, Value.slice.injEq] at e9
        obtain ⟨-, ⟨rfl, -, -⟩, ⟨rfl, -, -⟩, -⟩ := e9
        refine ⟨fun _ ad had => ?_, fun _ ad had => ?_, fun i hi ad had na9 nl9 nc9 hc9 hn9 ad' had' => ?_⟩
        · cases had
          exact .inr (by show C ≤ w3.heap.size; have := bw3.size; omega)
        · cases had
          exact .inr (by show C ≤ gB; omega)
        · cases had
          rw [addN, Nat.zero_add] at hc9
          simp only [World.cell?, hB12] at hc9
          rcases cutRow_src (m := m) (by rw [HBk.out.1, Hm.out]) (by omega) (by omega) rfl hcc hszc i hi hc9 with e | e | ⟨j, hj, e⟩
          · cases e
            obtain ⟨u1, u2, u3, u4, u5⟩ := HNl.out
            cases u3
            obtain ⟨v1, v2, -⟩ := u5 (fun h => hn9 (by rw [h]; rfl))
            rw [v1] at had'
            cases had'
            exact .inr (by show C ≤ gl; omega)
          · cases e
            obtain ⟨u1, u2, u3, u4, u5⟩ := HNh.out
            cases u3
            obtain ⟨v1, v2, -⟩ := u5 (fun h => hn9 (by rw [h]; rfl))
            rw [v1] at had'
            cases had'
            exact .inr (by show C ≤ gh; omega)
          · exact HVS.out B C hV j hj _ _ _ e hn9 ad' had'
      rw [hcu]
      refine ⟨some ⟨w3.heap.size, 0, none⟩, n, some ⟨gB, 0, none⟩, yb, ?_, ?_, ?_, ?_, ?_⟩
      · show _ = dv d.dp _ R.length n _ (cuB d.bs k (c1 + 1) ⟨(q : Int) + 1, RL⟩ ⟨(q : Int) + 1, RH⟩).length yb
        rw [HDP.out, hRn, hbn]
      · show R.length ≤ n
        rw [hRn]
        exact Nat.le_refl _
      · show (cuB d.bs k (c1 + 1) ⟨(q : Int) + 1, RL⟩ ⟨(q : Int) + 1, RH⟩).length ≤ yb
        rw [hbn]
        exact hcap1
      · show Ints W12 _ R
        intro _
        refine ⟨w3.heap.size, 0, rfl, fun i hi => ?_⟩
        rw [hRn] at hi
        rw [Nat.zero_add]
        exact cell_of_block hI12 (HL.out i hi)
      · show Bks W12 _ (cuB d.bs k (c1 + 1) ⟨(q : Int) + 1, RL⟩ ⟨(q : Int) + 1, RH⟩)
        refine cutRow (cs := cs) (cc := cur) (HBk.out.below bw12) (by omega) (by rw [Hm.out]; omega) rfl (fun j hj => ?_) (by rw [Hm.out]; exact hszc) hB12 hl2 hl1 hh2 hh1
        rw [Hm.out] at hj
        exact hcc j hj
end Go.Proofs.Ytfmgaenedkjmkaa
