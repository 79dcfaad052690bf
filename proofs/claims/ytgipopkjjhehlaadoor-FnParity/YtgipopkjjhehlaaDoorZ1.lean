import Derived.Test.YtgipopkjjhehlaaDoorX7
namespace Go.Proofs.YtgipopkjjhehlaaDoor
open Go.ChangeShapes Go.WideShapes Go.ChangeAt Go.RowKit
set_option linter.unusedVariables false
open GF

/-- UpdateStripe: whether, and what it tells. -/
def okUpd (n : Nat) (D : Nat → ByteArray) (P Q : ByteArray) (t : Int) (u : ByteArray) : Bool := goodB n D P Q && decide (0 ≤ t ∧ t < (n : Int) ∧ u.size = P.size)
def updP (D : Nat → ByteArray) (P : ByteArray) (i : Nat) (u : ByteArray) : ByteArray := tx P.size fun k => bb P k ^^^ (bb (D i) k ^^^ bb u k)
def updQ (D : Nat → ByteArray) (P Q : ByteArray) (i : Nat) (u : ByteArray) : ByteArray := tx P.size fun k => bb Q k ^^^ gm (ex i) (bb (D i) k ^^^ bb u k)

set_option maxRecDepth 100000 in
set_option maxHeartbeats 4000000 in
theorem implUpd_any (a : Option Addr) (n cap : Nat) (D : Nat → ByteArray) (P Q : ByteArray) (t : Int) (u : ByteArray) (w : World) (hn : n ≤ 1048576) (hP : P.size ≤ 9223372036854775807) (hQ : Q.size ≤ 9223372036854775807) (hu : u.size ≤ 9223372036854775807) (hD : ∀ i, i < n → (D i).size ≤ 9223372036854775807) (hc : At w a n fun i => .string (D i)) (hT : Tab w) (hz0 : 0 < w.heap.size) :
    Calls Tryd.prog 18 #[sv a n cap P Q, .int .i64 t, .string u] w fun e w' => RO w e w' (okUpd n D P Q t u) (oneN n (okUpd n D P Q t u)) (upD D t.toNat u) (oneP (okUpd n D P Q t u) (updP D P t.toNat u)) (oneP (okUpd n D P Q t u) (updQ D P Q t.toNat u)) := by
  unfold sv
  obtain ⟨W0, hW0⟩ : ∃ W0, (w.alloc (.cells #[.slice a n cap, .string P, .string Q] 26)).alloc (.cells #[.slice none 0 0, .string ⟨#[]⟩, .string ⟨#[]⟩] 26) = W0 := ⟨_, rfl⟩
  have b0 : Below w.heap.size w W0 := by rw [← hW0]; exact (below_alloc w _).alloc (by simp) _
  have hsz : W0.heap.size = w.heap.size + 1 + 1 := by rw [← hW0]; simp
  have HS0 : Hid (W0.heap[w.heap.size]? = some (.cells #[.slice a n cap, .string P, .string Q] 26 (0, 0))) := by
    show W0.heap[w.heap.size]? = _
    rw [← hW0, Below.heap_alloc _ _ _ (by simp)]; exact heap_alloc_new _ _
  have HR0 : Hid (W0.heap[w.heap.size + 1]? = some (.cells #[.slice none 0 0, .string ⟨#[]⟩, .string ⟨#[]⟩] 26 (0, 0))) := by
    have := heap_alloc_new (w.alloc (.cells #[.slice a n cap, .string P, .string Q] 26)) (.cells #[.slice none 0 0, .string ⟨#[]⟩, .string ⟨#[]⟩] 26)
    rw [World.size_alloc, hW0] at this
    exact this
  obtain ⟨c0, c1, c2, -, -, -⟩ := box3_cells HS0.out
  have HSZ : Hid _ := hsz
  clear hsz
  have hsp := implGood_any a n cap D P Q W0 hn hP hQ hD (hc.below b0)
  have fin : ∀ w2, Below W0.heap.size W0 w2 → RO w (.returned (.tuple #[.agg #[.slice none 0 0, .string ⟨#[]⟩, .string ⟨#[]⟩], .bool false])) (((w2.setCell ⟨w.heap.size + 1, 0, none⟩ (.slice none 0 0)).setCell ⟨w.heap.size + 1, 1, none⟩ (.string ⟨#[]⟩)).setCell ⟨w.heap.size + 1, 2, none⟩ (.string ⟨#[]⟩)) false 0 (upD D t.toNat u) emp emp := fun w2 b2 =>
    ⟨(((b0.trans (b2.mono b0.size)).setCell (by simp) _).setCell (by simp) _).setCell (by simp) _, none, 0, rfl, .inl rfl⟩
  have done : ∀ (w1 : World), Below W0.heap.size W0 w1 → okUpd n D P Q t u = false → RO w (.returned (.tuple #[.agg #[.slice none 0 0, .string ⟨#[]⟩, .string ⟨#[]⟩], .bool false])) (((w1.setCell ⟨w.heap.size + 1, 0, none⟩ (.slice none 0 0)).setCell ⟨w.heap.size + 1, 1, none⟩ (.string ⟨#[]⟩)).setCell ⟨w.heap.size + 1, 2, none⟩ (.string ⟨#[]⟩)) (okUpd n D P Q t u) (oneN n (okUpd n D P Q t u)) (upD D t.toNat u) (oneP (okUpd n D P Q t u) (updP D P t.toNat u)) (oneP (okUpd n D P Q t u) (updQ D P Q t.toNat u)) := fun w1 b1 hok => by rw [hok]; exact fin w1 b1
  clear fin
  have DONE : Hid _ := done
  clear done
  cases hg : goodB n D P Q
  · rw [hg] at hsp
    have hok : okUpd n D P Q t u = false := by simp [okUpd, hg]
    have HOK : Hid _ := hok
    clear hok
    go_enter Tryd.func18, Tryd.ntmps18
    go_wp2_with fail
    refine hsp.mono ?_
    rintro e w1 ⟨rfl, b1⟩
    obtain ⟨r0, r1, r2, q0, q1, q2⟩ := box3_cells (box_on HR0.out b1)
    clear c0 c1 c2
    go_wp2
    exact bodyPost_ret (v := .tuple #[.agg #[.slice none 0 0, .string ⟨#[]⟩, .string ⟨#[]⟩], .bool false]) (by simp [results, Tryd.results18, go_sem, r0, r1, r2]) rfl (DONE.out w1 b1 HOK.out)
  rw [hg] at hsp
  by_cases ht : 0 ≤ t ∧ t < (n : Int) ∧ u.size = P.size
  case neg =>
    have hok : okUpd n D P Q t u = false := by simp only [okUpd, hg, Bool.true_and]; exact decide_eq_false ht
    have HOK : Hid _ := hok
    have arms : (decide (t < 0) = true) ∨ (decide (t < 0) = false ∧ decide ((n : Int) ≤ t) = true) ∨ (decide (t < 0) = false ∧ decide ((n : Int) ≤ t) = false ∧ ((u.size : Int) != (P.size : Int)) = true) := by
      by_cases h1 : 0 ≤ t
      · by_cases h2 : t < (n : Int)
        · exact .inr (.inr ⟨decide_eq_false (by omega), decide_eq_false (by omega), by simp only [bne_iff_ne, ne_eq]; exact fun h => ht ⟨h1, h2, by omega⟩⟩)
        · exact .inr (.inl ⟨decide_eq_false (by omega), decide_eq_true (by omega)⟩)
      · exact .inl (decide_eq_true (by omega))
    clear hok ht
    rcases arms with h1 | ⟨h1, h2⟩ | ⟨h1, h2, h3⟩
    all_goals
      go_enter Tryd.func18, Tryd.ntmps18
      go_wp2_with fail
      refine hsp.mono ?_
      rintro e w1 ⟨rfl, b1⟩
      obtain ⟨r0, r1, r2, q0, q1, q2⟩ := box3_cells (box_on HR0.out b1)
      replace c0 := cell_on c0 b1
      replace c1 := cell_on c1 b1
      replace c2 := cell_on c2 b1
      go_wp2
      exact bodyPost_ret (v := .tuple #[.agg #[.slice none 0 0, .string ⟨#[]⟩, .string ⟨#[]⟩], .bool false]) (by simp [results, Tryd.results18, go_sem, r0, r1, r2]) rfl (DONE.out w1 b1 HOK.out)
  have hok : okUpd n D P Q t u = true := by simp only [okUpd, hg, Bool.true_and]; exact decide_eq_true ht
  clear DONE
  obtain ⟨ht0, ht1, huP⟩ := ht
  obtain ⟨i, rfl⟩ : ∃ i : Nat, t = (i : Int) := ⟨t.toNat, by omega⟩
  have hi : i < n := by omega
  rw [hok]
  simp only [Int.toNat_natCast, oneN, oneP, if_true]
  obtain ⟨hn1, hn2, hL, hDs, hQs⟩ := goodB_spec hg
  have HDS : Hid _ := hDs
  have HQS : Hid _ := hQs
  have huP' : (u.size : Int) = (P.size : Int) := by omega
  have HUP : Hid _ := huP
  clear hDs hQs huP
  go_enter Tryd.func18, Tryd.ntmps18
  go_wp2_with fail
  refine hsp.mono ?_
  rintro e w1 ⟨rfl, b1⟩
  replace c0 := cell_on c0 b1
  replace c1 := cell_on c1 b1
  replace c2 := cell_on c2 b1
  have g1 := b0.trans (b1.mono b0.size)
  have zz1 := g1.size
  clear hsp
  go_wp2_with fail
  refine (countsOf_any a n cap P Q i _ hn (by omega) (hT.below g1 hz0) (by omega)).mono ?_
  rintro e w2 ⟨rfl, b2⟩
  rw [cp_d hi, cq_d hi]
  obtain ⟨v2, hv2⟩ : ∃ v2, w2.alloc (.cells #[.int .u8 1, .int .u8 (ex i : Int)] 58) = v2 := ⟨_, rfl⟩
  have q2' : Below w2.heap.size w2 v2 := by rw [← hv2]; exact below_alloc _ _
  have HK : Hid (v2.heap[w2.heap.size]? = some (.cells #[.int .u8 1, .int .u8 (ex i : Int)] 58 (0, 0))) := by
    show v2.heap[w2.heap.size]? = _
    rw [← hv2]; exact heap_alloc_new _ _
  have b12 := Below.comp (Below.comp b1 b2) q2'
  have HS2 : Hid _ := box_on HS0.out b12
  have HR2 : Hid _ := box_on HR0.out b12
  have g2 := b0.trans (b12.mono b0.size)
  have sv2 : v2.heap.size = w2.heap.size + 1 := by rw [← hv2]; simp
  have zb := b2.size
  have zb1 := b1.size
  have hszz := HSZ.out
  clear c0 c1 c2 HS0 HR0 b1 b2 q2' b12
  obtain ⟨c0, c1, c2, -, -, -⟩ := box3_cells HS2.out
  have hmk := make_any (P := Tryd.prog) 22 5 _ 1 1 Tryd.underlying22 info5 .i64 .i64 P.size (by omega) (by omega)
  have SV2 : Hid _ := sv2
  clear sv2 hW0
  go_wp2
  clear hv2
  go_cut [9, 10] (fun p q wx => ∃ r1 r2, p = .slice (some ⟨r1, 0, none⟩) P.size P.size ∧ q = .slice (some ⟨r2, 0, none⟩) P.size P.size ∧ r1 ≠ r2 ∧ v2.heap.size ≤ r1 ∧ v2.heap.size ≤ r2 ∧ r1 < v2.heap.size + 2 ∧ r2 < v2.heap.size + 2 ∧ wx.heap[r1]? = some (.cells (made (.int .u8 0) P.size) 5 (0, 0)) ∧ wx.heap[r2]? = some (.cells (made (.int .u8 0) P.size) 5 (0, 0)) ∧ Below v2.heap.size v2 wx ∧ wx.heap.size = v2.heap.size + 2)
  case first =>
    go_region
    all_goals go_wp2_with fail
    all_goals go_meet
    · refine ⟨v2.heap.size, v2.heap.size + 1, rfl, rfl, by omega, by omega, by omega, by omega, by omega, ?_, ?_, ((below_alloc v2 _).alloc (by simp) _).drew, by simp⟩
      · show ((v2.alloc _).alloc _).heap[v2.heap.size]? = _
        rw [Below.heap_alloc _ _ _ (by simp)]; exact heap_alloc_new _ _
      · have := heap_alloc_new (v2.alloc (.cells (made (.int .u8 0) P.size) 5)) (.cells (made (.int .u8 0) P.size) 5)
        rw [World.size_alloc] at this
        exact this
    · refine ⟨v2.heap.size + 1, v2.heap.size, rfl, rfl, by omega, by omega, by omega, by omega, by omega, ?_, ?_, ((below_alloc v2 _).alloc (by simp) _).drew, by simp⟩
      · have := heap_alloc_new (v2.alloc (.cells (made (.int .u8 0) P.size) 5)) (.cells (made (.int .u8 0) P.size) 5)
        rw [World.size_alloc] at this
        exact this
      · show ((v2.alloc _).alloc _).heap[v2.heap.size]? = _
        rw [Below.heap_alloc _ _ _ (by simp)]; exact heap_alloc_new _ _
  obtain ⟨r1, r2, rfl, rfl, hr12, hr1, hr2, hr1', hr2', hR1, hR2, bel, hsw⟩ := hcut
  generalize wc = W4 at *
  have HS4 : Hid _ := box_on HS2.out bel
  have HRR4 : Hid _ := box_on HR2.out bel
  have HK4 : Hid _ := box_on HK.out bel
  have g4 := g2.trans (bel.mono g2.size)
  have hkl := box_lt HK.out
  clear HS2 HR2 HK hmk c0 c1 c2
  obtain ⟨ff, hff⟩ : ∃ ff : Nat → Nat, ff = fun k => bb (D i) k ^^^ bb u k := ⟨_, rfl⟩
  obtain ⟨fq, hfq⟩ : ∃ fq : Nat → Nat, fq = fun k => gm (ex i) (bb (D i) k ^^^ bb u k) := ⟨_, rfl⟩
  have HFF : Hid _ := hff
  have HFQ : Hid _ := hfq
  have HR1 : Hid _ := hR1
  have HR2 : Hid _ := hR2
  have HSW : Hid _ := hsw
  have hDi : (D i).size = P.size := HDS.out i hi
  have HDI : Hid _ := hDi
  obtain ⟨ba, oa, hae, hca⟩ := hc (by omega)
  have hai := hca i hi
  have hbal := lt_of_cell hai
  subst hae
  have hai4 := (g4.cell (p := ⟨ba, oa + i, none⟩) hbal).trans hai
  have zg4 := g4.size
  clear hff hfq hR1 hR2 hsw hDi hca
  go_wp2
  generalize hLL : P.size = L at *
  go_loopw [47] (fun iv wr => ∃ (k : Nat) (c1 c2 : Array Value), k ≤ L ∧ iv = .int .i64 k ∧ wr.heap[r1]? = some (.cells c1 5 (0, 0)) ∧ wr.heap[r2]? = some (.cells c2 5 (0, 0)) ∧ bys L (mx2 (fun _ => 0) ff k) c1 ∧ bys L (mx2 (fun _ => 0) fq k) c2 ∧ Out v2.heap.size (v2.heap.size + 2) W4 wr) (fun iv _ => L - (intOf iv).toNat)
  case atStart => exact ⟨0, _, _, Nat.zero_le _, rfl, HR1.out, HR2.out, bys_made L, bys_made L, Out.refl _ _ _⟩
  case round =>
    obtain ⟨k, c1, c2, hk, rfl, hR1, hR2, hst1, hst2, ho⟩ := hrel
    have zo := ho.size
    by_cases hlt : k < L
    · have hlt' : (k : Int) < (L : Int) := by omega
      have hp1 := hst1 k hlt
      have hp2 := hst2 k hlt
      rw [mx2_at] at hp1 hp2
      have t1 := cell_of_block hR1 hp1
      have t2 := cell_of_block hR2 hp2
      have ft1 := free_of_block (i := k) hR1
      obtain ⟨c0, -, -, -, -, -⟩ := box3_cells (box_out HS4.out ho (by omega))
      have hai' := cell_out ho hai4 (by omega)
      have hidx1 := run_idx (D i) k (by rw [HDI.out]; exact hlt)
      have hidx2 := run_idx u k (by rw [HUP.out]; exact hlt)
      have hx1 := bits_u8_xor (bb_lt (D i) k) (bb_lt u k)
      have hfk : ff k = bb (D i) k ^^^ bb u k := by rw [HFF.out]
      have hfqk : fq k = gm (ex i) (ff k) := by rw [HFQ.out, HFF.out]
      have hffl : ff k < 256 := by rw [hfk]; exact xor_lt (bb_lt _ _) (bb_lt _ _)
      rw [← hfk] at hx1
      have HFK : Hid _ := hfk
      have HFQK : Hid _ := hfqk
      have HR1' : Hid _ := hR1
      have HR2' : Hid _ := hR2
      obtain ⟨W5, hW5⟩ : ∃ W5, (wr.setCell ⟨r1, k, none⟩ (.int .u8 (ff k : Int))).drew = W5 := ⟨_, rfl⟩
      have o5 : Out v2.heap.size (v2.heap.size + 2) W4 W5 := by rw [← hW5]; exact (ho.setCell hr1 hr1' _ _).trans (Out.drew _ _ _)
      have HR15 : Hid (W5.heap[r1]? = some (.cells (c1.setIfInBounds k (.int .u8 (ff k : Int))) 5 (0, 0))) := by
        show W5.heap[r1]? = _
        rw [← hW5]; exact block_set (w := wr) HR1'.out
      have HR25 : Hid (W5.heap[r2]? = some (.cells c2 5 (0, 0))) := by
        show W5.heap[r2]? = _
        rw [← hW5]; exact box_out (w := wr) HR2'.out ((out_setCell wr r1 k _).trans (Out.drew _ _ _)) (by omega)
      have t15 := cell_of_block HR15.out (set_at (Array.getElem?_eq_some_iff.1 hp1).1 _)
      have t25 := cell_of_block HR25.out hp2
      have ft25 := free_of_block (i := k) HR25.out
      have kk5 : W5.cell? ⟨w2.heap.size, 1, none⟩ = some (.int .u8 (ex i : Int)) := cell_of_block (box_out HK4.out o5 (by omega)) rfl
      have TW5 : Tab W5 := (hT.below g4 hz0).out o5 (by omega)
      clear hR1 hR2 hfk hfqk
      have HS8 : Hid (∀ W, Out v2.heap.size (v2.heap.size + 2) W4 W → (W.cell? ⟨w.heap.size, 0, none⟩ = some (.slice (some ⟨ba, oa, none⟩) n cap) ∧ W.cell? ⟨ba, oa + i, none⟩ = some (.string (D i)) ∧ Out v2.heap.size (v2.heap.size + 2) W4 W)) := fun W hW => ⟨cell_of_block (box_out HS4.out hW (by omega)) rfl, cell_out hW hai4 (by omega), hW⟩
      go_wp2
      go_region_held3 (fun W => W.cell? ⟨w.heap.size, 0, none⟩ = some (.slice (some ⟨ba, oa, none⟩) n cap) ∧ W.cell? ⟨ba, oa + i, none⟩ = some (.string (D i)) ∧ Out v2.heap.size (v2.heap.size + 2) W4 W)
        ((refine HS8.out _ ?_; first | assumption | exact Out.trans ho (Out.drew _ _ _) | exact Out.setCell (Out.trans ho (Out.drew _ _ _)) hr1 hr1' _ _ | exact Out.trans (Out.setCell ho hr1 hr1' _ _) (Out.drew _ _ _))) (fail)
      all_goals go_wp2
      all_goals clear hW5 t1 t2 ft1 c0 hai'
      all_goals
        have HS9 : Hid (∀ W, Out r2 (r2 + 1) W5 W → (W.cell? ⟨w2.heap.size, 1, none⟩ = some (.int .u8 (ex i : Int)) ∧ W.cell? ⟨r1, k, none⟩ = some (.int .u8 (ff k : Int)) ∧ Hid (Tab W) ∧ Out r2 (r2 + 1) W5 W)) := fun W hW => ⟨cell_out hW kk5 (by omega), cell_out hW t15 (by omega), TW5.out hW (by omega), hW⟩
        go_region_held3 (fun W => W.cell? ⟨w2.heap.size, 1, none⟩ = some (.int .u8 (ex i : Int)) ∧ W.cell? ⟨r1, k, none⟩ = some (.int .u8 (ff k : Int)) ∧ Hid (Tab W) ∧ Out r2 (r2 + 1) W5 W)
          ((refine HS9.out _ ?_; first | assumption | exact Out.drew _ _ _ | exact Out.setCell (Out.drew _ _ _) (Nat.le_refl _) (Nat.lt_succ_self _) _ _ | exact Out.trans (Out.setCell (Out.refl _ _ _) (Nat.le_refl _) (Nat.lt_succ_self _) _ _) (Out.drew _ _ _)))
          (first
          | (go_at_call 41; obtain ⟨-, -, hTT, hw0⟩ := ‹_ ∧ _ ∧ Hid (Tab _) ∧ Out r2 (r2 + 1) W5 _›; refine (fieldMul_any (ex i) (ff k) _ (ex_lt i) hffl hTT.out).mono ?_; rintro e w7 ⟨rfl, rfl⟩))
        all_goals go_wp2
        all_goals
          go_roundw
          case rel =>
            refine ⟨k + 1, _, _, by omega, by go_num, box_out HR15.out ((out_setCell W5 r2 k _).trans (Out.drew _ _ _)) (by omega), block_set (w := W5) HR25.out, bys_stepz hst1 hlt, ?_, (o5.setCell hr2 hr2' _ _).trans (Out.drew _ _ _)⟩
            rw [← HFQK.out]
            exact bys_stepz hst2 hlt
          case measure => simp [intOf]; omega
    · obtain rfl : k = L := by omega
      have hlt' : ¬ (k : Int) < (k : Int) := by omega
      subst hLL
      have hffl : ∀ k, ff k < 256 := fun k => by rw [HFF.out]; exact xor_lt (bb_lt _ _) (bb_lt _ _)
      have hfql : ∀ k, fq k < 256 := fun k => by rw [HFQ.out]; exact gm_lt _ (ex_lt i)
      have x1 : At wr (some ⟨r1, 0, none⟩) P.size (by' ff) := fun _ => ⟨_, 0, rfl, fun j hj => by rw [Nat.zero_add, cell_of_block hR1 (hst1 j hj), mx2_all hj]; rfl⟩
      have x2 : At wr (some ⟨r2, 0, none⟩) P.size (by' fq) := fun _ => ⟨_, 0, rfl, fun j hj => by rw [Nat.zero_add, cell_of_block hR2 (hst2 j hj), mx2_all hj]; rfl⟩
      have gr : Below w.heap.size w wr := g4.trans ((ho.below (by have := HSW.out; omega)).mono (by omega))
      have hU1 : (tx P.size fun k => bb (dt n D P Q i) k ^^^ ff k) = u := by
        rw [dt_d hi, HFF.out, ← tx_bb' HUP.out]
        refine tx_congr fun k hk => ?_
        rw [tx_bb' HUP.out]
        exact xor_self_left _ _
      have hw1 := withChange_any (some ⟨ba, oa, none⟩) n cap D P Q i (some ⟨r1, 0, none⟩) P.size ff wr hg (by omega) hffl x1 (hc.below gr)
      rw [hU1, sP_n (by omega), sQ_n (by omega), sD_d hi] at hw1
      have hg2 : goodB n (upD D i u) P Q = true := by
        have := good_set (i := i) (u := u) hg HUP.out
        rw [sP_n (by omega), sQ_n (by omega), sD_d hi] at this
        exact this
      have hU2 : (tx P.size fun k => bb (dt n (upD D i u) P Q n) k ^^^ ff k) = updP D P i u := by rw [dt_p, HFF.out]; rfl
      have hpz : (updP D P i u).size = P.size := tx_size _ _
      have hg3 : goodB n (upD D i u) (updP D P i u) Q = true := by
        have := good_set (i := n) (u := updP D P i u) hg2 hpz
        rw [sP_p, sQ_n (by omega), sD_n (by omega)] at this
        exact this
      have hU3 : (tx (updP D P i u).size fun k => bb (dt n (upD D i u) (updP D P i u) Q (n + 1)) k ^^^ fq k) = updQ D P Q i u := by rw [dt_q, HFQ.out, hpz]; rfl
      have HU2 : Hid _ := hU2
      have HU3 : Hid _ := hU3
      have HPZ : Hid _ := hpz
      have zo2 := ho.size
      have hr1l := box_lt hR1
      have hr2l := box_lt hR2
      obtain ⟨c0, c1', c2', -, -, -⟩ := box3_cells (box_out HS4.out ho (by omega))
      have HSr : Hid _ := box_out HS4.out ho (by omega)
      have HRr : Hid _ := box_out HRR4.out ho (by omega)
      clear hR1 hR2 hst1 hst2 hU1 hU2 hU3 hpz
      go_wp2_with fail
      refine hw1.mono ?_
      rintro e w5 ⟨b5, y, cy, rfl, m5⟩
      obtain ⟨v5, hv5⟩ : ∃ v5, w5.alloc (.cells #[.slice y n cy, .string P, .string Q] 26) = v5 := ⟨_, rfl⟩
      have q5 : Below w5.heap.size w5 v5 := by rw [← hv5]; exact below_alloc _ _
      have HB5 : Hid (v5.heap[w5.heap.size]? = some (.cells #[.slice y n cy, .string P, .string Q] 26 (0, 0))) := by
        show v5.heap[w5.heap.size]? = _
        rw [← hv5]; exact heap_alloc_new _ _
      have sv5 : v5.heap.size = w5.heap.size + 1 := by rw [← hv5]; simp
      have b55 := Below.comp b5 q5
      have HS5 : Hid _ := box_on HSr.out b55
      have HR5 : Hid _ := box_on HRr.out b55
      have g5 := gr.trans (b55.mono gr.size)
      have x15 := x1.below b55
      have x25 := x2.below b55
      have m5' := m5.below q5
      have z5 := b5.size
      have hw2 := withChange_any y n cy (upD D i u) P Q n (some ⟨r1, 0, none⟩) P.size ff v5 hg2 (by omega) hffl x15 m5'.strs
      rw [HU2.out, sP_p, sQ_n (by omega), sD_n (by omega)] at hw2
      clear c0 c1' c2' hw1 b5 q5 b55 m5
      obtain ⟨c0, c1', c2', -, -, -⟩ := box3_cells HS5.out
      obtain ⟨d0, d1, d2, e0, e1, e2⟩ := box3_cells HB5.out
      have SV5 : Hid _ := sv5
      go_wp2_with fail
      clear hv5
      refine hw2.mono ?_
      rintro e w6 ⟨b6, y2, cy2, rfl, m6⟩
      have HS6 : Hid _ := box_on HS5.out b6
      have HR6 : Hid _ := box_on HR5.out b6
      have HB6 : Hid _ := box_on HB5.out b6
      have z6 := b6.size
      obtain ⟨v6, hv6⟩ : ∃ v6, ((w6.setCell ⟨w5.heap.size, 0, none⟩ (.slice y2 n cy2)).setCell ⟨w5.heap.size, 1, none⟩ (.string (updP D P i u))).setCell ⟨w5.heap.size, 2, none⟩ (.string Q) = v6 := ⟨_, rfl⟩
      have o6 : Out w5.heap.size (w5.heap.size + 1) w6 v6 := by rw [← hv6]; exact (((Out.refl w5.heap.size (w5.heap.size + 1) w6).setCell (by omega) (by omega) _ _).setCell (by omega) (by omega) _ _).setCell (by omega) (by omega) _ _
      have HB6' : Hid (v6.heap[w5.heap.size]? = some (.cells #[.slice y2 n cy2, .string (updP D P i u), .string Q] 26 (0, 0))) := by
        show v6.heap[w5.heap.size]? = _
        rw [← hv6]; exact box3_set HB6.out
      have HS6' : Hid _ := box_out HS6.out o6 (by omega)
      have HR6' : Hid _ := box_out HR6.out o6 (by omega)
      have m6' := m6.out o6 (by omega)
      have g6 : Below w.heap.size w v6 := (g5.trans (b6.mono (by omega))).trans ((o6.below (by omega)).mono (by omega))
      have x26 : At v6 (some ⟨r2, 0, none⟩) P.size (by' fq) := by
        intro hne
        obtain ⟨bb2, oo2, ee, hh⟩ := (x25.below b6) hne
        cases ee
        exact ⟨r2, 0, rfl, fun j hj => cell_out o6 (hh j hj) (by omega)⟩
      have hw3 := withChange_any y2 n cy2 (upD D i u) (updP D P i u) Q (n + 1) (some ⟨r2, 0, none⟩) P.size fq v6 hg3 (by omega) hfql (by rw [HPZ.out]; exact x26) m6'.strs
      rw [HU3.out, sP_n (by omega), sQ_q, sD_n (by omega), HPZ.out] at hw3
      have hnn : ((n + 1 : Nat) : Int) = (n : Int) + 1 := by omega
      rw [hnn] at hw3
      have zo6 := o6.size
      clear c0 c1' c2' hw2 b6 m6 d0 d1 d2 e0 e1 e2 hnn
      obtain ⟨_, _, _, e0, e1, e2⟩ := box3_cells HB6.out
      obtain ⟨c0, c1', c2', -, -, -⟩ := box3_cells HS6'.out
      obtain ⟨d0, d1, d2, -, -, -⟩ := box3_cells HB6'.out
      go_wp2_with fail
      clear hv6
      refine hw3.mono ?_
      rintro e w7 ⟨b7, y3, cy3, rfl, m7⟩
      obtain ⟨r0, r1', r2', q0, q1, q2⟩ := box3_cells (box_on HR6'.out b7)
      have g7 := g6.trans (b7.mono g6.size)
      have z7 := b7.size
      clear c0 c1' c2' d0 d1 d2 e0 e1 e2 hw3
      go_wp2
      refine bodyPost_ret (v := .tuple #[sv y3 n cy3 (updP D P i u) (updQ D P Q i u), .bool true]) (by simp [results, Tryd.results18, go_sem, r0, r1', r2']) rfl ⟨?_, y3, cy3, rfl, ?_⟩
      · refine ((g7.setCell ?_ _).setCell ?_ _).setCell ?_ _ <;> simp
      · refine (((m7.out (out_setCell _ (w.heap.size + 1) 0 _) (by omega)).out (out_setCell _ (w.heap.size + 1) 1 _) (by omega)).out (out_setCell _ (w.heap.size + 1) 2 _) (by omega)).mono (by omega) ?_
        simp
end Go.Proofs.YtgipopkjjhehlaaDoor
