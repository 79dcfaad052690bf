import Derived.Test.YtgipopkjjhehlaaDoorX7
import Derived.Test.YtgipopkjjhehlaaDoorV0
namespace Go.Proofs.YtgipopkjjhehlaaDoor
open Go.ChangeShapes Go.WideShapes Go.ChangeAt Go.RowKit
set_option linter.unusedVariables false
open GF

/-- RecoverTwo: whether, and the two texts (that of disk i, the other one being j). -/
def okTwo (n : Nat) (D : Nat → ByteArray) (P Q : ByteArray) (s t : Int) : Bool := goodB n D P Q && decide (0 ≤ s ∧ s ≤ (n : Int) + 1 ∧ 0 ≤ t ∧ t ≤ (n : Int) + 1 ∧ ¬ s = t)
def twoU (n : Nat) (D : Nat → ByteArray) (P Q : ByteArray) (i j : Nat) : ByteArray := tx P.size fun k => bb (dt n D P Q i) k ^^^ ch n i j (sp n (dby D k) (bb P k)) (sq' n (dby D k) (bb Q k))
theorem twoU_size (n : Nat) (D : Nat → ByteArray) (P Q : ByteArray) (i j : Nat) : (twoU n D P Q i j).size = P.size := tx_size _ _
/-- Both disks turned. -/
def tD (n : Nat) (D : Nat → ByteArray) (P Q : ByteArray) (i j : Nat) : Nat → ByteArray := sD n (sD n D i (twoU n D P Q i j)) j (twoU n D P Q j i)
def tP (n : Nat) (D : Nat → ByteArray) (P Q : ByteArray) (i j : Nat) : ByteArray := sP n (sP n P i (twoU n D P Q i j)) j (twoU n D P Q j i)
def tQ (n : Nat) (D : Nat → ByteArray) (P Q : ByteArray) (i j : Nat) : ByteArray := sQ n (sQ n Q i (twoU n D P Q i j)) j (twoU n D P Q j i)
theorem dt_set_ne {n : Nat} {D : Nat → ByteArray} {P Q : ByteArray} {i j : Nat} {u : ByteArray} (hi : i < n + 2) (hj : j < n + 2) (h : ¬ i = j) : dt n (sD n D i u) (sP n P i u) (sQ n Q i u) j = dt n D P Q j := by
  unfold dt sD sP sQ upD
  by_cases h1 : j < n
  · rw [if_pos h1, if_pos h1]
    split
    · exact if_neg (by omega)
    · rfl
  · rw [if_neg h1, if_neg h1]
    by_cases h2 : j = n
    · rw [if_pos h2, if_pos h2, if_neg (by omega)]
    · rw [if_neg h2, if_neg h2, if_neg (by omega)]

theorem wp_region_heldN {P : Program} {ops : Array Oper} {Q : Exit → Act → World → Prop} {id : Nat} {a : Act} {w : World} (S : World → Prop) (N : Nat) (hm : P.follows .mixedOrders = true) (hN : ops.size = N) (hS : S w.drew)
    (h : S w.drew → wpAnyH P .any ops Q S N (Array.replicate N false) a w.drew) : (Code.region id ops true).wp P Q a w := by
  subst hN
  exact wp_region_held_drew hm hS h
theorem box2_set {w : World} {b : Nat} {v0 v1 x0 x1 : Value} {e : TypeId} {z : Nat × Nat} (h : w.heap[b]? = some (.cells #[v0, v1] e z)) :
    ((w.setCell ⟨b, 0, none⟩ x0).setCell ⟨b, 1, none⟩ x1).heap[b]? = some (.cells #[x0, x1] e z) := by
  rw [block_setz (block_setz h)]; rfl
theorem box2_cells {w : World} {b : Nat} {v0 v1 : Value} {e : TypeId} (h : w.heap[b]? = some (.cells #[v0, v1] e (0, 0))) :
    w.cell? ⟨b, 0, none⟩ = some v0 ∧ w.cell? ⟨b, 1, none⟩ = some v1 ∧ w.frozen? ⟨b, 0, none⟩ = false ∧ w.frozen? ⟨b, 1, none⟩ = false :=
  ⟨cell_of_block h rfl, cell_of_block h rfl, free_of_block h, free_of_block h⟩

set_option maxRecDepth 100000 in
set_option maxHeartbeats 4000000 in
theorem implTwo_any (a : Option Addr) (n cap : Nat) (D : Nat → ByteArray) (P Q : ByteArray) (s t : Int) (w : World) (hn : n ≤ 1048576) (hP : P.size ≤ 9223372036854775807) (hQ : Q.size ≤ 9223372036854775807) (hD : ∀ i, i < n → (D i).size ≤ 9223372036854775807) (hc : At w a n fun i => .string (D i)) (hT : Tab w) (hz0 : 0 < w.heap.size) :
    Calls Tryd.prog 12 #[sv a n cap P Q, .int .i64 s, .int .i64 t] w fun e w' => RO w e w' (okTwo n D P Q s t) (oneN n (okTwo n D P Q s t)) (tD n D P Q s.toNat t.toNat) (oneP (okTwo n D P Q s t) (tP n D P Q s.toNat t.toNat)) (oneP (okTwo n D P Q s t) (tQ n D P Q s.toNat t.toNat)) := by
  unfold sv
  obtain ⟨W0, hW0⟩ : ∃ W0, (w.alloc (.cells #[.slice a n cap, .string P, .string Q] 26)).alloc (.cells #[.slice none 0 0, .string ⟨#[]⟩, .string ⟨#[]⟩] 26) = W0 := ⟨_, rfl⟩
  have b0 : Below w.heap.size w W0 := by rw [← hW0]; exact (below_alloc w _).alloc (by simp) _
  have hsz : W0.heap.size = w.heap.size + 1 + 1 := by rw [← hW0]; simp
  have HS0 : Hid (W0.heap[w.heap.size]? = some (.cells #[.slice a n cap, .string P, .string Q] 26 (0, 0))) := by
    show W0.heap[w.heap.size]? = _
    rw [← hW0, Below.heap_alloc _ _ _ (by simp)]; exact heap_alloc_new _ _
  have HR0 : Hid (W0.heap[w.heap.size + 1]? = some (.cells #[.slice none 0 0, .string ⟨#[]⟩, .string ⟨#[]⟩] 26 (0, 0))) := by
    have := heap_alloc_new (w.alloc (.cells #[.slice a n cap, .string P, .string Q] 26)) (.cells #[.slice none 0 0, .string ⟨#[]⟩, .string ⟨#[]⟩] 26)
    rw [World.size_alloc, hW0] at this
    exact this
  obtain ⟨c0, c1, c2, -, -, -⟩ := box3_cells HS0.out
  have HSZ : Hid _ := hsz
  clear hsz
  have hsp := implGood_any a n cap D P Q W0 hn hP hQ hD (hc.below b0)
  have fin : ∀ w2, Below W0.heap.size W0 w2 → RO w (.returned (.tuple #[.agg #[.slice none 0 0, .string ⟨#[]⟩, .string ⟨#[]⟩], .bool false])) (((w2.setCell ⟨w.heap.size + 1, 0, none⟩ (.slice none 0 0)).setCell ⟨w.heap.size + 1, 1, none⟩ (.string ⟨#[]⟩)).setCell ⟨w.heap.size + 1, 2, none⟩ (.string ⟨#[]⟩)) false 0 (tD n D P Q s.toNat t.toNat) emp emp := fun w2 b2 =>
    ⟨(((b0.trans (b2.mono b0.size)).setCell (by simp) _).setCell (by simp) _).setCell (by simp) _, none, 0, rfl, .inl rfl⟩
  cases hg : goodB n D P Q
  · rw [hg] at hsp
    have hok : okTwo n D P Q s t = false := by simp [okTwo, hg]
    have HOK : Hid _ := hok
    clear hok
    go_enter Tryd.func12, Tryd.ntmps12
    go_wp2_with fail
    refine hsp.mono ?_
    rintro e w1 ⟨rfl, b1⟩
    obtain ⟨r0, r1, r2, q0, q1, q2⟩ := box3_cells (box_on HR0.out b1)
    clear c0 c1 c2
    go_wp2
    exact bodyPost_ret (v := .tuple #[.agg #[.slice none 0 0, .string ⟨#[]⟩, .string ⟨#[]⟩], .bool false]) (by simp [results, Tryd.results12, go_sem, r0, r1, r2]) rfl (by rw [HOK.out]; exact fin _ b1)
  rw [hg] at hsp
  by_cases hs1 : 0 ≤ s ∧ s ≤ (n : Int) + 1
  case neg =>
    have hok : okTwo n D P Q s t = false := by simp only [okTwo, hg, Bool.true_and]; exact decide_eq_false (by omega)
    have HOK : Hid _ := hok
    clear hok
    go_enter Tryd.func12, Tryd.ntmps12
    go_wp2_with fail
    refine hsp.mono ?_
    rintro e w1 ⟨rfl, b1⟩
    replace c0 := cell_on c0 b1
    replace c1 := cell_on c1 b1
    replace c2 := cell_on c2 b1
    go_wp2_with fail
    refine (hasDisk_any a n cap P Q s _ hn).mono ?_
    rintro e w2 ⟨rfl, b2⟩
    rw [decide_eq_false hs1]
    have b12 := Below.comp b1 b2
    obtain ⟨r0, r1, r2, q0, q1, q2⟩ := box3_cells (box_on HR0.out b12)
    clear c0 c1 c2
    go_wp2
    exact bodyPost_ret (v := .tuple #[.agg #[.slice none 0 0, .string ⟨#[]⟩, .string ⟨#[]⟩], .bool false]) (by simp [results, Tryd.results12, go_sem, r0, r1, r2]) rfl (by rw [HOK.out]; exact fin _ b12)
  by_cases ht1 : 0 ≤ t ∧ t ≤ (n : Int) + 1
  case neg =>
    have hok : okTwo n D P Q s t = false := by simp only [okTwo, hg, Bool.true_and]; exact decide_eq_false (by omega)
    have HOK : Hid _ := hok
    clear hok
    go_enter Tryd.func12, Tryd.ntmps12
    go_wp2_with fail
    refine hsp.mono ?_
    rintro e w1 ⟨rfl, b1⟩
    replace c0 := cell_on c0 b1
    replace c1 := cell_on c1 b1
    replace c2 := cell_on c2 b1
    go_wp2_with fail
    refine (hasDisk_any a n cap P Q s _ hn).mono ?_
    rintro e w2 ⟨rfl, b2⟩
    rw [decide_eq_true hs1]
    have b12 := Below.comp b1 b2
    replace c0 := cell_on c0 b2
    replace c1 := cell_on c1 b2
    replace c2 := cell_on c2 b2
    go_wp2_with fail
    refine (hasDisk_any a n cap P Q t _ hn).mono ?_
    rintro e w3 ⟨rfl, b3⟩
    rw [decide_eq_false ht1]
    have b13 := Below.comp b12 b3
    obtain ⟨r0, r1, r2, q0, q1, q2⟩ := box3_cells (box_on HR0.out b13)
    clear c0 c1 c2
    go_wp2
    exact bodyPost_ret (v := .tuple #[.agg #[.slice none 0 0, .string ⟨#[]⟩, .string ⟨#[]⟩], .bool false]) (by simp [results, Tryd.results12, go_sem, r0, r1, r2]) rfl (by rw [HOK.out]; exact fin _ b13)
  by_cases hst : s = t
  case pos =>
    have hok : okTwo n D P Q s t = false := by simp only [okTwo, hg, Bool.true_and]; exact decide_eq_false (by omega)
    have HOK : Hid _ := hok
    clear hok
    subst hst
    go_enter Tryd.func12, Tryd.ntmps12
    go_wp2_with fail
    refine hsp.mono ?_
    rintro e w1 ⟨rfl, b1⟩
    replace c0 := cell_on c0 b1
    replace c1 := cell_on c1 b1
    replace c2 := cell_on c2 b1
    go_wp2_with fail
    refine (hasDisk_any a n cap P Q s _ hn).mono ?_
    rintro e w2 ⟨rfl, b2⟩
    rw [decide_eq_true hs1]
    have b12 := Below.comp b1 b2
    replace c0 := cell_on c0 b2
    replace c1 := cell_on c1 b2
    replace c2 := cell_on c2 b2
    go_wp2_with fail
    refine (hasDisk_any a n cap P Q s _ hn).mono ?_
    rintro e w3 ⟨rfl, b3⟩
    rw [decide_eq_true hs1]
    have b13 := Below.comp b12 b3
    obtain ⟨r0, r1, r2, q0, q1, q2⟩ := box3_cells (box_on HR0.out b13)
    clear c0 c1 c2
    go_wp2
    exact bodyPost_ret (v := .tuple #[.agg #[.slice none 0 0, .string ⟨#[]⟩, .string ⟨#[]⟩], .bool false]) (by simp [results, Tryd.results12, go_sem, r0, r1, r2]) rfl (by rw [HOK.out]; exact fin _ b13)
  have hok : okTwo n D P Q s t = true := by simp only [okTwo, hg, Bool.true_and]; exact decide_eq_true ⟨hs1.1, hs1.2, ht1.1, ht1.2, hst⟩
  obtain ⟨i, rfl⟩ : ∃ i : Nat, s = (i : Int) := ⟨s.toNat, by omega⟩
  obtain ⟨j, rfl⟩ : ∃ j : Nat, t = (j : Int) := ⟨t.toNat, by omega⟩
  have hi : i < n + 2 := by omega
  have hj : j < n + 2 := by omega
  have hij : ¬ i = j := by omega
  have hij' : ((i : Int) == (j : Int)) = false := by simp only [beq_eq_false_iff_ne, ne_eq]; omega
  rw [hok]
  simp only [Int.toNat_natCast, oneN, oneP, if_true]
  obtain ⟨hn1, hn2, hL, hDs, hQs⟩ := goodB_spec hg
  have HDS : Hid _ := hDs
  have HQS : Hid _ := hQs
  clear hDs hQs fin hst
  go_enter Tryd.func12, Tryd.ntmps12
  go_wp2_with fail
  refine hsp.mono ?_
  rintro e w1 ⟨rfl, b1⟩
  replace c0 := cell_on c0 b1
  replace c1 := cell_on c1 b1
  replace c2 := cell_on c2 b1
  go_wp2_with fail
  refine (hasDisk_any a n cap P Q i _ hn).mono ?_
  rintro e w2 ⟨rfl, b2⟩
  rw [decide_eq_true hs1]
  have b12 := Below.comp b1 b2
  replace c0 := cell_on c0 b2
  replace c1 := cell_on c1 b2
  replace c2 := cell_on c2 b2
  go_wp2_with fail
  refine (hasDisk_any a n cap P Q j _ hn).mono ?_
  rintro e w3 ⟨rfl, b3⟩
  rw [decide_eq_true ht1]
  have b13 := Below.comp b12 b3
  have g3 := b0.trans (b13.mono b0.size)
  have zz3 := g3.size
  have HS3 : Hid _ := box_on HS0.out b13
  have HR3 : Hid _ := box_on HR0.out b13
  have hszz := HSZ.out
  have z13 := b13.size
  clear c0 c1 c2 b1 b2 b3 b12 b13 HS0 HR0 hsp
  obtain ⟨c0, c1, c2, -, -, -⟩ := box3_cells HS3.out
  have CX : Hid (∀ (W : World) (z : Nat), z < n + 2 → Below w3.heap.size w3 W → Calls Tryd.prog 30 #[sv a n cap P Q, .int .i64 (z : Int)] W fun e w' => e = .returned (pv2 (cp n z) (cq n z)) ∧ Below W.heap.size W w') := fun W z hz hW => countsOf_any a n cap P Q z W hn hz (hT.below (g3.trans (hW.mono g3.size)) hz0) (by have := hW.size; omega)
  go_wp2
  clear hW0
  have HSX : Hid (∀ W, Below w3.heap.size w3 W → (W.cell? ⟨w.heap.size, 0, none⟩ = some (.slice a n cap) ∧ W.cell? ⟨w.heap.size, 1, none⟩ = some (.string P) ∧ W.cell? ⟨w.heap.size, 2, none⟩ = some (.string Q) ∧ Below w3.heap.size w3 W)) := fun W hW => ⟨cell_on c0 hW, cell_on c1 hW, cell_on c2 hW, hW⟩
  go_cut [8, 9] (fun p q wx => ∃ k1 k2, p = .pointer (some ⟨k1, 0, none⟩) ∧ q = .pointer (some ⟨k2, 0, none⟩) ∧ w3.heap.size ≤ k1 ∧ w3.heap.size ≤ k2 ∧ wx.heap[k1]? = some (.cells #[.int .u8 (cp n i : Int), .int .u8 (cq n i : Int)] 58 (0, 0)) ∧ wx.heap[k2]? = some (.cells #[.int .u8 (cp n j : Int), .int .u8 (cq n j : Int)] 58 (0, 0)) ∧ Below w3.heap.size w3 wx)
  case first =>
    have n0 : Below w3.heap.size w3 w3.drew := (Below.refl _ _).drew
    refine wp_region_heldN (fun W => W.cell? ⟨w.heap.size, 0, none⟩ = some (.slice a n cap) ∧ W.cell? ⟨w.heap.size, 1, none⟩ = some (.string P) ∧ W.cell? ⟨w.heap.size, 2, none⟩ = some (.string Q) ∧ Below w3.heap.size w3 W) 10 (by kernel_rfl) rfl (HSX.out _ n0) (fun hS => ?_)
    generalize w3.drew = X0 at *
    have zX : w3.heap.size ≤ X0.heap.size := n0.size
    refine tkH (i := 0) (d := 37) (v := ?_) rfl rfl (by kernel_rfl) (by kernel_rfl) (by kernel_rfl) (fun _ _ _ h => h) (Or.inl ⟨by rfl, by intro wq hSq; obtain ⟨s0, s1, s2, s3⟩ := hSq; go_simp; try with_reducible rfl⟩) hS ?_
    simp only [List.setIfInBounds_toArray, List.set_cons_zero, List.set_cons_succ]
    refine tkH (i := 1) (d := 38) (v := ?_) rfl rfl (by kernel_rfl) (by kernel_rfl) (by kernel_rfl) (fun _ _ _ h => h) (Or.inl ⟨by rfl, by intro wq hSq; obtain ⟨s0, s1, s2, s3⟩ := hSq; go_simp; try with_reducible rfl⟩) hS ?_
    simp only [List.setIfInBounds_toArray, List.set_cons_zero, List.set_cons_succ]
    refine tkH (i := 3) (d := 40) (v := ?_) rfl rfl (by kernel_rfl) (by kernel_rfl) (by kernel_rfl) (fun _ _ _ h => h) (Or.inl ⟨by rfl, by intro wq hSq; obtain ⟨s0, s1, s2, s3⟩ := hSq; go_simp; try with_reducible rfl⟩) hS ?_
    simp only [List.setIfInBounds_toArray, List.set_cons_zero, List.set_cons_succ]
    refine tkH (i := 4) (d := 41) (v := ?_) rfl rfl (by kernel_rfl) (by kernel_rfl) (by kernel_rfl) (fun _ _ _ h => h) (Or.inl ⟨by rfl, by intro wq hSq; obtain ⟨s0, s1, s2, s3⟩ := hSq; go_simp; try with_reducible rfl⟩) hS ?_
    simp only [List.setIfInBounds_toArray, List.set_cons_zero, List.set_cons_succ]
    refine wpAnyH_ready (rs := [2, 6, 7]) (by kernel_rfl) (by simp) (AllReadyH.cons rfl (fun K hK => ?_) (AllReadyH.cons rfl (fun K hK => ?_) (AllReadyH.cons rfl (fun K hK => ?_) (AllReadyH.nil))))
    · go_simp
      refine (CX.out _ i hi n0).mono ?_
      rintro e V0 ⟨rfl, b0⟩
      have n1 := Below.comp n0 b0
      have z0 := b0.size
      refine hK.out _ _ (HSX.out _ n1) (fun hS => ?_)
      clear hK K
      refine wpAnyH_ready (rs := [5, 6, 7]) (by kernel_rfl) (by simp) (AllReadyH.cons rfl (fun K hK => ?_) (AllReadyH.cons rfl (fun K hK => ?_) (AllReadyH.cons rfl (fun K hK => ?_) (AllReadyH.nil))))
      · go_simp
        refine (CX.out _ j hj n1).mono ?_
        rintro e V1 ⟨rfl, b1⟩
        have n2 := Below.comp n1 b1
        have z1 := b1.size
        refine hK.out _ _ (HSX.out _ n2) (fun hS => ?_)
        clear hK K
        refine wpAnyH_ready (rs := [6, 7]) (by kernel_rfl) (by simp) (AllReadyH.cons rfl (fun K hK => ?_) (AllReadyH.cons rfl (fun K hK => ?_) (AllReadyH.nil)))
        · obtain ⟨V2, hV2⟩ : ∃ vx, V1.alloc (.cells #[.int .u8 0, .int .u8 0] 58) = vx := ⟨_, rfl⟩
          have b2 : Below V1.heap.size V1 V2 := by rw [← hV2]; exact below_alloc _ _
          have n3 := Below.comp n2 b2
          have z2 : V1.heap.size < V2.heap.size := by rw [← hV2]; simp
          have H6 : Hid (V2.heap[V1.heap.size]? = some (.cells #[.int .u8 0, .int .u8 0] 58 (0, 0))) := by
            show V2.heap[V1.heap.size]? = _
            rw [← hV2]; exact heap_alloc_new _ _
          go_simp
          clear hV2
          refine hK.out _ _ (HSX.out _ n3) (fun hS => ?_)
          clear hK K
          refine wpAnyH_ready (rs := [7]) (by kernel_rfl) (by simp) (AllReadyH.cons rfl (fun K hK => ?_) (AllReadyH.nil))
          obtain ⟨V3, hV3⟩ : ∃ vx, V2.alloc (.cells #[.int .u8 0, .int .u8 0] 58) = vx := ⟨_, rfl⟩
          have b3 : Below V2.heap.size V2 V3 := by rw [← hV3]; exact below_alloc _ _
          have n4 := Below.comp n3 b3
          have z3 : V2.heap.size < V3.heap.size := by rw [← hV3]; simp
          replace H6 : Hid _ := box_on H6.out b3
          have H7 : Hid (V3.heap[V2.heap.size]? = some (.cells #[.int .u8 0, .int .u8 0] 58 (0, 0))) := by
            show V3.heap[V2.heap.size]? = _
            rw [← hV3]; exact heap_alloc_new _ _
          go_simp
          clear hV3
          refine hK.out _ _ (HSX.out _ n4) (fun hS => ?_)
          clear hK K
          obtain ⟨t0, t1, ft0, ft1⟩ := box2_cells H6.out
          obtain ⟨Y1, hY1⟩ : ∃ vx, (V3.setCell ⟨V1.heap.size, 0, none⟩ (.int .u8 (cp n i : Int))).setCell ⟨V1.heap.size, 1, none⟩ (.int .u8 (cq n i : Int)) = vx := ⟨_, rfl⟩
          have l6 := box_lt H6.out
          have l7 := box_lt H7.out
          have lz := (n4).size
          have oY1 : Out (V1.heap.size) (V1.heap.size + 1) V3 Y1 := by rw [← hY1]; exact ((Out.refl (V1.heap.size) (V1.heap.size + 1) V3).setCell (Nat.le_refl _) (Nat.lt_succ_self _) _ _).setCell (Nat.le_refl _) (Nat.lt_succ_self _) _ _
          have HY6 : Hid (Y1.heap[V1.heap.size]? = some (.cells #[.int .u8 (cp n i : Int), .int .u8 (cq n i : Int)] 58 (0, 0))) := by
            show Y1.heap[V1.heap.size]? = _
            rw [← hY1]; exact box2_set H6.out
          have nY1 : Below w3.heap.size w3 Y1 := by rw [← hY1]; exact ((n4).setCell (by simp; omega) _).setCell (by simp; omega) _
          refine wpAnyH_ready (rs := [8]) (by kernel_rfl) (by simp) (AllReadyH.cons rfl (fun K hK => ?_) AllReadyH.nil)
          go_simp
          clear hY1
          refine hK.out _ _ (HSX.out _ nY1) (fun hS => ?_)
          clear hK K
          have HY7 : Hid _ := box_out H7.out oY1 (by omega)
          clear t0 t1 ft0 ft1
          obtain ⟨t0, t1, ft0, ft1⟩ := box2_cells HY7.out
          obtain ⟨Y2, hY2⟩ : ∃ vx, (Y1.setCell ⟨V2.heap.size, 0, none⟩ (.int .u8 (cp n j : Int))).setCell ⟨V2.heap.size, 1, none⟩ (.int .u8 (cq n j : Int)) = vx := ⟨_, rfl⟩
          have oY2 : Out (V2.heap.size) (V2.heap.size + 1) Y1 Y2 := by rw [← hY2]; exact ((Out.refl (V2.heap.size) (V2.heap.size + 1) Y1).setCell (Nat.le_refl _) (Nat.lt_succ_self _) _ _).setCell (Nat.le_refl _) (Nat.lt_succ_self _) _ _
          have HZ7 : Hid (Y2.heap[V2.heap.size]? = some (.cells #[.int .u8 (cp n j : Int), .int .u8 (cq n j : Int)] 58 (0, 0))) := by
            show Y2.heap[V2.heap.size]? = _
            rw [← hY2]; exact box2_set HY7.out
          have HZ6 : Hid _ := box_out HY6.out oY2 (by omega)
          have nY2 : Below w3.heap.size w3 Y2 := by rw [← hY2]; exact (nY1.setCell (by simp; omega) _).setCell (by simp; omega) _
          refine wpAnyH_ready (rs := [9]) (by kernel_rfl) (by simp) (AllReadyH.cons rfl (fun K hK => ?_) AllReadyH.nil)
          go_simp
          clear hY2
          refine hK.out _ _ (HSX.out _ nY2) (fun hS => ?_)
          clear hK K
          refine wpAnyH_done (by kernel_rfl) ?_ _
          go_wp2_with fail
          go_meet
          exact ⟨_, _, rfl, rfl, by omega, by omega, HZ6.out, HZ7.out, nY2⟩
        · obtain ⟨V2, hV2⟩ : ∃ vx, V1.alloc (.cells #[.int .u8 0, .int .u8 0] 58) = vx := ⟨_, rfl⟩
          have b2 : Below V1.heap.size V1 V2 := by rw [← hV2]; exact below_alloc _ _
          have n3 := Below.comp n2 b2
          have z2 : V1.heap.size < V2.heap.size := by rw [← hV2]; simp
          have H7 : Hid (V2.heap[V1.heap.size]? = some (.cells #[.int .u8 0, .int .u8 0] 58 (0, 0))) := by
            show V2.heap[V1.heap.size]? = _
            rw [← hV2]; exact heap_alloc_new _ _
          go_simp
          clear hV2
          refine hK.out _ _ (HSX.out _ n3) (fun hS => ?_)
          clear hK K
          refine wpAnyH_ready (rs := [6]) (by kernel_rfl) (by simp) (AllReadyH.cons rfl (fun K hK => ?_) (AllReadyH.nil))
          obtain ⟨V3, hV3⟩ : ∃ vx, V2.alloc (.cells #[.int .u8 0, .int .u8 0] 58) = vx := ⟨_, rfl⟩
          have b3 : Below V2.heap.size V2 V3 := by rw [← hV3]; exact below_alloc _ _
          have n4 := Below.comp n3 b3
          have z3 : V2.heap.size < V3.heap.size := by rw [← hV3]; simp
          replace H7 : Hid _ := box_on H7.out b3
          have H6 : Hid (V3.heap[V2.heap.size]? = some (.cells #[.int .u8 0, .int .u8 0] 58 (0, 0))) := by
            show V3.heap[V2.heap.size]? = _
            rw [← hV3]; exact heap_alloc_new _ _
          go_simp
          clear hV3
          refine hK.out _ _ (HSX.out _ n4) (fun hS => ?_)
          clear hK K
          obtain ⟨t0, t1, ft0, ft1⟩ := box2_cells H6.out
          obtain ⟨Y1, hY1⟩ : ∃ vx, (V3.setCell ⟨V2.heap.size, 0, none⟩ (.int .u8 (cp n i : Int))).setCell ⟨V2.heap.size, 1, none⟩ (.int .u8 (cq n i : Int)) = vx := ⟨_, rfl⟩
          have l6 := box_lt H6.out
          have l7 := box_lt H7.out
          have lz := (n4).size
          have oY1 : Out (V2.heap.size) (V2.heap.size + 1) V3 Y1 := by rw [← hY1]; exact ((Out.refl (V2.heap.size) (V2.heap.size + 1) V3).setCell (Nat.le_refl _) (Nat.lt_succ_self _) _ _).setCell (Nat.le_refl _) (Nat.lt_succ_self _) _ _
          have HY6 : Hid (Y1.heap[V2.heap.size]? = some (.cells #[.int .u8 (cp n i : Int), .int .u8 (cq n i : Int)] 58 (0, 0))) := by
            show Y1.heap[V2.heap.size]? = _
            rw [← hY1]; exact box2_set H6.out
          have nY1 : Below w3.heap.size w3 Y1 := by rw [← hY1]; exact ((n4).setCell (by simp; omega) _).setCell (by simp; omega) _
          refine wpAnyH_ready (rs := [8]) (by kernel_rfl) (by simp) (AllReadyH.cons rfl (fun K hK => ?_) AllReadyH.nil)
          go_simp
          clear hY1
          refine hK.out _ _ (HSX.out _ nY1) (fun hS => ?_)
          clear hK K
          have HY7 : Hid _ := box_out H7.out oY1 (by omega)
          clear t0 t1 ft0 ft1
          obtain ⟨t0, t1, ft0, ft1⟩ := box2_cells HY7.out
          obtain ⟨Y2, hY2⟩ : ∃ vx, (Y1.setCell ⟨V1.heap.size, 0, none⟩ (.int .u8 (cp n j : Int))).setCell ⟨V1.heap.size, 1, none⟩ (.int .u8 (cq n j : Int)) = vx := ⟨_, rfl⟩
          have oY2 : Out (V1.heap.size) (V1.heap.size + 1) Y1 Y2 := by rw [← hY2]; exact ((Out.refl (V1.heap.size) (V1.heap.size + 1) Y1).setCell (Nat.le_refl _) (Nat.lt_succ_self _) _ _).setCell (Nat.le_refl _) (Nat.lt_succ_self _) _ _
          have HZ7 : Hid (Y2.heap[V1.heap.size]? = some (.cells #[.int .u8 (cp n j : Int), .int .u8 (cq n j : Int)] 58 (0, 0))) := by
            show Y2.heap[V1.heap.size]? = _
            rw [← hY2]; exact box2_set HY7.out
          have HZ6 : Hid _ := box_out HY6.out oY2 (by omega)
          have nY2 : Below w3.heap.size w3 Y2 := by rw [← hY2]; exact (nY1.setCell (by simp; omega) _).setCell (by simp; omega) _
          refine wpAnyH_ready (rs := [9]) (by kernel_rfl) (by simp) (AllReadyH.cons rfl (fun K hK => ?_) AllReadyH.nil)
          go_simp
          clear hY2
          refine hK.out _ _ (HSX.out _ nY2) (fun hS => ?_)
          clear hK K
          refine wpAnyH_done (by kernel_rfl) ?_ _
          go_wp2_with fail
          go_meet
          exact ⟨_, _, rfl, rfl, by omega, by omega, HZ6.out, HZ7.out, nY2⟩
      · obtain ⟨V1, hV1⟩ : ∃ vx, V0.alloc (.cells #[.int .u8 0, .int .u8 0] 58) = vx := ⟨_, rfl⟩
        have b1 : Below V0.heap.size V0 V1 := by rw [← hV1]; exact below_alloc _ _
        have n2 := Below.comp n1 b1
        have z1 : V0.heap.size < V1.heap.size := by rw [← hV1]; simp
        have H6 : Hid (V1.heap[V0.heap.size]? = some (.cells #[.int .u8 0, .int .u8 0] 58 (0, 0))) := by
          show V1.heap[V0.heap.size]? = _
          rw [← hV1]; exact heap_alloc_new _ _
        go_simp
        clear hV1
        refine hK.out _ _ (HSX.out _ n2) (fun hS => ?_)
        clear hK K
        refine wpAnyH_ready (rs := [5, 7]) (by kernel_rfl) (by simp) (AllReadyH.cons rfl (fun K hK => ?_) (AllReadyH.cons rfl (fun K hK => ?_) (AllReadyH.nil)))
        · go_simp
          refine (CX.out _ j hj n2).mono ?_
          rintro e V2 ⟨rfl, b2⟩
          have n3 := Below.comp n2 b2
          have z2 := b2.size
          replace H6 : Hid _ := box_on H6.out b2
          refine hK.out _ _ (HSX.out _ n3) (fun hS => ?_)
          clear hK K
          refine wpAnyH_ready (rs := [7]) (by kernel_rfl) (by simp) (AllReadyH.cons rfl (fun K hK => ?_) (AllReadyH.nil))
          obtain ⟨V3, hV3⟩ : ∃ vx, V2.alloc (.cells #[.int .u8 0, .int .u8 0] 58) = vx := ⟨_, rfl⟩
          have b3 : Below V2.heap.size V2 V3 := by rw [← hV3]; exact below_alloc _ _
          have n4 := Below.comp n3 b3
          have z3 : V2.heap.size < V3.heap.size := by rw [← hV3]; simp
          replace H6 : Hid _ := box_on H6.out b3
          have H7 : Hid (V3.heap[V2.heap.size]? = some (.cells #[.int .u8 0, .int .u8 0] 58 (0, 0))) := by
            show V3.heap[V2.heap.size]? = _
            rw [← hV3]; exact heap_alloc_new _ _
          go_simp
          clear hV3
          refine hK.out _ _ (HSX.out _ n4) (fun hS => ?_)
          clear hK K
          obtain ⟨t0, t1, ft0, ft1⟩ := box2_cells H6.out
          obtain ⟨Y1, hY1⟩ : ∃ vx, (V3.setCell ⟨V0.heap.size, 0, none⟩ (.int .u8 (cp n i : Int))).setCell ⟨V0.heap.size, 1, none⟩ (.int .u8 (cq n i : Int)) = vx := ⟨_, rfl⟩
          have l6 := box_lt H6.out
          have l7 := box_lt H7.out
          have lz := (n4).size
          have oY1 : Out (V0.heap.size) (V0.heap.size + 1) V3 Y1 := by rw [← hY1]; exact ((Out.refl (V0.heap.size) (V0.heap.size + 1) V3).setCell (Nat.le_refl _) (Nat.lt_succ_self _) _ _).setCell (Nat.le_refl _) (Nat.lt_succ_self _) _ _
          have HY6 : Hid (Y1.heap[V0.heap.size]? = some (.cells #[.int .u8 (cp n i : Int), .int .u8 (cq n i : Int)] 58 (0, 0))) := by
            show Y1.heap[V0.heap.size]? = _
            rw [← hY1]; exact box2_set H6.out
          have nY1 : Below w3.heap.size w3 Y1 := by rw [← hY1]; exact ((n4).setCell (by simp; omega) _).setCell (by simp; omega) _
          refine wpAnyH_ready (rs := [8]) (by kernel_rfl) (by simp) (AllReadyH.cons rfl (fun K hK => ?_) AllReadyH.nil)
          go_simp
          clear hY1
          refine hK.out _ _ (HSX.out _ nY1) (fun hS => ?_)
          clear hK K
          have HY7 : Hid _ := box_out H7.out oY1 (by omega)
          clear t0 t1 ft0 ft1
          obtain ⟨t0, t1, ft0, ft1⟩ := box2_cells HY7.out
          obtain ⟨Y2, hY2⟩ : ∃ vx, (Y1.setCell ⟨V2.heap.size, 0, none⟩ (.int .u8 (cp n j : Int))).setCell ⟨V2.heap.size, 1, none⟩ (.int .u8 (cq n j : Int)) = vx := ⟨_, rfl⟩
          have oY2 : Out (V2.heap.size) (V2.heap.size + 1) Y1 Y2 := by rw [← hY2]; exact ((Out.refl (V2.heap.size) (V2.heap.size + 1) Y1).setCell (Nat.le_refl _) (Nat.lt_succ_self _) _ _).setCell (Nat.le_refl _) (Nat.lt_succ_self _) _ _
          have HZ7 : Hid (Y2.heap[V2.heap.size]? = some (.cells #[.int .u8 (cp n j : Int), .int .u8 (cq n j : Int)] 58 (0, 0))) := by
            show Y2.heap[V2.heap.size]? = _
            rw [← hY2]; exact box2_set HY7.out
          have HZ6 : Hid _ := box_out HY6.out oY2 (by omega)
          have nY2 : Below w3.heap.size w3 Y2 := by rw [← hY2]; exact (nY1.setCell (by simp; omega) _).setCell (by simp; omega) _
          refine wpAnyH_ready (rs := [9]) (by kernel_rfl) (by simp) (AllReadyH.cons rfl (fun K hK => ?_) AllReadyH.nil)
          go_simp
          clear hY2
          refine hK.out _ _ (HSX.out _ nY2) (fun hS => ?_)
          clear hK K
          refine wpAnyH_done (by kernel_rfl) ?_ _
          go_wp2_with fail
          go_meet
          exact ⟨_, _, rfl, rfl, by omega, by omega, HZ6.out, HZ7.out, nY2⟩
        · obtain ⟨V2, hV2⟩ : ∃ vx, V1.alloc (.cells #[.int .u8 0, .int .u8 0] 58) = vx := ⟨_, rfl⟩
          have b2 : Below V1.heap.size V1 V2 := by rw [← hV2]; exact below_alloc _ _
          have n3 := Below.comp n2 b2
          have z2 : V1.heap.size < V2.heap.size := by rw [← hV2]; simp
          replace H6 : Hid _ := box_on H6.out b2
          have H7 : Hid (V2.heap[V1.heap.size]? = some (.cells #[.int .u8 0, .int .u8 0] 58 (0, 0))) := by
            show V2.heap[V1.heap.size]? = _
            rw [← hV2]; exact heap_alloc_new _ _
          go_simp
          clear hV2
          refine hK.out _ _ (HSX.out _ n3) (fun hS => ?_)
          clear hK K
          refine wpAnyH_ready (rs := [5]) (by kernel_rfl) (by simp) (AllReadyH.cons rfl (fun K hK => ?_) (AllReadyH.nil))
          go_simp
          refine (CX.out _ j hj n3).mono ?_
          rintro e V3 ⟨rfl, b3⟩
          have n4 := Below.comp n3 b3
          have z3 := b3.size
          replace H6 : Hid _ := box_on H6.out b3
          replace H7 : Hid _ := box_on H7.out b3
          refine hK.out _ _ (HSX.out _ n4) (fun hS => ?_)
          clear hK K
          obtain ⟨t0, t1, ft0, ft1⟩ := box2_cells H6.out
          obtain ⟨Y1, hY1⟩ : ∃ vx, (V3.setCell ⟨V0.heap.size, 0, none⟩ (.int .u8 (cp n i : Int))).setCell ⟨V0.heap.size, 1, none⟩ (.int .u8 (cq n i : Int)) = vx := ⟨_, rfl⟩
          have l6 := box_lt H6.out
          have l7 := box_lt H7.out
          have lz := (n4).size
          have oY1 : Out (V0.heap.size) (V0.heap.size + 1) V3 Y1 := by rw [← hY1]; exact ((Out.refl (V0.heap.size) (V0.heap.size + 1) V3).setCell (Nat.le_refl _) (Nat.lt_succ_self _) _ _).setCell (Nat.le_refl _) (Nat.lt_succ_self _) _ _
          have HY6 : Hid (Y1.heap[V0.heap.size]? = some (.cells #[.int .u8 (cp n i : Int), .int .u8 (cq n i : Int)] 58 (0, 0))) := by
            show Y1.heap[V0.heap.size]? = _
            rw [← hY1]; exact box2_set H6.out
          have nY1 : Below w3.heap.size w3 Y1 := by rw [← hY1]; exact ((n4).setCell (by simp; omega) _).setCell (by simp; omega) _
          refine wpAnyH_ready (rs := [8]) (by kernel_rfl) (by simp) (AllReadyH.cons rfl (fun K hK => ?_) AllReadyH.nil)
          go_simp
          clear hY1
          refine hK.out _ _ (HSX.out _ nY1) (fun hS => ?_)
          clear hK K
          have HY7 : Hid _ := box_out H7.out oY1 (by omega)
          clear t0 t1 ft0 ft1
          obtain ⟨t0, t1, ft0, ft1⟩ := box2_cells HY7.out
          obtain ⟨Y2, hY2⟩ : ∃ vx, (Y1.setCell ⟨V1.heap.size, 0, none⟩ (.int .u8 (cp n j : Int))).setCell ⟨V1.heap.size, 1, none⟩ (.int .u8 (cq n j : Int)) = vx := ⟨_, rfl⟩
          have oY2 : Out (V1.heap.size) (V1.heap.size + 1) Y1 Y2 := by rw [← hY2]; exact ((Out.refl (V1.heap.size) (V1.heap.size + 1) Y1).setCell (Nat.le_refl _) (Nat.lt_succ_self _) _ _).setCell (Nat.le_refl _) (Nat.lt_succ_self _) _ _
          have HZ7 : Hid (Y2.heap[V1.heap.size]? = some (.cells #[.int .u8 (cp n j : Int), .int .u8 (cq n j : Int)] 58 (0, 0))) := by
            show Y2.heap[V1.heap.size]? = _
            rw [← hY2]; exact box2_set HY7.out
          have HZ6 : Hid _ := box_out HY6.out oY2 (by omega)
          have nY2 : Below w3.heap.size w3 Y2 := by rw [← hY2]; exact (nY1.setCell (by simp; omega) _).setCell (by simp; omega) _
          refine wpAnyH_ready (rs := [9]) (by kernel_rfl) (by simp) (AllReadyH.cons rfl (fun K hK => ?_) AllReadyH.nil)
          go_simp
          clear hY2
          refine hK.out _ _ (HSX.out _ nY2) (fun hS => ?_)
          clear hK K
          refine wpAnyH_done (by kernel_rfl) ?_ _
          go_wp2_with fail
          go_meet
          exact ⟨_, _, rfl, rfl, by omega, by omega, HZ6.out, HZ7.out, nY2⟩
      · obtain ⟨V1, hV1⟩ : ∃ vx, V0.alloc (.cells #[.int .u8 0, .int .u8 0] 58) = vx := ⟨_, rfl⟩
        have b1 : Below V0.heap.size V0 V1 := by rw [← hV1]; exact below_alloc _ _
        have n2 := Below.comp n1 b1
        have z1 : V0.heap.size < V1.heap.size := by rw [← hV1]; simp
        have H7 : Hid (V1.heap[V0.heap.size]? = some (.cells #[.int .u8 0, .int .u8 0] 58 (0, 0))) := by
          show V1.heap[V0.heap.size]? = _
          rw [← hV1]; exact heap_alloc_new _ _
        go_simp
        clear hV1
        refine hK.out _ _ (HSX.out _ n2) (fun hS => ?_)
        clear hK K
        refine wpAnyH_ready (rs := [5, 6]) (by kernel_rfl) (by simp) (AllReadyH.cons rfl (fun K hK => ?_) (AllReadyH.cons rfl (fun K hK => ?_) (AllReadyH.nil)))
        · go_simp
          refine (CX.out _ j hj n2).mono ?_
          rintro e V2 ⟨rfl, b2⟩
          have n3 := Below.comp n2 b2
          have z2 := b2.size
          replace H7 : Hid _ := box_on H7.out b2
          refine hK.out _ _ (HSX.out _ n3) (fun hS => ?_)
          clear hK K
          refine wpAnyH_ready (rs := [6]) (by kernel_rfl) (by simp) (AllReadyH.cons rfl (fun K hK => ?_) (AllReadyH.nil))
          obtain ⟨V3, hV3⟩ : ∃ vx, V2.alloc (.cells #[.int .u8 0, .int .u8 0] 58) = vx := ⟨_, rfl⟩
          have b3 : Below V2.heap.size V2 V3 := by rw [← hV3]; exact below_alloc _ _
          have n4 := Below.comp n3 b3
          have z3 : V2.heap.size < V3.heap.size := by rw [← hV3]; simp
          replace H7 : Hid _ := box_on H7.out b3
          have H6 : Hid (V3.heap[V2.heap.size]? = some (.cells #[.int .u8 0, .int .u8 0] 58 (0, 0))) := by
            show V3.heap[V2.heap.size]? = _
            rw [← hV3]; exact heap_alloc_new _ _
          go_simp
          clear hV3
          refine hK.out _ _ (HSX.out _ n4) (fun hS => ?_)
          clear hK K
          obtain ⟨t0, t1, ft0, ft1⟩ := box2_cells H6.out
          obtain ⟨Y1, hY1⟩ : ∃ vx, (V3.setCell ⟨V2.heap.size, 0, none⟩ (.int .u8 (cp n i : Int))).setCell ⟨V2.heap.size, 1, none⟩ (.int .u8 (cq n i : Int)) = vx := ⟨_, rfl⟩
          have l6 := box_lt H6.out
          have l7 := box_lt H7.out
          have lz := (n4).size
          have oY1 : Out (V2.heap.size) (V2.heap.size + 1) V3 Y1 := by rw [← hY1]; exact ((Out.refl (V2.heap.size) (V2.heap.size + 1) V3).setCell (Nat.le_refl _) (Nat.lt_succ_self _) _ _).setCell (Nat.le_refl _) (Nat.lt_succ_self _) _ _
          have HY6 : Hid (Y1.heap[V2.heap.size]? = some (.cells #[.int .u8 (cp n i : Int), .int .u8 (cq n i : Int)] 58 (0, 0))) := by
            show Y1.heap[V2.heap.size]? = _
            rw [← hY1]; exact box2_set H6.out
          have nY1 : Below w3.heap.size w3 Y1 := by rw [← hY1]; exact ((n4).setCell (by simp; omega) _).setCell (by simp; omega) _
          refine wpAnyH_ready (rs := [8]) (by kernel_rfl) (by simp) (AllReadyH.cons rfl (fun K hK => ?_) AllReadyH.nil)
          go_simp
          clear hY1
          refine hK.out _ _ (HSX.out _ nY1) (fun hS => ?_)
          clear hK K
          have HY7 : Hid _ := box_out H7.out oY1 (by omega)
          clear t0 t1 ft0 ft1
          obtain ⟨t0, t1, ft0, ft1⟩ := box2_cells HY7.out
          obtain ⟨Y2, hY2⟩ : ∃ vx, (Y1.setCell ⟨V0.heap.size, 0, none⟩ (.int .u8 (cp n j : Int))).setCell ⟨V0.heap.size, 1, none⟩ (.int .u8 (cq n j : Int)) = vx := ⟨_, rfl⟩
          have oY2 : Out (V0.heap.size) (V0.heap.size + 1) Y1 Y2 := by rw [← hY2]; exact ((Out.refl (V0.heap.size) (V0.heap.size + 1) Y1).setCell (Nat.le_refl _) (Nat.lt_succ_self _) _ _).setCell (Nat.le_refl _) (Nat.lt_succ_self _) _ _
          have HZ7 : Hid (Y2.heap[V0.heap.size]? = some (.cells #[.int .u8 (cp n j : Int), .int .u8 (cq n j : Int)] 58 (0, 0))) := by
            show Y2.heap[V0.heap.size]? = _
            rw [← hY2]; exact box2_set HY7.out
          have HZ6 : Hid _ := box_out HY6.out oY2 (by omega)
          have nY2 : Below w3.heap.size w3 Y2 := by rw [← hY2]; exact (nY1.setCell (by simp; omega) _).setCell (by simp; omega) _
          refine wpAnyH_ready (rs := [9]) (by kernel_rfl) (by simp) (AllReadyH.cons rfl (fun K hK => ?_) AllReadyH.nil)
          go_simp
          clear hY2
          refine hK.out _ _ (HSX.out _ nY2) (fun hS => ?_)
          clear hK K
          refine wpAnyH_done (by kernel_rfl) ?_ _
          go_wp2_with fail
          go_meet
          exact ⟨_, _, rfl, rfl, by omega, by omega, HZ6.out, HZ7.out, nY2⟩
        · obtain ⟨V2, hV2⟩ : ∃ vx, V1.alloc (.cells #[.int .u8 0, .int .u8 0] 58) = vx := ⟨_, rfl⟩
          have b2 : Below V1.heap.size V1 V2 := by rw [← hV2]; exact below_alloc _ _
          have n3 := Below.comp n2 b2
          have z2 : V1.heap.size < V2.heap.size := by rw [← hV2]; simp
          replace H7 : Hid _ := box_on H7.out b2
          have H6 : Hid (V2.heap[V1.heap.size]? = some (.cells #[.int .u8 0, .int .u8 0] 58 (0, 0))) := by
            show V2.heap[V1.heap.size]? = _
            rw [← hV2]; exact heap_alloc_new _ _
          go_simp
          clear hV2
          refine hK.out _ _ (HSX.out _ n3) (fun hS => ?_)
          clear hK K
          refine wpAnyH_ready (rs := [5]) (by kernel_rfl) (by simp) (AllReadyH.cons rfl (fun K hK => ?_) (AllReadyH.nil))
          go_simp
          refine (CX.out _ j hj n3).mono ?_
          rintro e V3 ⟨rfl, b3⟩
          have n4 := Below.comp n3 b3
          have z3 := b3.size
          replace H7 : Hid _ := box_on H7.out b3
          replace H6 : Hid _ := box_on H6.out b3
          refine hK.out _ _ (HSX.out _ n4) (fun hS => ?_)
          clear hK K
          obtain ⟨t0, t1, ft0, ft1⟩ := box2_cells H6.out
          obtain ⟨Y1, hY1⟩ : ∃ vx, (V3.setCell ⟨V1.heap.size, 0, none⟩ (.int .u8 (cp n i : Int))).setCell ⟨V1.heap.size, 1, none⟩ (.int .u8 (cq n i : Int)) = vx := ⟨_, rfl⟩
          have l6 := box_lt H6.out
          have l7 := box_lt H7.out
          have lz := (n4).size
          have oY1 : Out (V1.heap.size) (V1.heap.size + 1) V3 Y1 := by rw [← hY1]; exact ((Out.refl (V1.heap.size) (V1.heap.size + 1) V3).setCell (Nat.le_refl _) (Nat.lt_succ_self _) _ _).setCell (Nat.le_refl _) (Nat.lt_succ_self _) _ _
          have HY6 : Hid (Y1.heap[V1.heap.size]? = some (.cells #[.int .u8 (cp n i : Int), .int .u8 (cq n i : Int)] 58 (0, 0))) := by
            show Y1.heap[V1.heap.size]? = _
            rw [← hY1]; exact box2_set H6.out
          have nY1 : Below w3.heap.size w3 Y1 := by rw [← hY1]; exact ((n4).setCell (by simp; omega) _).setCell (by simp; omega) _
          refine wpAnyH_ready (rs := [8]) (by kernel_rfl) (by simp) (AllReadyH.cons rfl (fun K hK => ?_) AllReadyH.nil)
          go_simp
          clear hY1
          refine hK.out _ _ (HSX.out _ nY1) (fun hS => ?_)
          clear hK K
          have HY7 : Hid _ := box_out H7.out oY1 (by omega)
          clear t0 t1 ft0 ft1
          obtain ⟨t0, t1, ft0, ft1⟩ := box2_cells HY7.out
          obtain ⟨Y2, hY2⟩ : ∃ vx, (Y1.setCell ⟨V0.heap.size, 0, none⟩ (.int .u8 (cp n j : Int))).setCell ⟨V0.heap.size, 1, none⟩ (.int .u8 (cq n j : Int)) = vx := ⟨_, rfl⟩
          have oY2 : Out (V0.heap.size) (V0.heap.size + 1) Y1 Y2 := by rw [← hY2]; exact ((Out.refl (V0.heap.size) (V0.heap.size + 1) Y1).setCell (Nat.le_refl _) (Nat.lt_succ_self _) _ _).setCell (Nat.le_refl _) (Nat.lt_succ_self _) _ _
          have HZ7 : Hid (Y2.heap[V0.heap.size]? = some (.cells #[.int .u8 (cp n j : Int), .int .u8 (cq n j : Int)] 58 (0, 0))) := by
            show Y2.heap[V0.heap.size]? = _
            rw [← hY2]; exact box2_set HY7.out
          have HZ6 : Hid _ := box_out HY6.out oY2 (by omega)
          have nY2 : Below w3.heap.size w3 Y2 := by rw [← hY2]; exact (nY1.setCell (by simp; omega) _).setCell (by simp; omega) _
          refine wpAnyH_ready (rs := [9]) (by kernel_rfl) (by simp) (AllReadyH.cons rfl (fun K hK => ?_) AllReadyH.nil)
          go_simp
          clear hY2
          refine hK.out _ _ (HSX.out _ nY2) (fun hS => ?_)
          clear hK K
          refine wpAnyH_done (by kernel_rfl) ?_ _
          go_wp2_with fail
          go_meet
          exact ⟨_, _, rfl, rfl, by omega, by omega, HZ6.out, HZ7.out, nY2⟩
    · obtain ⟨V0, hV0⟩ : ∃ vx, X0.alloc (.cells #[.int .u8 0, .int .u8 0] 58) = vx := ⟨_, rfl⟩
      have b0 : Below X0.heap.size X0 V0 := by rw [← hV0]; exact below_alloc _ _
      have n1 := Below.comp n0 b0
      have z0 : X0.heap.size < V0.heap.size := by rw [← hV0]; simp
      have H6 : Hid (V0.heap[X0.heap.size]? = some (.cells #[.int .u8 0, .int .u8 0] 58 (0, 0))) := by
        show V0.heap[X0.heap.size]? = _
        rw [← hV0]; exact heap_alloc_new _ _
      go_simp
      clear hV0
      refine hK.out _ _ (HSX.out _ n1) (fun hS => ?_)
      clear hK K
      refine wpAnyH_ready (rs := [2, 7]) (by kernel_rfl) (by simp) (AllReadyH.cons rfl (fun K hK => ?_) (AllReadyH.cons rfl (fun K hK => ?_) (AllReadyH.nil)))
      · go_simp
        refine (CX.out _ i hi n1).mono ?_
        rintro e V1 ⟨rfl, b1⟩
        have n2 := Below.comp n1 b1
        have z1 := b1.size
        replace H6 : Hid _ := box_on H6.out b1
        refine hK.out _ _ (HSX.out _ n2) (fun hS => ?_)
        clear hK K
        refine wpAnyH_ready (rs := [5, 7]) (by kernel_rfl) (by simp) (AllReadyH.cons rfl (fun K hK => ?_) (AllReadyH.cons rfl (fun K hK => ?_) (AllReadyH.nil)))
        · go_simp
          refine (CX.out _ j hj n2).mono ?_
          rintro e V2 ⟨rfl, b2⟩
          have n3 := Below.comp n2 b2
          have z2 := b2.size
          replace H6 : Hid _ := box_on H6.out b2
          refine hK.out _ _ (HSX.out _ n3) (fun hS => ?_)
          clear hK K
          refine wpAnyH_ready (rs := [7]) (by kernel_rfl) (by simp) (AllReadyH.cons rfl (fun K hK => ?_) (AllReadyH.nil))
          obtain ⟨V3, hV3⟩ : ∃ vx, V2.alloc (.cells #[.int .u8 0, .int .u8 0] 58) = vx := ⟨_, rfl⟩
          have b3 : Below V2.heap.size V2 V3 := by rw [← hV3]; exact below_alloc _ _
          have n4 := Below.comp n3 b3
          have z3 : V2.heap.size < V3.heap.size := by rw [← hV3]; simp
          replace H6 : Hid _ := box_on H6.out b3
          have H7 : Hid (V3.heap[V2.heap.size]? = some (.cells #[.int .u8 0, .int .u8 0] 58 (0, 0))) := by
            show V3.heap[V2.heap.size]? = _
            rw [← hV3]; exact heap_alloc_new _ _
          go_simp
          clear hV3
          refine hK.out _ _ (HSX.out _ n4) (fun hS => ?_)
          clear hK K
          obtain ⟨t0, t1, ft0, ft1⟩ := box2_cells H6.out
          obtain ⟨Y1, hY1⟩ : ∃ vx, (V3.setCell ⟨X0.heap.size, 0, none⟩ (.int .u8 (cp n i : Int))).setCell ⟨X0.heap.size, 1, none⟩ (.int .u8 (cq n i : Int)) = vx := ⟨_, rfl⟩
          have l6 := box_lt H6.out
          have l7 := box_lt H7.out
          have lz := (n4).size
          have oY1 : Out (X0.heap.size) (X0.heap.size + 1) V3 Y1 := by rw [← hY1]; exact ((Out.refl (X0.heap.size) (X0.heap.size + 1) V3).setCell (Nat.le_refl _) (Nat.lt_succ_self _) _ _).setCell (Nat.le_refl _) (Nat.lt_succ_self _) _ _
          have HY6 : Hid (Y1.heap[X0.heap.size]? = some (.cells #[.int .u8 (cp n i : Int), .int .u8 (cq n i : Int)] 58 (0, 0))) := by
            show Y1.heap[X0.heap.size]? = _
            rw [← hY1]; exact box2_set H6.out
          have nY1 : Below w3.heap.size w3 Y1 := by rw [← hY1]; exact ((n4).setCell (by simp; omega) _).setCell (by simp; omega) _
          refine wpAnyH_ready (rs := [8]) (by kernel_rfl) (by simp) (AllReadyH.cons rfl (fun K hK => ?_) AllReadyH.nil)
          go_simp
          clear hY1
          refine hK.out _ _ (HSX.out _ nY1) (fun hS => ?_)
          clear hK K
          have HY7 : Hid _ := box_out H7.out oY1 (by omega)
          clear t0 t1 ft0 ft1
          obtain ⟨t0, t1, ft0, ft1⟩ := box2_cells HY7.out
          obtain ⟨Y2, hY2⟩ : ∃ vx, (Y1.setCell ⟨V2.heap.size, 0, none⟩ (.int .u8 (cp n j : Int))).setCell ⟨V2.heap.size, 1, none⟩ (.int .u8 (cq n j : Int)) = vx := ⟨_, rfl⟩
          have oY2 : Out (V2.heap.size) (V2.heap.size + 1) Y1 Y2 := by rw [← hY2]; exact ((Out.refl (V2.heap.size) (V2.heap.size + 1) Y1).setCell (Nat.le_refl _) (Nat.lt_succ_self _) _ _).setCell (Nat.le_refl _) (Nat.lt_succ_self _) _ _
          have HZ7 : Hid (Y2.heap[V2.heap.size]? = some (.cells #[.int .u8 (cp n j : Int), .int .u8 (cq n j : Int)] 58 (0, 0))) := by
            show Y2.heap[V2.heap.size]? = _
            rw [← hY2]; exact box2_set HY7.out
          have HZ6 : Hid _ := box_out HY6.out oY2 (by omega)
          have nY2 : Below w3.heap.size w3 Y2 := by rw [← hY2]; exact (nY1.setCell (by simp; omega) _).setCell (by simp; omega) _
          refine wpAnyH_ready (rs := [9]) (by kernel_rfl) (by simp) (AllReadyH.cons rfl (fun K hK => ?_) AllReadyH.nil)
          go_simp
          clear hY2
          refine hK.out _ _ (HSX.out _ nY2) (fun hS => ?_)
          clear hK K
          refine wpAnyH_done (by kernel_rfl) ?_ _
          go_wp2_with fail
          go_meet
          exact ⟨_, _, rfl, rfl, by omega, by omega, HZ6.out, HZ7.out, nY2⟩
        · obtain ⟨V2, hV2⟩ : ∃ vx, V1.alloc (.cells #[.int .u8 0, .int .u8 0] 58) = vx := ⟨_, rfl⟩
          have b2 : Below V1.heap.size V1 V2 := by rw [← hV2]; exact below_alloc _ _
          have n3 := Below.comp n2 b2
          have z2 : V1.heap.size < V2.heap.size := by rw [← hV2]; simp
          replace H6 : Hid _ := box_on H6.out b2
          have H7 : Hid (V2.heap[V1.heap.size]? = some (.cells #[.int .u8 0, .int .u8 0] 58 (0, 0))) := by
            show V2.heap[V1.heap.size]? = _
            rw [← hV2]; exact heap_alloc_new _ _
          go_simp
          clear hV2
          refine hK.out _ _ (HSX.out _ n3) (fun hS => ?_)
          clear hK K
          refine wpAnyH_ready (rs := [5]) (by kernel_rfl) (by simp) (AllReadyH.cons rfl (fun K hK => ?_) (AllReadyH.nil))
          go_simp
          refine (CX.out _ j hj n3).mono ?_
          rintro e V3 ⟨rfl, b3⟩
          have n4 := Below.comp n3 b3
          have z3 := b3.size
          replace H6 : Hid _ := box_on H6.out b3
          replace H7 : Hid _ := box_on H7.out b3
          refine hK.out _ _ (HSX.out _ n4) (fun hS => ?_)
          clear hK K
          obtain ⟨t0, t1, ft0, ft1⟩ := box2_cells H6.out
          obtain ⟨Y1, hY1⟩ : ∃ vx, (V3.setCell ⟨X0.heap.size, 0, none⟩ (.int .u8 (cp n i : Int))).setCell ⟨X0.heap.size, 1, none⟩ (.int .u8 (cq n i : Int)) = vx := ⟨_, rfl⟩
          have l6 := box_lt H6.out
          have l7 := box_lt H7.out
          have lz := (n4).size
          have oY1 : Out (X0.heap.size) (X0.heap.size + 1) V3 Y1 := by rw [← hY1]; exact ((Out.refl (X0.heap.size) (X0.heap.size + 1) V3).setCell (Nat.le_refl _) (Nat.lt_succ_self _) _ _).setCell (Nat.le_refl _) (Nat.lt_succ_self _) _ _
          have HY6 : Hid (Y1.heap[X0.heap.size]? = some (.cells #[.int .u8 (cp n i : Int), .int .u8 (cq n i : Int)] 58 (0, 0))) := by
            show Y1.heap[X0.heap.size]? = _
            rw [← hY1]; exact box2_set H6.out
          have nY1 : Below w3.heap.size w3 Y1 := by rw [← hY1]; exact ((n4).setCell (by simp; omega) _).setCell (by simp; omega) _
          refine wpAnyH_ready (rs := [8]) (by kernel_rfl) (by simp) (AllReadyH.cons rfl (fun K hK => ?_) AllReadyH.nil)
          go_simp
          clear hY1
          refine hK.out _ _ (HSX.out _ nY1) (fun hS => ?_)
          clear hK K
          have HY7 : Hid _ := box_out H7.out oY1 (by omega)
          clear t0 t1 ft0 ft1
          obtain ⟨t0, t1, ft0, ft1⟩ := box2_cells HY7.out
          obtain ⟨Y2, hY2⟩ : ∃ vx, (Y1.setCell ⟨V1.heap.size, 0, none⟩ (.int .u8 (cp n j : Int))).setCell ⟨V1.heap.size, 1, none⟩ (.int .u8 (cq n j : Int)) = vx := ⟨_, rfl⟩
          have oY2 : Out (V1.heap.size) (V1.heap.size + 1) Y1 Y2 := by rw [← hY2]; exact ((Out.refl (V1.heap.size) (V1.heap.size + 1) Y1).setCell (Nat.le_refl _) (Nat.lt_succ_self _) _ _).setCell (Nat.le_refl _) (Nat.lt_succ_self _) _ _
          have HZ7 : Hid (Y2.heap[V1.heap.size]? = some (.cells #[.int .u8 (cp n j : Int), .int .u8 (cq n j : Int)] 58 (0, 0))) := by
            show Y2.heap[V1.heap.size]? = _
            rw [← hY2]; exact box2_set HY7.out
          have HZ6 : Hid _ := box_out HY6.out oY2 (by omega)
          have nY2 : Below w3.heap.size w3 Y2 := by rw [← hY2]; exact (nY1.setCell (by simp; omega) _).setCell (by simp; omega) _
          refine wpAnyH_ready (rs := [9]) (by kernel_rfl) (by simp) (AllReadyH.cons rfl (fun K hK => ?_) AllReadyH.nil)
          go_simp
          clear hY2
          refine hK.out _ _ (HSX.out _ nY2) (fun hS => ?_)
          clear hK K
          refine wpAnyH_done (by kernel_rfl) ?_ _
          go_wp2_with fail
          go_meet
          exact ⟨_, _, rfl, rfl, by omega, by omega, HZ6.out, HZ7.out, nY2⟩
      · obtain ⟨V1, hV1⟩ : ∃ vx, V0.alloc (.cells #[.int .u8 0, .int .u8 0] 58) = vx := ⟨_, rfl⟩
        have b1 : Below V0.heap.size V0 V1 := by rw [← hV1]; exact below_alloc _ _
        have n2 := Below.comp n1 b1
        have z1 : V0.heap.size < V1.heap.size := by rw [← hV1]; simp
        replace H6 : Hid _ := box_on H6.out b1
        have H7 : Hid (V1.heap[V0.heap.size]? = some (.cells #[.int .u8 0, .int .u8 0] 58 (0, 0))) := by
          show V1.heap[V0.heap.size]? = _
          rw [← hV1]; exact heap_alloc_new _ _
        go_simp
        clear hV1
        refine hK.out _ _ (HSX.out _ n2) (fun hS => ?_)
        clear hK K
        refine wpAnyH_ready (rs := [2]) (by kernel_rfl) (by simp) (AllReadyH.cons rfl (fun K hK => ?_) (AllReadyH.nil))
        go_simp
        refine (CX.out _ i hi n2).mono ?_
        rintro e V2 ⟨rfl, b2⟩
        have n3 := Below.comp n2 b2
        have z2 := b2.size
        replace H6 : Hid _ := box_on H6.out b2
        replace H7 : Hid _ := box_on H7.out b2
        refine hK.out _ _ (HSX.out _ n3) (fun hS => ?_)
        clear hK K
        refine wpAnyH_ready (rs := [5]) (by kernel_rfl) (by simp) (AllReadyH.cons rfl (fun K hK => ?_) (AllReadyH.nil))
        go_simp
        refine (CX.out _ j hj n3).mono ?_
        rintro e V3 ⟨rfl, b3⟩
        have n4 := Below.comp n3 b3
        have z3 := b3.size
        replace H6 : Hid _ := box_on H6.out b3
        replace H7 : Hid _ := box_on H7.out b3
        refine hK.out _ _ (HSX.out _ n4) (fun hS => ?_)
        clear hK K
        obtain ⟨t0, t1, ft0, ft1⟩ := box2_cells H6.out
        obtain ⟨Y1, hY1⟩ : ∃ vx, (V3.setCell ⟨X0.heap.size, 0, none⟩ (.int .u8 (cp n i : Int))).setCell ⟨X0.heap.size, 1, none⟩ (.int .u8 (cq n i : Int)) = vx := ⟨_, rfl⟩
        have l6 := box_lt H6.out
        have l7 := box_lt H7.out
        have lz := (n4).size
        have oY1 : Out (X0.heap.size) (X0.heap.size + 1) V3 Y1 := by rw [← hY1]; exact ((Out.refl (X0.heap.size) (X0.heap.size + 1) V3).setCell (Nat.le_refl _) (Nat.lt_succ_self _) _ _).setCell (Nat.le_refl _) (Nat.lt_succ_self _) _ _
        have HY6 : Hid (Y1.heap[X0.heap.size]? = some (.cells #[.int .u8 (cp n i : Int), .int .u8 (cq n i : Int)] 58 (0, 0))) := by
          show Y1.heap[X0.heap.size]? = _
          rw [← hY1]; exact box2_set H6.out
        have nY1 : Below w3.heap.size w3 Y1 := by rw [← hY1]; exact ((n4).setCell (by simp; omega) _).setCell (by simp; omega) _
        refine wpAnyH_ready (rs := [8]) (by kernel_rfl) (by simp) (AllReadyH.cons rfl (fun K hK => ?_) AllReadyH.nil)
        go_simp
        clear hY1
        refine hK.out _ _ (HSX.out _ nY1) (fun hS => ?_)
        clear hK K
        have HY7 : Hid _ := box_out H7.out oY1 (by omega)
        clear t0 t1 ft0 ft1
        obtain ⟨t0, t1, ft0, ft1⟩ := box2_cells HY7.out
        obtain ⟨Y2, hY2⟩ : ∃ vx, (Y1.setCell ⟨V0.heap.size, 0, none⟩ (.int .u8 (cp n j : Int))).setCell ⟨V0.heap.size, 1, none⟩ (.int .u8 (cq n j : Int)) = vx := ⟨_, rfl⟩
        have oY2 : Out (V0.heap.size) (V0.heap.size + 1) Y1 Y2 := by rw [← hY2]; exact ((Out.refl (V0.heap.size) (V0.heap.size + 1) Y1).setCell (Nat.le_refl _) (Nat.lt_succ_self _) _ _).setCell (Nat.le_refl _) (Nat.lt_succ_self _) _ _
        have HZ7 : Hid (Y2.heap[V0.heap.size]? = some (.cells #[.int .u8 (cp n j : Int), .int .u8 (cq n j : Int)] 58 (0, 0))) := by
          show Y2.heap[V0.heap.size]? = _
          rw [← hY2]; exact box2_set HY7.out
        have HZ6 : Hid _ := box_out HY6.out oY2 (by omega)
        have nY2 : Below w3.heap.size w3 Y2 := by rw [← hY2]; exact (nY1.setCell (by simp; omega) _).setCell (by simp; omega) _
        refine wpAnyH_ready (rs := [9]) (by kernel_rfl) (by simp) (AllReadyH.cons rfl (fun K hK => ?_) AllReadyH.nil)
        go_simp
        clear hY2
        refine hK.out _ _ (HSX.out _ nY2) (fun hS => ?_)
        clear hK K
        refine wpAnyH_done (by kernel_rfl) ?_ _
        go_wp2_with fail
        go_meet
        exact ⟨_, _, rfl, rfl, by omega, by omega, HZ6.out, HZ7.out, nY2⟩
    · obtain ⟨V0, hV0⟩ : ∃ vx, X0.alloc (.cells #[.int .u8 0, .int .u8 0] 58) = vx := ⟨_, rfl⟩
      have b0 : Below X0.heap.size X0 V0 := by rw [← hV0]; exact below_alloc _ _
      have n1 := Below.comp n0 b0
      have z0 : X0.heap.size < V0.heap.size := by rw [← hV0]; simp
      have H7 : Hid (V0.heap[X0.heap.size]? = some (.cells #[.int .u8 0, .int .u8 0] 58 (0, 0))) := by
        show V0.heap[X0.heap.size]? = _
        rw [← hV0]; exact heap_alloc_new _ _
      go_simp
      clear hV0
      refine hK.out _ _ (HSX.out _ n1) (fun hS => ?_)
      clear hK K
      refine wpAnyH_ready (rs := [2, 6]) (by kernel_rfl) (by simp) (AllReadyH.cons rfl (fun K hK => ?_) (AllReadyH.cons rfl (fun K hK => ?_) (AllReadyH.nil)))
      · go_simp
        refine (CX.out _ i hi n1).mono ?_
        rintro e V1 ⟨rfl, b1⟩
        have n2 := Below.comp n1 b1
        have z1 := b1.size
        replace H7 : Hid _ := box_on H7.out b1
        refine hK.out _ _ (HSX.out _ n2) (fun hS => ?_)
        clear hK K
        refine wpAnyH_ready (rs := [5, 6]) (by kernel_rfl) (by simp) (AllReadyH.cons rfl (fun K hK => ?_) (AllReadyH.cons rfl (fun K hK => ?_) (AllReadyH.nil)))
        · go_simp
          refine (CX.out _ j hj n2).mono ?_
          rintro e V2 ⟨rfl, b2⟩
          have n3 := Below.comp n2 b2
          have z2 := b2.size
          replace H7 : Hid _ := box_on H7.out b2
          refine hK.out _ _ (HSX.out _ n3) (fun hS => ?_)
          clear hK K
          refine wpAnyH_ready (rs := [6]) (by kernel_rfl) (by simp) (AllReadyH.cons rfl (fun K hK => ?_) (AllReadyH.nil))
          obtain ⟨V3, hV3⟩ : ∃ vx, V2.alloc (.cells #[.int .u8 0, .int .u8 0] 58) = vx := ⟨_, rfl⟩
          have b3 : Below V2.heap.size V2 V3 := by rw [← hV3]; exact below_alloc _ _
          have n4 := Below.comp n3 b3
          have z3 : V2.heap.size < V3.heap.size := by rw [← hV3]; simp
          replace H7 : Hid _ := box_on H7.out b3
          have H6 : Hid (V3.heap[V2.heap.size]? = some (.cells #[.int .u8 0, .int .u8 0] 58 (0, 0))) := by
            show V3.heap[V2.heap.size]? = _
            rw [← hV3]; exact heap_alloc_new _ _
          go_simp
          clear hV3
          refine hK.out _ _ (HSX.out _ n4) (fun hS => ?_)
          clear hK K
          obtain ⟨t0, t1, ft0, ft1⟩ := box2_cells H6.out
          obtain ⟨Y1, hY1⟩ : ∃ vx, (V3.setCell ⟨V2.heap.size, 0, none⟩ (.int .u8 (cp n i : Int))).setCell ⟨V2.heap.size, 1, none⟩ (.int .u8 (cq n i : Int)) = vx := ⟨_, rfl⟩
          have l6 := box_lt H6.out
          have l7 := box_lt H7.out
          have lz := (n4).size
          have oY1 : Out (V2.heap.size) (V2.heap.size + 1) V3 Y1 := by rw [← hY1]; exact ((Out.refl (V2.heap.size) (V2.heap.size + 1) V3).setCell (Nat.le_refl _) (Nat.lt_succ_self _) _ _).setCell (Nat.le_refl _) (Nat.lt_succ_self _) _ _
          have HY6 : Hid (Y1.heap[V2.heap.size]? = some (.cells #[.int .u8 (cp n i : Int), .int .u8 (cq n i : Int)] 58 (0, 0))) := by
            show Y1.heap[V2.heap.size]? = _
            rw [← hY1]; exact box2_set H6.out
          have nY1 : Below w3.heap.size w3 Y1 := by rw [← hY1]; exact ((n4).setCell (by simp; omega) _).setCell (by simp; omega) _
          refine wpAnyH_ready (rs := [8]) (by kernel_rfl) (by simp) (AllReadyH.cons rfl (fun K hK => ?_) AllReadyH.nil)
          go_simp
          clear hY1
          refine hK.out _ _ (HSX.out _ nY1) (fun hS => ?_)
          clear hK K
          have HY7 : Hid _ := box_out H7.out oY1 (by omega)
          clear t0 t1 ft0 ft1
          obtain ⟨t0, t1, ft0, ft1⟩ := box2_cells HY7.out
          obtain ⟨Y2, hY2⟩ : ∃ vx, (Y1.setCell ⟨X0.heap.size, 0, none⟩ (.int .u8 (cp n j : Int))).setCell ⟨X0.heap.size, 1, none⟩ (.int .u8 (cq n j : Int)) = vx := ⟨_, rfl⟩
          have oY2 : Out (X0.heap.size) (X0.heap.size + 1) Y1 Y2 := by rw [← hY2]; exact ((Out.refl (X0.heap.size) (X0.heap.size + 1) Y1).setCell (Nat.le_refl _) (Nat.lt_succ_self _) _ _).setCell (Nat.le_refl _) (Nat.lt_succ_self _) _ _
          have HZ7 : Hid (Y2.heap[X0.heap.size]? = some (.cells #[.int .u8 (cp n j : Int), .int .u8 (cq n j : Int)] 58 (0, 0))) := by
            show Y2.heap[X0.heap.size]? = _
            rw [← hY2]; exact box2_set HY7.out
          have HZ6 : Hid _ := box_out HY6.out oY2 (by omega)
          have nY2 : Below w3.heap.size w3 Y2 := by rw [← hY2]; exact (nY1.setCell (by simp; omega) _).setCell (by simp; omega) _
          refine wpAnyH_ready (rs := [9]) (by kernel_rfl) (by simp) (AllReadyH.cons rfl (fun K hK => ?_) AllReadyH.nil)
          go_simp
          clear hY2
          refine hK.out _ _ (HSX.out _ nY2) (fun hS => ?_)
          clear hK K
          refine wpAnyH_done (by kernel_rfl) ?_ _
          go_wp2_with fail
          go_meet
          exact ⟨_, _, rfl, rfl, by omega, by omega, HZ6.out, HZ7.out, nY2⟩
        · obtain ⟨V2, hV2⟩ : ∃ vx, V1.alloc (.cells #[.int .u8 0, .int .u8 0] 58) = vx := ⟨_, rfl⟩
          have b2 : Below V1.heap.size V1 V2 := by rw [← hV2]; exact below_alloc _ _
          have n3 := Below.comp n2 b2
          have z2 : V1.heap.size < V2.heap.size := by rw [← hV2]; simp
          replace H7 : Hid _ := box_on H7.out b2
          have H6 : Hid (V2.heap[V1.heap.size]? = some (.cells #[.int .u8 0, .int .u8 0] 58 (0, 0))) := by
            show V2.heap[V1.heap.size]? = _
            rw [← hV2]; exact heap_alloc_new _ _
          go_simp
          clear hV2
          refine hK.out _ _ (HSX.out _ n3) (fun hS => ?_)
          clear hK K
          refine wpAnyH_ready (rs := [5]) (by kernel_rfl) (by simp) (AllReadyH.cons rfl (fun K hK => ?_) (AllReadyH.nil))
          go_simp
          refine (CX.out _ j hj n3).mono ?_
          rintro e V3 ⟨rfl, b3⟩
          have n4 := Below.comp n3 b3
          have z3 := b3.size
          replace H7 : Hid _ := box_on H7.out b3
          replace H6 : Hid _ := box_on H6.out b3
          refine hK.out _ _ (HSX.out _ n4) (fun hS => ?_)
          clear hK K
          obtain ⟨t0, t1, ft0, ft1⟩ := box2_cells H6.out
          obtain ⟨Y1, hY1⟩ : ∃ vx, (V3.setCell ⟨V1.heap.size, 0, none⟩ (.int .u8 (cp n i : Int))).setCell ⟨V1.heap.size, 1, none⟩ (.int .u8 (cq n i : Int)) = vx := ⟨_, rfl⟩
          have l6 := box_lt H6.out
          have l7 := box_lt H7.out
          have lz := (n4).size
          have oY1 : Out (V1.heap.size) (V1.heap.size + 1) V3 Y1 := by rw [← hY1]; exact ((Out.refl (V1.heap.size) (V1.heap.size + 1) V3).setCell (Nat.le_refl _) (Nat.lt_succ_self _) _ _).setCell (Nat.le_refl _) (Nat.lt_succ_self _) _ _
          have HY6 : Hid (Y1.heap[V1.heap.size]? = some (.cells #[.int .u8 (cp n i : Int), .int .u8 (cq n i : Int)] 58 (0, 0))) := by
            show Y1.heap[V1.heap.size]? = _
            rw [← hY1]; exact box2_set H6.out
          have nY1 : Below w3.heap.size w3 Y1 := by rw [← hY1]; exact ((n4).setCell (by simp; omega) _).setCell (by simp; omega) _
          refine wpAnyH_ready (rs := [8]) (by kernel_rfl) (by simp) (AllReadyH.cons rfl (fun K hK => ?_) AllReadyH.nil)
          go_simp
          clear hY1
          refine hK.out _ _ (HSX.out _ nY1) (fun hS => ?_)
          clear hK K
          have HY7 : Hid _ := box_out H7.out oY1 (by omega)
          clear t0 t1 ft0 ft1
          obtain ⟨t0, t1, ft0, ft1⟩ := box2_cells HY7.out
          obtain ⟨Y2, hY2⟩ : ∃ vx, (Y1.setCell ⟨X0.heap.size, 0, none⟩ (.int .u8 (cp n j : Int))).setCell ⟨X0.heap.size, 1, none⟩ (.int .u8 (cq n j : Int)) = vx := ⟨_, rfl⟩
          have oY2 : Out (X0.heap.size) (X0.heap.size + 1) Y1 Y2 := by rw [← hY2]; exact ((Out.refl (X0.heap.size) (X0.heap.size + 1) Y1).setCell (Nat.le_refl _) (Nat.lt_succ_self _) _ _).setCell (Nat.le_refl _) (Nat.lt_succ_self _) _ _
          have HZ7 : Hid (Y2.heap[X0.heap.size]? = some (.cells #[.int .u8 (cp n j : Int), .int .u8 (cq n j : Int)] 58 (0, 0))) := by
            show Y2.heap[X0.heap.size]? = _
            rw [← hY2]; exact box2_set HY7.out
          have HZ6 : Hid _ := box_out HY6.out oY2 (by omega)
          have nY2 : Below w3.heap.size w3 Y2 := by rw [← hY2]; exact (nY1.setCell (by simp; omega) _).setCell (by simp; omega) _
          refine wpAnyH_ready (rs := [9]) (by kernel_rfl) (by simp) (AllReadyH.cons rfl (fun K hK => ?_) AllReadyH.nil)
          go_simp
          clear hY2
          refine hK.out _ _ (HSX.out _ nY2) (fun hS => ?_)
          clear hK K
          refine wpAnyH_done (by kernel_rfl) ?_ _
          go_wp2_with fail
          go_meet
          exact ⟨_, _, rfl, rfl, by omega, by omega, HZ6.out, HZ7.out, nY2⟩
      · obtain ⟨V1, hV1⟩ : ∃ vx, V0.alloc (.cells #[.int .u8 0, .int .u8 0] 58) = vx := ⟨_, rfl⟩
        have b1 : Below V0.heap.size V0 V1 := by rw [← hV1]; exact below_alloc _ _
        have n2 := Below.comp n1 b1
        have z1 : V0.heap.size < V1.heap.size := by rw [← hV1]; simp
        replace H7 : Hid _ := box_on H7.out b1
        have H6 : Hid (V1.heap[V0.heap.size]? = some (.cells #[.int .u8 0, .int .u8 0] 58 (0, 0))) := by
          show V1.heap[V0.heap.size]? = _
          rw [← hV1]; exact heap_alloc_new _ _
        go_simp
        clear hV1
        refine hK.out _ _ (HSX.out _ n2) (fun hS => ?_)
        clear hK K
        refine wpAnyH_ready (rs := [2]) (by kernel_rfl) (by simp) (AllReadyH.cons rfl (fun K hK => ?_) (AllReadyH.nil))
        go_simp
        refine (CX.out _ i hi n2).mono ?_
        rintro e V2 ⟨rfl, b2⟩
        have n3 := Below.comp n2 b2
        have z2 := b2.size
        replace H7 : Hid _ := box_on H7.out b2
        replace H6 : Hid _ := box_on H6.out b2
        refine hK.out _ _ (HSX.out _ n3) (fun hS => ?_)
        clear hK K
        refine wpAnyH_ready (rs := [5]) (by kernel_rfl) (by simp) (AllReadyH.cons rfl (fun K hK => ?_) (AllReadyH.nil))
        go_simp
        refine (CX.out _ j hj n3).mono ?_
        rintro e V3 ⟨rfl, b3⟩
        have n4 := Below.comp n3 b3
        have z3 := b3.size
        replace H7 : Hid _ := box_on H7.out b3
        replace H6 : Hid _ := box_on H6.out b3
        refine hK.out _ _ (HSX.out _ n4) (fun hS => ?_)
        clear hK K
        obtain ⟨t0, t1, ft0, ft1⟩ := box2_cells H6.out
        obtain ⟨Y1, hY1⟩ : ∃ vx, (V3.setCell ⟨V0.heap.size, 0, none⟩ (.int .u8 (cp n i : Int))).setCell ⟨V0.heap.size, 1, none⟩ (.int .u8 (cq n i : Int)) = vx := ⟨_, rfl⟩
        have l6 := box_lt H6.out
        have l7 := box_lt H7.out
        have lz := (n4).size
        have oY1 : Out (V0.heap.size) (V0.heap.size + 1) V3 Y1 := by rw [← hY1]; exact ((Out.refl (V0.heap.size) (V0.heap.size + 1) V3).setCell (Nat.le_refl _) (Nat.lt_succ_self _) _ _).setCell (Nat.le_refl _) (Nat.lt_succ_self _) _ _
        have HY6 : Hid (Y1.heap[V0.heap.size]? = some (.cells #[.int .u8 (cp n i : Int), .int .u8 (cq n i : Int)] 58 (0, 0))) := by
          show Y1.heap[V0.heap.size]? = _
          rw [← hY1]; exact box2_set H6.out
        have nY1 : Below w3.heap.size w3 Y1 := by rw [← hY1]; exact ((n4).setCell (by simp; omega) _).setCell (by simp; omega) _
        refine wpAnyH_ready (rs := [8]) (by kernel_rfl) (by simp) (AllReadyH.cons rfl (fun K hK => ?_) AllReadyH.nil)
        go_simp
        clear hY1
        refine hK.out _ _ (HSX.out _ nY1) (fun hS => ?_)
        clear hK K
        have HY7 : Hid _ := box_out H7.out oY1 (by omega)
        clear t0 t1 ft0 ft1
        obtain ⟨t0, t1, ft0, ft1⟩ := box2_cells HY7.out
        obtain ⟨Y2, hY2⟩ : ∃ vx, (Y1.setCell ⟨X0.heap.size, 0, none⟩ (.int .u8 (cp n j : Int))).setCell ⟨X0.heap.size, 1, none⟩ (.int .u8 (cq n j : Int)) = vx := ⟨_, rfl⟩
        have oY2 : Out (X0.heap.size) (X0.heap.size + 1) Y1 Y2 := by rw [← hY2]; exact ((Out.refl (X0.heap.size) (X0.heap.size + 1) Y1).setCell (Nat.le_refl _) (Nat.lt_succ_self _) _ _).setCell (Nat.le_refl _) (Nat.lt_succ_self _) _ _
        have HZ7 : Hid (Y2.heap[X0.heap.size]? = some (.cells #[.int .u8 (cp n j : Int), .int .u8 (cq n j : Int)] 58 (0, 0))) := by
          show Y2.heap[X0.heap.size]? = _
          rw [← hY2]; exact box2_set HY7.out
        have HZ6 : Hid _ := box_out HY6.out oY2 (by omega)
        have nY2 : Below w3.heap.size w3 Y2 := by rw [← hY2]; exact (nY1.setCell (by simp; omega) _).setCell (by simp; omega) _
        refine wpAnyH_ready (rs := [9]) (by kernel_rfl) (by simp) (AllReadyH.cons rfl (fun K hK => ?_) AllReadyH.nil)
        go_simp
        clear hY2
        refine hK.out _ _ (HSX.out _ nY2) (fun hS => ?_)
        clear hK K
        refine wpAnyH_done (by kernel_rfl) ?_ _
        go_wp2_with fail
        go_meet
        exact ⟨_, _, rfl, rfl, by omega, by omega, HZ6.out, HZ7.out, nY2⟩
  obtain ⟨k1, k2, rfl, rfl, hk1, hk2, hK1, hK2, bel⟩ := hcut
  generalize wc = w4 at *
  have HKA : Hid _ := hK1
  have HKB : Hid _ := hK2
  have HS4 : Hid _ := box_on HS3.out bel
  have HR4 : Hid _ := box_on HR3.out bel
  have g4 := g3.trans (bel.mono g3.size)
  have z4 := bel.size
  clear hK1 hK2 HSX c0 c1 c2 bel
  obtain ⟨a0, a1, -, -⟩ := box2_cells HKA.out
  obtain ⟨e0, e1, -, -⟩ := box2_cells HKB.out
  have cpi := cp_lt n i
  have cqi := cq_lt n i
  have cpj := cp_lt n j
  have cqj := cq_lt n j
  have hX := crossOf_any (cp n i) (cq n i) (cp n j) (cq n j) w4 cpi cqi cpj cqj (hT.below g4 hz0) (by omega)
  have hune : crs (cp n i) (cq n i) (cp n j) (cq n j) ≠ 0 := cross_ne hn2 hi hj hij
  have hul : crs (cp n i) (cq n i) (cp n j) (cq n j) < 256 := crs_lt cpi cqi
  obtain ⟨UU, hUU⟩ : ∃ UU, crs (cp n i) (cq n i) (cp n j) (cq n j) = UU := ⟨_, rfl⟩
  rw [hUU] at hX hune hul
  have HUU : Hid _ := hUU
  clear hUU
  go_wp2_with fail
  refine hX.mono ?_
  rintro e w5 ⟨rfl, b5⟩
  have HKA5 : Hid _ := box_on HKA.out b5
  have HKB5 : Hid _ := box_on HKB.out b5
  have HS5 : Hid _ := box_on HS4.out b5
  have HR5 : Hid _ := box_on HR4.out b5
  have g5 := g4.trans (b5.mono g4.size)
  have z5 := b5.size
  clear a0 a1 e0 e1 hX b5 HKA HKB HS4 HR4
  obtain ⟨c0, c1, c2, -, -, -⟩ := box3_cells HS5.out
  go_wp2_with fail
  refine (sumsOf_any a n cap D P Q _ hg (hc.below g5) (hT.below g5 hz0) (by omega)).mono ?_
  rintro e w6 ⟨b6, x, cx, rfl, mx⟩
  have HKA6 : Hid _ := box_on HKA5.out b6
  have HKB6 : Hid _ := box_on HKB5.out b6
  have HS6 : Hid _ := box_on HS5.out b6
  have HR6 : Hid _ := box_on HR5.out b6
  have g6 := g5.trans (b6.mono g5.size)
  have z6 := b6.size
  have hk1l := box_lt HKA6.out
  have hk2l := box_lt HKB6.out
  have hmk := make_any (P := Tryd.prog) 22 5 _ 1 1 Tryd.underlying22 info5 .i64 .i64 P.size (by omega) (by omega)
  clear c0 c1 c2 b6 HKA5 HKB5 HS5 HR5
  go_wp2
  go_cut [12, 13] (fun p q wx => ∃ r1 r2, p = .slice (some ⟨r1, 0, none⟩) P.size P.size ∧ q = .slice (some ⟨r2, 0, none⟩) P.size P.size ∧ r1 ≠ r2 ∧ w6.heap.size ≤ r1 ∧ w6.heap.size ≤ r2 ∧ r1 < w6.heap.size + 2 ∧ r2 < w6.heap.size + 2 ∧ wx.heap[r1]? = some (.cells (made (.int .u8 0) P.size) 5 (0, 0)) ∧ wx.heap[r2]? = some (.cells (made (.int .u8 0) P.size) 5 (0, 0)) ∧ Below w6.heap.size w6 wx ∧ wx.heap.size = w6.heap.size + 2)
  case first =>
    go_region
    all_goals go_wp2_with fail
    all_goals go_meet
    · refine ⟨w6.heap.size, w6.heap.size + 1, rfl, rfl, by omega, by omega, by omega, by omega, by omega, ?_, ?_, ((below_alloc w6 _).alloc (by simp) _).drew, by simp⟩
      · show ((w6.alloc _).alloc _).heap[w6.heap.size]? = _
        rw [Below.heap_alloc _ _ _ (by simp)]; exact heap_alloc_new _ _
      · have := heap_alloc_new (w6.alloc (.cells (made (.int .u8 0) P.size) 5)) (.cells (made (.int .u8 0) P.size) 5)
        rw [World.size_alloc] at this
        exact this
    · refine ⟨w6.heap.size + 1, w6.heap.size, rfl, rfl, by omega, by omega, by omega, by omega, by omega, ?_, ?_, ((below_alloc w6 _).alloc (by simp) _).drew, by simp⟩
      · have := heap_alloc_new (w6.alloc (.cells (made (.int .u8 0) P.size) 5)) (.cells (made (.int .u8 0) P.size) 5)
        rw [World.size_alloc] at this
        exact this
      · show ((w6.alloc _).alloc _).heap[w6.heap.size]? = _
        rw [Below.heap_alloc _ _ _ (by simp)]; exact heap_alloc_new _ _
  obtain ⟨r1, r2, rfl, rfl, hr12, hr1, hr2, hr1', hr2', hR1, hR2, bel, hsw⟩ := hcut
  generalize wc = W7 at *
  have HKA7 : Hid _ := box_on HKA6.out bel
  have HKB7 : Hid _ := box_on HKB6.out bel
  have HS7 : Hid _ := box_on HS6.out bel
  have HR7 : Hid _ := box_on HR6.out bel
  have g7 := g6.trans (bel.mono g6.size)
  have mx7 : Mine W7 w5.heap.size w6.heap.size 58 P.size x (prs P.size (fun k => sp n (dby D k) (bb P k)) (fun k => sq' n (dby D k) (bb Q k))) := mx.below bel
  have HR1 : Hid _ := hR1
  have HR2 : Hid _ := hR2
  have HSW : Hid _ := hsw
  obtain ⟨fa, hfa⟩ : ∃ fa : Nat → Nat, fa = fun k => ch n i j (sp n (dby D k) (bb P k)) (sq' n (dby D k) (bb Q k)) := ⟨_, rfl⟩
  obtain ⟨fb, hfb⟩ : ∃ fb : Nat → Nat, fb = fun k => ch n j i (sp n (dby D k) (bb P k)) (sq' n (dby D k) (bb Q k)) := ⟨_, rfl⟩
  have HFA : Hid _ := hfa
  have HFB : Hid _ := hfb
  clear hfa hfb hR1 hR2 hsw mx bel HKA6 HKB6 HS6 HR6 hmk
  go_wp2
  generalize hLL : P.size = L at *
  go_loopw [56] (fun iv wr => ∃ (k : Nat) (c1 c2 : Array Value), k ≤ L ∧ iv = .int .i64 k ∧ wr.heap[r1]? = some (.cells c1 5 (0, 0)) ∧ wr.heap[r2]? = some (.cells c2 5 (0, 0)) ∧ bys L (mx2 (fun _ => 0) fa k) c1 ∧ bys L (mx2 (fun _ => 0) fb k) c2 ∧ Out w6.heap.size (w6.heap.size + 2) W7 wr) (fun iv _ => L - (intOf iv).toNat)
  case atStart => exact ⟨0, _, _, Nat.zero_le _, rfl, HR1.out, HR2.out, bys_made L, bys_made L, Out.refl _ _ _⟩
  case round =>
    obtain ⟨k, c1, c2, hk, rfl, hR1, hR2, hst1, hst2, ho⟩ := hrel
    have zo := ho.size
    have hsw := HSW.out
    by_cases hlt : k < L
    · have hlt' : (k : Int) < (L : Int) := by omega
      obtain ⟨bx, rfl, hcs⟩ := (mx7.out ho (.inl (Nat.le_refl _))).prs (by omega)
      obtain ⟨p0, p1⟩ := hcs k hlt
      have hp1 := hst1 k hlt
      have hp2 := hst2 k hlt
      rw [mx2_at] at hp1 hp2
      have hul' : sp n (dby D k) (bb P k) < 256 := sp_lt (dby_lt D k) (bb_lt _ _)
      have hvl' : sq' n (dby D k) (bb Q k) < 256 := sq_lt' (dby_lt D k) (bb_lt _ _)
      have hfak : fa k = gm (crs (sp n (dby D k) (bb P k)) (sq' n (dby D k) (bb Q k)) (cp n j) (cq n j)) (gi UU) := by rw [HFA.out, ← HUU.out]; rfl
      have hfbk : fb k = gm (crs (cp n i) (cq n i) (sp n (dby D k) (bb P k)) (sq' n (dby D k) (bb Q k))) (gi UU) := by
        rw [HFB.out, ← HUU.out, crs_comm cpi cqi cpj cqj, crs_comm cpi cqi hul' hvl']; rfl
      generalize hSP : sp n (dby D k) (bb P k) = u at *
      generalize hSQ : sq' n (dby D k) (bb Q k) = v at *
      obtain ⟨W8, hW8⟩ : ∃ vx, wr.alloc (.cells #[.int .u8 (u : Int), .int .u8 (v : Int)] 58) = vx := ⟨_, rfl⟩
      have b8 : Below wr.heap.size wr W8 := by rw [← hW8]; exact below_alloc _ _
      have HN8 : Hid (W8.heap[wr.heap.size]? = some (.cells #[.int .u8 (u : Int), .int .u8 (v : Int)] 58 (0, 0))) := by
        show W8.heap[wr.heap.size]? = _
        rw [← hW8]; exact heap_alloc_new _ _
      have s8 : W8.heap.size = wr.heap.size + 1 := by rw [← hW8]; simp
      have o8 : Out w6.heap.size (w6.heap.size + 2) W7 W8 := ho.trans (Out.of_below b8)
      have HKA8 : Hid _ := box_out HKA7.out o8 (by omega)
      have HKB8 : Hid _ := box_out HKB7.out o8 (by omega)
      have HR18 : Hid _ := box_on hR1 b8
      have HR28 : Hid _ := box_on hR2 b8
      have hT8 : Tab W8 := (hT.below g7 hz0).out o8 (by omega)
      obtain ⟨kb0, kb1, -, -⟩ := box2_cells HKB8.out
      obtain ⟨nn0, nn1, -, -⟩ := box2_cells HN8.out
      have hX1 := crossOf_any u v (cp n j) (cq n j) W8 hul' hvl' cpj cqj hT8 (by omega)
      have hc1l : crs u v (cp n j) (cq n j) < 256 := crs_lt hul' hvl'
      have hrl1 := box_lt hR1
      have hrl2 := box_lt hR2
      have S8 : Hid _ := s8
      clear hcs hR1 hR2 s8
      generalize hC1 : crs u v (cp n j) (cq n j) = C1 at *
      generalize hC2 : crs (cp n i) (cq n i) u v = C2 at *
      have HFAK : Hid _ := hfak
      have HFBK : Hid _ := hfbk
      clear hfak hfbk
      go_wp2_with fail
      clear hW8
      refine hX1.mono ?_
      rintro e w9 ⟨rfl, b9⟩
      have z9 := b9.size
      have o9 : Out w6.heap.size (w6.heap.size + 2) W7 w9 := o8.trans (Out.of_below b9)
      have HR19 : Hid _ := box_on HR18.out b9
      have HR29 : Hid _ := box_on HR28.out b9
      have HN9 : Hid _ := box_on HN8.out b9
      have hT9 : Tab w9 := (hT.below g7 hz0).out o9 (by omega)
      have hdv1 := implDiv_any C1 UU w9 hc1l hul hT9
      have ed1 : dvV C1 UU = .tuple #[.int .u8 (gm C1 (gi UU) : Nat), .bool true] := by simp [dvV, hune]
      rw [ed1, ← HFAK.out] at hdv1
      have t19 := cell_of_block HR19.out hp1
      have ft19 := free_of_block (i := k) HR19.out
      clear kb0 kb1 nn0 nn1 hX1 b9 ed1
      obtain ⟨W10, hW10⟩ : ∃ vx, w9.setCell ⟨r1, k, none⟩ (.int .u8 (fa k : Int)) = vx := ⟨_, rfl⟩
      have q10 : Out r1 (r1 + 1) w9 W10 := by rw [← hW10]; exact out_setCell _ _ _ _
      have o10 : Out w6.heap.size (w6.heap.size + 2) W7 W10 := o9.trans (q10.mono hr1 (by omega))
      have HR110 : Hid (W10.heap[r1]? = some (.cells (c1.setIfInBounds k (.int .u8 (fa k : Int))) 5 (0, 0))) := by
        show W10.heap[r1]? = _
        rw [← hW10]; exact block_set HR19.out
      have HR210 : Hid _ := box_out HR29.out q10 (by omega)
      have HN10 : Hid _ := box_out HN9.out q10 (by omega)
      have HKA10 : Hid _ := box_out HKA7.out o10 (by omega)
      have hT10 : Tab W10 := (hT.below g7 hz0).out o10 (by omega)
      have z10 := q10.size
      have s8' := S8.out
      have hX2 := crossOf_any (cp n i) (cq n i) u v W10 cpi cqi hul' hvl' hT10 (by omega)
      have hc2l : crs (cp n i) (cq n i) u v < 256 := crs_lt cpi cqi
      rw [hC2] at hX2 hc2l
      obtain ⟨ka0, ka1, -, -⟩ := box2_cells HKA10.out
      obtain ⟨nn0, nn1, -, -⟩ := box2_cells HN10.out
      go_wp2_with fail
      refine hdv1.mono ?_
      rintro e w9' ⟨rfl, rfl⟩
      go_wp2_with fail
      clear hW10
      refine hX2.mono ?_
      rintro e w11 ⟨rfl, b11⟩
      have z11 := b11.size
      have o11 : Out w6.heap.size (w6.heap.size + 2) W7 w11 := o10.trans (Out.of_below b11)
      have HR111 : Hid _ := box_on HR110.out b11
      have HR211 : Hid _ := box_on HR210.out b11
      have hT11 : Tab w11 := (hT.below g7 hz0).out o11 (by omega)
      have hdv2 := implDiv_any C2 UU w11 hc2l hul hT11
      have ed2 : dvV C2 UU = .tuple #[.int .u8 (gm C2 (gi UU) : Nat), .bool true] := by simp [dvV, hune]
      rw [ed2, ← HFBK.out] at hdv2
      have t211 := cell_of_block HR211.out hp2
      have ft211 := free_of_block (i := k) HR211.out
      clear ka0 ka1 nn0 nn1 hX2 b11 ed2 hdv1 t19 ft19
      go_wp2_with fail
      refine hdv2.mono ?_
      rintro e w11' ⟨rfl, rfl⟩
      go_wp2
      go_roundw
      case rel => exact ⟨k + 1, _, _, by omega, by go_num, box_out HR111.out (out_setCell _ r2 k _) (by omega), block_set HR211.out, bys_stepz hst1 hlt, bys_stepz hst2 hlt, o11.setCell hr2 hr2' _ _⟩
      case measure => simp [intOf]; omega
    · obtain rfl : k = L := by omega
      have hlt' : ¬ (k : Int) < (k : Int) := by omega
      subst hLL
      have hfal : ∀ k, fa k < 256 := fun k => by rw [HFA.out]; exact ch_lt (sp_lt (dby_lt D k) (bb_lt _ _)) (sq_lt' (dby_lt D k) (bb_lt _ _))
      have hfbl : ∀ k, fb k < 256 := fun k => by rw [HFB.out]; exact ch_lt (sp_lt (dby_lt D k) (bb_lt _ _)) (sq_lt' (dby_lt D k) (bb_lt _ _))
      have x1 : At wr (some ⟨r1, 0, none⟩) P.size (by' fa) := fun _ => ⟨_, 0, rfl, fun j hj => by rw [Nat.zero_add, cell_of_block hR1 (hst1 j hj), mx2_all hj]; rfl⟩
      have x2 : At wr (some ⟨r2, 0, none⟩) P.size (by' fb) := fun _ => ⟨_, 0, rfl, fun j hj => by rw [Nat.zero_add, cell_of_block hR2 (hst2 j hj), mx2_all hj]; rfl⟩
      have gr : Below w.heap.size w wr := g7.trans ((ho.below (by omega)).mono (by omega))
      have hU1 : (tx P.size fun k => bb (dt n D P Q i) k ^^^ fa k) = twoU n D P Q i j := by rw [HFA.out]; rfl
      have hw1 := withChange_any a n cap D P Q i (some ⟨r1, 0, none⟩) P.size fa wr hg hi hfal x1 (hc.below gr)
      rw [hU1] at hw1
      obtain ⟨U1, hUU1⟩ : ∃ U1, twoU n D P Q i j = U1 := ⟨_, rfl⟩
      have hU1z : U1.size = P.size := by rw [← hUU1]; exact twoU_size _ _ _ _ _ _
      rw [hUU1] at hw1
      have hg2 := good_set (i := i) (u := U1) hg hU1z
      have hPz : (sP n P i U1).size = P.size := by unfold sP; split; exact hU1z; rfl
      have hU2 : (tx (sP n P i U1).size fun k => bb (dt n (sD n D i U1) (sP n P i U1) (sQ n Q i U1) j) k ^^^ fb k) = twoU n D P Q j i := by rw [hPz, dt_set_ne hi hj hij, HFB.out]; rfl
      have HU2 : Hid _ := hU2
      have HPZ : Hid _ := hPz
      obtain ⟨c0, c1', c2', -, -, -⟩ := box3_cells (box_out HS7.out ho (by omega))
      have HRr : Hid _ := box_out HR7.out ho (by omega)
      have zgr := gr.size
      clear hR1 hR2 hst1 hst2 hU1 hU2 hPz
      go_wp2_with fail
      refine hw1.mono ?_
      rintro e w8 ⟨b8, y, cy, rfl, m8⟩
      have hw2 := withChange_any y n cy (sD n D i U1) (sP n P i U1) (sQ n Q i U1) j (some ⟨r2, 0, none⟩) P.size fb w8 hg2 hj hfbl (by rw [HPZ.out]; exact x2.below b8) m8.strs
      rw [HU2.out, HPZ.out] at hw2
      have HR8 : Hid _ := box_on HRr.out b8
      have g8 := gr.trans (b8.mono gr.size)
      have z8 := b8.size
      clear c0 c1' c2' hw1 b8
      go_wp2_with fail
      refine hw2.mono ?_
      rintro e w9 ⟨b9, y2, cy2, rfl, m9⟩
      obtain ⟨r0, r1', r2', q0, q1, q2⟩ := box3_cells (box_on HR8.out b9)
      have g9 := g8.trans (b9.mono g8.size)
      have z9 := b9.size
      clear hw2
      go_wp2
      have hD' : tD n D P Q i j = sD n (sD n D i U1) j (twoU n D P Q j i) := by rw [← hUU1]; rfl
      have hP' : tP n D P Q i j = sP n (sP n P i U1) j (twoU n D P Q j i) := by rw [← hUU1]; rfl
      have hQ' : tQ n D P Q i j = sQ n (sQ n Q i U1) j (twoU n D P Q j i) := by rw [← hUU1]; rfl
      refine bodyPost_ret (v := .tuple #[sv y2 n cy2 (sP n (sP n P i U1) j (twoU n D P Q j i)) (sQ n (sQ n Q i U1) j (twoU n D P Q j i)), .bool true]) (by simp [results, Tryd.results12, go_sem, r0, r1', r2']) rfl ⟨?_, y2, cy2, by rw [hP', hQ'], ?_⟩
      · refine ((g9.setCell ?_ _).setCell ?_ _).setCell ?_ _ <;> simp
      · rw [hD']
        refine (((m9.out (out_setCell _ (w.heap.size + 1) 0 _) (by omega)).out (out_setCell _ (w.heap.size + 1) 1 _) (by omega)).out (out_setCell _ (w.heap.size + 1) 2 _) (by omega)).mono (by omega) ?_
        simp
end Go.Proofs.YtgipopkjjhehlaaDoor
