import Derived.Test.YtgipopkjjhehlaaDoorZ1
namespace Go.Proofs.YtgipopkjjhehlaaDoor
open Go.ChangeShapes Go.WideShapes Go.ChangeAt Go.RowKit
set_option linter.unusedVariables false
open GF

set_option maxRecDepth 100000 in
set_option maxHeartbeats 4000000 in
theorem specUpd_any (a : Option Addr) (n cap : Nat) (D : Nat → ByteArray) (P Q : ByteArray) (t : Int) (u : ByteArray) (w : World) (hn : n ≤ 1048576) (hc : At w a n fun i => .string (D i)) :
    Calls Tryd.prog 19 #[sv a n cap P Q, .int .i64 t, .string u] w fun e w' => RO w e w' (okUpd n D P Q t u) (oneN n (okUpd n D P Q t u)) (upD D t.toNat u) (oneP (okUpd n D P Q t u) (updP D P t.toNat u)) (oneP (okUpd n D P Q t u) (updQ D P Q t.toNat u)) := by
  unfold sv
  obtain ⟨W0, hW0⟩ : ∃ W0, (w.alloc (.cells #[.slice a n cap, .string P, .string Q] 26)).alloc (.cells #[.slice none 0 0, .string ⟨#[]⟩, .string ⟨#[]⟩] 26) = W0 := ⟨_, rfl⟩
  have b0 : Below w.heap.size w W0 := by rw [← hW0]; exact (below_alloc w _).alloc (by simp) _
  have hsz : W0.heap.size = w.heap.size + 1 + 1 := by rw [← hW0]; simp
  have HS0 : Hid (W0.heap[w.heap.size]? = some (.cells #[.slice a n cap, .string P, .string Q] 26 (0, 0))) := by
    show W0.heap[w.heap.size]? = _
    rw [← hW0, Below.heap_alloc _ _ _ (by simp)]; exact heap_alloc_new _ _
  have HR0 : Hid (W0.heap[w.heap.size + 1]? = some (.cells #[.slice none 0 0, .string ⟨#[]⟩, .string ⟨#[]⟩] 26 (0, 0))) := by
    have := heap_alloc_new (w.alloc (.cells #[.slice a n cap, .string P, .string Q] 26)) (.cells #[.slice none 0 0, .string ⟨#[]⟩, .string ⟨#[]⟩] 26)
    rw [World.size_alloc, hW0] at this
    exact this
  obtain ⟨c0, c1, c2, -, -, -⟩ := box3_cells HS0.out
  have HSZ : Hid _ := hsz
  clear hsz
  have hsp := specGood_any a n cap D P Q W0 hn (hc.below b0)
  have fin : ∀ w2, Below W0.heap.size W0 w2 → RO w (.returned (.tuple #[.agg #[.slice none 0 0, .string ⟨#[]⟩, .string ⟨#[]⟩], .bool false])) (((w2.setCell ⟨w.heap.size + 1, 0, none⟩ (.slice none 0 0)).setCell ⟨w.heap.size + 1, 1, none⟩ (.string ⟨#[]⟩)).setCell ⟨w.heap.size + 1, 2, none⟩ (.string ⟨#[]⟩)) false 0 (upD D t.toNat u) emp emp := fun w2 b2 =>
    ⟨(((b0.trans (b2.mono b0.size)).setCell (by simp) _).setCell (by simp) _).setCell (by simp) _, none, 0, rfl, .inl rfl⟩
  cases hg : goodB n D P Q
  · rw [hg] at hsp
    have hok : okUpd n D P Q t u = false := by simp [okUpd, hg]
    have HOK : Hid _ := hok
    clear hok
    go_enter Tryd.func19, Tryd.ntmps19
    go_wp2_with fail
    refine hsp.mono ?_
    rintro e w1 ⟨rfl, b1⟩
    obtain ⟨r0, r1, r2, q0, q1, q2⟩ := box3_cells (box_on HR0.out b1)
    clear c0 c1 c2
    go_wp2
    exact bodyPost_ret (v := .tuple #[.agg #[.slice none 0 0, .string ⟨#[]⟩, .string ⟨#[]⟩], .bool false]) (by simp [results, Tryd.results19, go_sem, r0, r1, r2]) rfl (by rw [HOK.out]; exact fin _ b1)
  rw [hg] at hsp
  obtain ⟨hn1, hn2, hL, hDs, hQs⟩ := goodB_spec hg
  by_cases ht : 0 ≤ t ∧ t ≤ (n : Int) - 1
  case neg =>
    have hok : okUpd n D P Q t u = false := by simp only [okUpd, hg, Bool.true_and]; exact decide_eq_false (by omega)
    have HOK : Hid _ := hok
    clear hok
    go_enter Tryd.func19, Tryd.ntmps19
    go_wp2_with fail
    refine hsp.mono ?_
    rintro e w1 ⟨rfl, b1⟩
    obtain ⟨r0, r1, r2, q0, q1, q2⟩ := box3_cells (box_on HR0.out b1)
    replace c0 := cell_on c0 b1
    replace c1 := cell_on c1 b1
    replace c2 := cell_on c2 b1
    go_wp2_with fail
    refine (l1In_f t 0 ((n : Int) - 1) _ ht).mono ?_
    rintro e w1' ⟨rfl, rfl⟩
    clear c0 c1 c2
    go_wp2
    exact bodyPost_ret (v := .tuple #[.agg #[.slice none 0 0, .string ⟨#[]⟩, .string ⟨#[]⟩], .bool false]) (by simp [results, Tryd.results19, go_sem, r0, r1, r2]) rfl (by rw [HOK.out]; exact fin _ b1)
  by_cases hu : u.size = P.size
  case neg =>
    have hok : okUpd n D P Q t u = false := by simp only [okUpd, hg, Bool.true_and]; exact decide_eq_false (by omega)
    have HOK : Hid _ := hok
    have hb3 : ((u.size : Int) != (P.size : Int)) = true := by simp only [bne_iff_ne, ne_eq]; omega
    clear hok hu
    go_enter Tryd.func19, Tryd.ntmps19
    go_wp2_with fail
    refine hsp.mono ?_
    rintro e w1 ⟨rfl, b1⟩
    obtain ⟨r0, r1, r2, q0, q1, q2⟩ := box3_cells (box_on HR0.out b1)
    replace c0 := cell_on c0 b1
    replace c1 := cell_on c1 b1
    replace c2 := cell_on c2 b1
    go_wp2_with fail
    refine (l1In_t t 0 ((n : Int) - 1) _ ht.1 ht.2).mono ?_
    rintro e w1' ⟨rfl, rfl⟩
    go_wp2
    exact bodyPost_ret (v := .tuple #[.agg #[.slice none 0 0, .string ⟨#[]⟩, .string ⟨#[]⟩], .bool false]) (by simp [results, Tryd.results19, go_sem, r0, r1, r2]) rfl (by rw [HOK.out]; exact fin _ b1)
  have hok : okUpd n D P Q t u = true := by simp only [okUpd, hg, Bool.true_and]; exact decide_eq_true ⟨by omega, by omega, hu⟩
  clear fin
  obtain ⟨i, rfl⟩ : ∃ i : Nat, t = (i : Int) := ⟨t.toNat, by omega⟩
  have hi : i < n := by omega
  rw [hok]
  simp only [Int.toNat_natCast, oneN, oneP, if_true]
  have hDi := hDs i hi
  have HDI : Hid _ := hDi
  have HQS : Hid _ := hQs
  have HUP : Hid _ := hu
  have hb3 : ((u.size : Int) != (P.size : Int)) = false := by simp only [bne_eq_false_iff_eq]; omega
  have hlti : (i : Int) < (n : Int) := by omega
  clear hDs hQs hu hDi
  go_enter Tryd.func19, Tryd.ntmps19
  go_wp2_with fail
  refine hsp.mono ?_
  rintro e w1 ⟨rfl, b1⟩
  replace c0 := cell_on c0 b1
  replace c1 := cell_on c1 b1
  replace c2 := cell_on c2 b1
  go_wp2_with fail
  refine (l1In_t (i : Int) 0 ((n : Int) - 1) _ ht.1 ht.2).mono ?_
  rintro e w1' ⟨rfl, rfl⟩
  have g1 := b0.trans (b1.mono b0.size)
  go_wp2_with fail
  refine (l3Own_any a n cap D P Q _ hn1 hn2 (hc.below g1)).mono ?_
  rintro e w2 ⟨b2, y, cy, rfl, m2⟩
  have b12 := Below.comp b1 b2
  have HS2 : Hid _ := box_on HS0.out b12
  have HR2 : Hid _ := box_on HR0.out b12
  have g2 := b0.trans (b12.mono b0.size)
  have hszz := HSZ.out
  have z1 := b1.size
  have z2 := b2.size
  clear c0 c1 c2 HS0 HR0 b1 b2 b12
  generalize hS : w.heap.size = s at *
  obtain ⟨c0, c1, c2, f0, f1, f2⟩ := box3_cells HS2.out
  obtain ⟨W3, hW3⟩ : ∃ W3, ((w2.setCell ⟨s, 0, none⟩ (.slice y n cy)).setCell ⟨s, 1, none⟩ (.string P)).setCell ⟨s, 2, none⟩ (.string Q) = W3 := ⟨_, rfl⟩
  have o3 : Out s (s + 1) w2 W3 := by rw [← hW3]; exact (((Out.refl s (s + 1) w2).setCell (by omega) (by omega) _ _).setCell (by omega) (by omega) _ _).setCell (by omega) (by omega) _ _
  have HS3 : Hid (W3.heap[s]? = some (.cells #[.slice y n cy, .string P, .string Q] 26 (0, 0))) := by
    show W3.heap[s]? = _
    rw [← hW3]; exact box3_set HS2.out
  have HR3 : Hid _ := box_out HR2.out o3 (by omega)
  have m3 := (m2.mono (B' := s + 2) (C' := w2.heap.size) (by omega) (Nat.le_refl _)).out o3 (by omega)
  have g3 : Below s w W3 := g2.trans (o3.below (by omega))
  have z3 := o3.size
  rcases m3 with m3 | ⟨gy, cyy, hy1, hy2, rfl, hy4, hy5⟩
  · omega
  have HY3 : Hid _ := hy4
  have hyi := cell_of_block hy4 (hy5 i hi)
  have hyf := free_of_block (i := i) hy4
  obtain ⟨k0, k1, k2, l0, l1, l2⟩ := box3_cells HS3.out
  have hX1 := l3Xor_any (D i) u W3 (by rw [HDI.out]; exact hL) (by rw [HDI.out]; exact HUP.out)
  rw [HDI.out] at hX1
  clear hy4
  go_wp2_with fail
  clear hW3
  refine hX1.mono ?_
  rintro e w4 ⟨rfl, b4⟩
  obtain ⟨d, hd⟩ : ∃ d, (tx P.size fun k => bb (D i) k ^^^ bb u k) = d := ⟨_, rfl⟩
  rw [hd]
  have hdz : d.size = P.size := by rw [← hd]; exact tx_size _ _
  have HS4 : Hid _ := box_on HS3.out b4
  have HR4 : Hid _ := box_on HR3.out b4
  have HY4 : Hid _ := box_on HY3.out b4
  have g4 : Below s w w4 := g3.trans (b4.mono (by omega))
  have z4 := b4.size
  have hyi4 := cell_on hyi b4
  have hyf4 := ((bcell b4).2 gy i (lt_of_cell hyi)).trans hyf
  obtain ⟨W5, hW5⟩ : ∃ W5, w4.setCell ⟨gy, i, none⟩ (.string u) = W5 := ⟨_, rfl⟩
  have o5 : Out gy (gy + 1) w4 W5 := by rw [← hW5]; exact out_setCell _ _ _ _
  have HY5 : Hid (W5.heap[gy]? = some (.cells (cyy.setIfInBounds i (.string u)) 9 (0, 0))) := by
    show W5.heap[gy]? = _
    rw [← hW5]; exact block_set HY4.out
  have HS5 : Hid _ := box_out HS4.out o5 (by omega)
  have HR5 : Hid _ := box_out HR4.out o5 (by omega)
  have g5 : Below s w W5 := g4.trans ((o5.below (by omega)).mono (by omega))
  have z5 := o5.size
  clear k0 k1 k2 l0 l1 l2 c0 c1 c2 f0 f1 f2 hX1 b4 hyi hyf
  obtain ⟨k0, -, -, -, -, -⟩ := box3_cells HS4.out
  obtain ⟨j0, j1, j2, l0, l1, l2⟩ := box3_cells HS5.out
  have hX2 := l3Xor_any P d W5 hL hdz
  have hP' : (tx P.size fun k => bb P k ^^^ bb d k) = updP D P i u := by
    refine tx_congr fun k hk => ?_
    rw [← hd, bb_tx (f := fun k => bb (D i) k ^^^ bb u k) hk (xor_lt (bb_lt _ _) (bb_lt _ _))]
  rw [hP'] at hX2
  have HDZ : Hid _ := hdz
  have HD : Hid _ := hd
  clear hd hdz hP'
  go_wp2_with fail
  clear hW5
  refine hX2.mono ?_
  rintro e w6 ⟨rfl, b6⟩
  have HS6 : Hid _ := box_on HS5.out b6
  have HR6 : Hid _ := box_on HR5.out b6
  have HY6 : Hid _ := box_on HY5.out b6
  have z6 := b6.size
  have g6 : Below s w w6 := g5.trans (b6.mono (by omega))
  obtain ⟨W7, hW7⟩ : ∃ W7, w6.setCell ⟨s, 1, none⟩ (.string (updP D P i u)) = W7 := ⟨_, rfl⟩
  have o7 : Out s (s + 1) w6 W7 := by rw [← hW7]; exact out_setCell _ _ _ _
  have HS7 : Hid (W7.heap[s]? = some (.cells #[.slice (some ⟨gy, 0, none⟩) n cy, .string (updP D P i u), .string Q] 26 (0, 0))) := by
    show W7.heap[s]? = _
    rw [← hW7, block_setz HS6.out]; rfl
  have HR7 : Hid _ := box_out HR6.out o7 (by omega)
  have HY7 : Hid _ := box_out HY6.out o7 (by omega)
  have g7 : Below s w W7 := g6.trans (o7.below (by omega))
  have z7 := o7.size
  obtain ⟨-, i1, -, -, ll1, -⟩ := box3_cells HS6.out
  clear k0 j0 j1 j2 l0 l1 l2 hX2 b6 hyi4 hyf4
  have HX3 : Hid (∀ W, Calls Tryd.prog 44 #[.int .u8 (gp 2 i : Nat), .string d] W fun e w' => e = .returned (.string (tx P.size fun k => gm (gp 2 i) (bb d k))) ∧ Below W.heap.size W w') := fun W => by
    have := l3Times_any (gp 2 i) d W (by rw [HDZ.out]; exact hL) (gp_lt i)
    rw [HDZ.out] at this
    exact this
  have hQ' : (tx P.size fun k => bb Q k ^^^ bb (tx P.size fun k => gm (gp 2 i) (bb d k)) k) = updQ D P Q i u := by
    refine tx_congr fun k hk => ?_
    rw [bb_tx (f := fun k => gm (gp 2 i) (bb d k)) hk (gm_lt _ (gp_lt i)), ← HD.out, bb_tx (f := fun k => bb (D i) k ^^^ bb u k) hk (xor_lt (bb_lt _ _) (bb_lt _ _)), ex_gp]
  have HX4 : Hid (∀ W, Calls Tryd.prog 43 #[.string Q, .string (tx P.size fun k => gm (gp 2 i) (bb d k))] W fun e w' => e = .returned (.string (updQ D P Q i u)) ∧ Below W.heap.size W w') := fun W => by
    have := l3Xor_any Q (tx P.size fun k => gm (gp 2 i) (bb d k)) W (by rw [HQS.out]; exact hL) (by rw [tx_size, HQS.out])
    rw [HQS.out, hQ'] at this
    exact this
  have HSS : Hid (∀ W, Out s (s + 1) W7 W → W7.heap[s]? = W.heap[s]? → True) := fun _ _ _ => trivial
  obtain ⟨d0, d1, d2, l0, l1, l2⟩ := box3_cells HS7.out
  clear hQ' HSS
  go_wp2
  clear hW7
  have hz7 : s ≤ W7.heap.size := by omega
  go_region_with (first
    | (go_at_call 45; refine (l2Pow_any 2 i _ (by omega) (by omega)).mono ?_; rintro e w8 ⟨rfl, rfl⟩)
    | (go_at_call 44; refine (HX3.out _).mono ?_; rintro e w9 ⟨rfl, b9⟩; have d2' := cell_on (w := W7.drew) d2 b9; have HS9 : Hid _ := box_on (w := W7.drew) HS7.out b9; have HR9 : Hid _ := box_on (w := W7.drew) HR7.out b9; have HY9 : Hid _ := box_on (w := W7.drew) HY7.out b9; have g9 : Below s w w9 := Below.trans (Below.drew g7) (Below.mono b9 hz7); have z9 : W7.heap.size ≤ w9.heap.size := b9.size; clear b9)
    | (go_at_call 43; refine (HX4.out _).mono ?_; rintro e w10 ⟨rfl, b10⟩; have HS10 : Hid _ := box_on HS9.out b10; have HR10 : Hid _ := box_on HR9.out b10; have HY10 : Hid _ := box_on HY9.out b10; have g10 : Below s w w10 := Below.trans g9 (Below.mono b10 (by omega)); have z10 := b10.size; obtain ⟨n0, n1, n2, p0, p1, p2⟩ := box3_cells HS10.out; obtain ⟨r0, r1, r2, q0, q1, q2⟩ := box3_cells HR10.out; clear b10))
  all_goals go_wp2
  all_goals
    have m10 : Mine w10 gy (gy + 1) 9 n (some ⟨gy, 0, none⟩) (strs n (upD D i u)) := .inr ⟨gy, _, Nat.le_refl _, Nat.lt_succ_self _, rfl, HY10.out, strs_set hy5 hi _⟩
    refine bodyPost_ret (v := .tuple #[sv (some ⟨gy, 0, none⟩) n cy (updP D P i u) (updQ D P Q i u), .bool true]) (by simp [results, Tryd.results19, go_sem, r0, r1, r2]) rfl ⟨?_, some ⟨gy, 0, none⟩, cy, rfl, ?_⟩
    · rw [hS]
      refine (((g10.setCell ?_ _).setCell ?_ _).setCell ?_ _).setCell ?_ _ <;> simp
    · rw [hS]
      refine ((((m10.out (out_setCell _ s 2 _) (by omega)).out (out_setCell _ (s + 1) 0 _) (by omega)).out (out_setCell _ (s + 1) 1 _) (by omega)).out (out_setCell _ (s + 1) 2 _) (by omega)).mono (by omega) ?_
      simp
      omega
end Go.Proofs.YtgipopkjjhehlaaDoor
