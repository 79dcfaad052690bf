import Derived.Test.YtgipopkjjhehlaaDoorX6
namespace Go.Proofs.YtgipopkjjhehlaaDoor
open Go.ChangeShapes Go.WideShapes Go.ChangeAt Go.RowKit
set_option linter.unusedVariables false
open GF

theorem set_set (c : Array Value) (k : Nat) (u v : Value) : (c.setIfInBounds k u).setIfInBounds k v = c.setIfInBounds k v := by simp

set_option maxRecDepth 100000 in
set_option maxHeartbeats 4000000 in
theorem implOne_any (a : Option Addr) (n cap : Nat) (D : Nat → ByteArray) (P Q : ByteArray) (t : Int) (w : World) (hn : n ≤ 1048576) (hP : P.size ≤ 9223372036854775807) (hQ : Q.size ≤ 9223372036854775807) (hD : ∀ i, i < n → (D i).size ≤ 9223372036854775807) (hc : At w a n fun i => .string (D i)) (hT : Tab w) (hz0 : 0 < w.heap.size) :
    Calls Tryd.prog 13 #[sv a n cap P Q, .int .i64 t] w fun e w' => RO w e w' (okOne n D P Q t) (oneN n (okOne n D P Q t)) (sD n D t.toNat (oneU n D P t.toNat)) (oneP (okOne n D P Q t) (sP n P t.toNat (oneU n D P t.toNat))) (oneP (okOne n D P Q t) (sQ n Q t.toNat (oneU n D P t.toNat))) := by
  unfold sv
  obtain ⟨W0, hW0⟩ : ∃ W0, (w.alloc (.cells #[.slice a n cap, .string P, .string Q] 26)).alloc (.cells #[.slice none 0 0, .string ⟨#[]⟩, .string ⟨#[]⟩] 26) = W0 := ⟨_, rfl⟩
  have b0 : Below w.heap.size w W0 := by rw [← hW0]; exact (below_alloc w _).alloc (by simp) _
  have hsz : W0.heap.size = w.heap.size + 1 + 1 := by rw [← hW0]; simp
  have HS0 : Hid (W0.heap[w.heap.size]? = some (.cells #[.slice a n cap, .string P, .string Q] 26 (0, 0))) := by
    show W0.heap[w.heap.size]? = _
    rw [← hW0, Below.heap_alloc _ _ _ (by simp)]; exact heap_alloc_new _ _
  have HR0 : Hid (W0.heap[w.heap.size + 1]? = some (.cells #[.slice none 0 0, .string ⟨#[]⟩, .string ⟨#[]⟩] 26 (0, 0))) := by
    have := heap_alloc_new (w.alloc (.cells #[.slice a n cap, .string P, .string Q] 26)) (.cells #[.slice none 0 0, .string ⟨#[]⟩, .string ⟨#[]⟩] 26)
    rw [World.size_alloc, hW0] at this
    exact this
  obtain ⟨c0, c1, c2, -, -, -⟩ := box3_cells HS0.out
  have HSZ : Hid _ := hsz
  clear hsz
  have hsp := implGood_any a n cap D P Q W0 hn hP hQ hD (hc.below b0)
  have fin : ∀ w2, Below W0.heap.size W0 w2 → RO w (.returned (.tuple #[.agg #[.slice none 0 0, .string ⟨#[]⟩, .string ⟨#[]⟩], .bool false])) (((w2.setCell ⟨w.heap.size + 1, 0, none⟩ (.slice none 0 0)).setCell ⟨w.heap.size + 1, 1, none⟩ (.string ⟨#[]⟩)).setCell ⟨w.heap.size + 1, 2, none⟩ (.string ⟨#[]⟩)) false 0 (sD n D t.toNat (oneU n D P t.toNat)) emp emp := fun w2 b2 =>
    ⟨(((b0.trans (b2.mono b0.size)).setCell (by simp) _).setCell (by simp) _).setCell (by simp) _, none, 0, rfl, .inl rfl⟩
  cases hg : goodB n D P Q
  · rw [hg] at hsp
    have hok : okOne n D P Q t = false := by simp [okOne, hg]
    rw [hok]
    go_enter Tryd.func13, Tryd.ntmps13
    go_wp2_with fail
    refine hsp.mono ?_
    rintro e w1 ⟨rfl, b1⟩
    obtain ⟨r0, r1, r2, q0, q1, q2⟩ := box3_cells (box_on HR0.out b1)
    clear c0 c1 c2
    go_wp2
    exact bodyPost_ret (v := .tuple #[.agg #[.slice none 0 0, .string ⟨#[]⟩, .string ⟨#[]⟩], .bool false]) (by simp [results, Tryd.results13, go_sem, r0, r1, r2]) rfl (fin w1 b1)
  rw [hg] at hsp
  by_cases ht : 0 ≤ t ∧ t ≤ (n : Int) + 1
  case neg =>
    have hok : okOne n D P Q t = false := by simp [okOne, hg]; omega
    rw [hok]
    go_enter Tryd.func13, Tryd.ntmps13
    go_wp2_with fail
    refine hsp.mono ?_
    rintro e w1 ⟨rfl, b1⟩
    replace c0 := cell_on c0 b1
    replace c1 := cell_on c1 b1
    replace c2 := cell_on c2 b1
    go_wp2_with fail
    refine (hasDisk_any a n cap P Q t _ hn).mono ?_
    rintro e w2 ⟨rfl, b2⟩
    rw [decide_eq_false ht]
    have b12 := Below.comp b1 b2
    obtain ⟨r0, r1, r2, q0, q1, q2⟩ := box3_cells (box_on HR0.out b12)
    clear c0 c1 c2
    go_wp2
    exact bodyPost_ret (v := .tuple #[.agg #[.slice none 0 0, .string ⟨#[]⟩, .string ⟨#[]⟩], .bool false]) (by simp [results, Tryd.results13, go_sem, r0, r1, r2]) rfl (fin w2 b12)
  have hok : okOne n D P Q t = true := by simp [okOne, hg, ht]
  obtain ⟨i, rfl⟩ : ∃ i : Nat, t = (i : Int) := ⟨t.toNat, by omega⟩
  have hi : i < n + 2 := by omega
  rw [hok]
  simp only [Int.toNat_natCast, oneN, oneP, if_true] at fin ⊢
  obtain ⟨hn1, hn2, hL, hDs, hQs⟩ := goodB_spec hg
  have HDS : Hid _ := hDs
  have HQS : Hid _ := hQs
  clear hDs hQs fin
  go_enter Tryd.func13, Tryd.ntmps13
  go_wp2_with fail
  refine hsp.mono ?_
  rintro e w1 ⟨rfl, b1⟩
  replace c0 := cell_on c0 b1
  replace c1 := cell_on c1 b1
  replace c2 := cell_on c2 b1
  go_wp2_with fail
  refine (hasDisk_any a n cap P Q i _ hn).mono ?_
  rintro e w2 ⟨rfl, b2⟩
  rw [decide_eq_true ht]
  have b12 := Below.comp b1 b2
  have g2 := b0.trans (b12.mono b0.size)
  replace c0 := cell_on c0 b2
  replace c1 := cell_on c1 b2
  replace c2 := cell_on c2 b2
  have zz2 := g2.size
  clear b1 b2 hsp
  go_wp2_with fail
  refine (sumsOf_any a n cap D P Q _ hg (hc.below g2) (hT.below g2 hz0) (by omega)).mono ?_
  rintro e w3 ⟨b3, x, cx, rfl, mx⟩
  have b13 := Below.comp b12 b3
  have g3 := g2.trans (b3.mono g2.size)
  have hmk := make_any (P := Tryd.prog) 22 5 _ 1 1 Tryd.underlying22 info5 .i64 .i64 P.size (by omega) (by omega) w3
  obtain ⟨W4, hW4⟩ : ∃ W4, w3.alloc (.cells (made (.int .u8 0) (P.size * 1)) 5) = W4 := ⟨_, rfl⟩
  have q4 : Below w3.heap.size w3 W4 := by rw [← hW4]; exact below_alloc _ _
  have b14 := Below.comp b13 q4
  have g4 := g3.trans (q4.mono g3.size)
  have HR4 : Hid (W4.heap[w3.heap.size]? = some (.cells (made (.int .u8 0) P.size) 5 (0, 0))) := by
    show W4.heap[w3.heap.size]? = _
    rw [← hW4, Nat.mul_one]; exact heap_alloc_new _ _
  have HS4 : Hid _ := box_on HS0.out b14
  have HRR4 : Hid _ := box_on HR0.out b14
  have mx4 : Mine W4 w2.heap.size w3.heap.size 58 P.size x (prs P.size (fun k => sp n (dby D k) (bb P k)) (fun k => sq' n (dby D k) (bb Q k))) := mx.below q4
  have z4 : W4.heap.size = w3.heap.size + 1 := by rw [← hW4]; simp
  have z13 := b13.size
  have z03 : w.heap.size + 2 ≤ w3.heap.size := by have := HSZ.out; omega
  rw [hW4] at hmk
  have HZ4 : Hid _ := z4
  clear c0 c1 c2 mx b3 b12 b13 b14 q4 g3 HS0 HR0 hW4 z4
  obtain ⟨c0, c1, c2, -, -, -⟩ := box3_cells HS4.out
  go_wp2
  obtain ⟨ff, hff⟩ : ∃ ff : Nat → Nat, ff = fun k => if i = n + 1 then sq' n (dby D k) (bb Q k) else sp n (dby D k) (bb P k) := ⟨_, rfl⟩
  have HFF : Hid _ := hff
  clear hff c0 c1 c2
  generalize hLL : P.size = L at *
  go_loopw [27] (fun iv wr => ∃ (k : Nat) (c : Array Value), k ≤ L ∧ iv = .int .i64 k ∧ wr.heap[w3.heap.size]? = some (.cells c 5 (0, 0)) ∧ bys L (mx2 (fun _ => 0) ff k) c ∧ Out w3.heap.size (w3.heap.size + 1) W4 wr) (fun iv _ => L - (intOf iv).toNat)
  case atStart => exact ⟨0, _, Nat.zero_le _, rfl, HR4.out, bys_made L, Out.refl _ _ _⟩
  case round =>
    obtain ⟨k, c, hk, rfl, hR, hst, ho⟩ := hrel
    have zo := ho.size
    by_cases hlt : k < L
    · have hlt' : (k : Int) < (L : Int) := by omega
      obtain ⟨bx, rfl, hcs⟩ := (mx4.out ho (.inl (Nat.le_refl _))).prs (by omega)
      obtain ⟨p0, p1⟩ := hcs k hlt
      have hp := hst k hlt
      rw [mx2_at] at hp
      have r0 := cell_of_block hR hp
      have fr0 := free_of_block (i := k) hR
      have hffk : ff k = if i = n + 1 then sq' n (dby D k) (bb Q k) else sp n (dby D k) (bb P k) := by rw [HFF.out]
      generalize hSP : sp n (dby D k) (bb P k) = u at *
      generalize hSQ : sq' n (dby D k) (bb Q k) = v at *
      obtain ⟨W5, hW5⟩ : ∃ W5, (wr.alloc (.cells #[.int .u8 (u : Int), .int .u8 (v : Int)] 58)).setCell ⟨w3.heap.size, k, none⟩ (.int .u8 (u : Int)) = W5 := ⟨_, rfl⟩
      have hRl := box_lt hR
      have o5 : Out w3.heap.size (w3.heap.size + 1) W4 W5 := by rw [← hW5]; exact (ho.alloc _).setCell (Nat.le_refl _) (Nat.lt_succ_self _) _ _
      have HR5 : Hid (W5.heap[w3.heap.size]? = some (.cells (c.setIfInBounds k (.int .u8 (u : Int))) 5 (0, 0))) := by
        show W5.heap[w3.heap.size]? = _
        rw [← hW5]; exact block_set (box_on hR (below_alloc _ _))
      have e1 : W5.cell? ⟨wr.heap.size, 1, none⟩ = some (.int .u8 (v : Int)) := by
        rw [← hW5]
        exact cell_out (out_setCell _ w3.heap.size k _) (by simp [go_sem]) (by omega)
      obtain ⟨c0, c1, c2, -, -, -⟩ := box3_cells (box_out HS4.out o5 (by omega))
      have HR' : Hid _ := hR
      clear hR hcs hp
      have hne1 : ¬ w3.heap.size = wr.heap.size := by omega
      have hne2 : ¬ wr.heap.size = w3.heap.size := by omega
      go_wp2_with fail
      refine (isQ_any a n cap P Q i _ hn).mono ?_
      rintro e w6 ⟨rfl, b6⟩
      have HR6 : Hid _ := box_on HR5.out b6
      have o6 : Out w3.heap.size (w3.heap.size + 1) W4 w6 := o5.trans (Out.of_below b6)
      have e1' := cell_on e1 b6
      have hcz := (Array.getElem?_eq_some_iff.1 (hst k hlt)).1
      have r6 := cell_of_block HR6.out (set_at hcz _)
      have fr6 := free_of_block (i := k) HR6.out
      clear hW5 c0 c1 c2 e1 b6 r0 fr0
      by_cases h2 : i = n + 1
      · rw [decide_eq_true (by omega)]
        rw [if_pos h2] at hffk
        clear h2
        go_wp2
        go_roundw
        case rel =>
          refine ⟨k + 1, _, by omega, by go_num, block_set HR6.out, ?_, o6.setCell (Nat.le_refl _) (Nat.lt_succ_self _) _ _⟩
          rw [set_set, ← hffk]
          exact bys_stepz hst hlt
        case measure => simp [intOf]; omega
      · rw [decide_eq_false (by omega)]
        rw [if_neg h2] at hffk
        go_wp2
        go_roundw
        case rel =>
          refine ⟨k + 1, _, by omega, by go_num, HR6.out, ?_, o6⟩
          rw [← hffk]
          exact bys_stepz hst hlt
        case measure => simp [intOf]; omega
    · obtain rfl : k = L := by omega
      have hlt' : ¬ (k : Int) < (k : Int) := by omega
      subst hLL
      have hffl : ∀ k, ff k < 256 := fun k => by
        rw [HFF.out]
        show (if i = n + 1 then _ else _) < 256
        split
        · exact sq_lt' (dby_lt D k) (bb_lt _ _)
        · exact sp_lt (dby_lt D k) (bb_lt _ _)
      have hxx : At wr (some ⟨w3.heap.size, 0, none⟩) P.size (by' ff) := fun _ => ⟨_, 0, rfl, fun j hj => by rw [Nat.zero_add, cell_of_block hR (hst j hj), mx2_all hj]; rfl⟩
      have gr : Below w.heap.size w wr := g4.trans ((ho.below (by have := HZ4.out; omega)).mono (by omega))
      have hwc := withChange_any a n cap D P Q i (some ⟨w3.heap.size, 0, none⟩) P.size ff wr hg hi hffl hxx (hc.below gr)
      have hU : (tx P.size fun k => bb (dt n D P Q i) k ^^^ ff k) = oneU n D P i := by rw [HFF.out]; exact one_eq hi
      rw [hU] at hwc
      obtain ⟨c0, c1, c2, -, -, -⟩ := box3_cells (box_out HS4.out ho (by omega))
      have HRr : Hid _ := box_out HRR4.out ho (by omega)
      clear hR hst hxx
      go_wp2_with fail
      refine hwc.mono ?_
      rintro e w6 ⟨b6, y, cy, rfl, m6⟩
      obtain ⟨r0, r1, r2, q0, q1, q2⟩ := box3_cells (box_on HRr.out b6)
      have g6 := gr.trans (b6.mono gr.size)
      have hR6 := box_lt (box_on HRr.out b6)
      have zr' := gr.size
      clear c0 c1 c2 hwc
      go_wp2
      refine bodyPost_ret (v := .tuple #[sv y n cy (sP n P i (oneU n D P i)) (sQ n Q i (oneU n D P i)), .bool true]) (by simp [results, Tryd.results13, go_sem, r0, r1, r2]) rfl ⟨?_, y, cy, rfl, ?_⟩
      · refine ((g6.setCell ?_ _).setCell ?_ _).setCell ?_ _ <;> simp
      · refine (((m6.out (out_setCell _ (w.heap.size + 1) 0 _) (by have := HZ4.out; omega)).out (out_setCell _ (w.heap.size + 1) 1 _) (by have := HZ4.out; omega)).out (out_setCell _ (w.heap.size + 1) 2 _) (by have := HZ4.out; omega)).mono (by omega) ?_
        simp
end Go.Proofs.YtgipopkjjhehlaaDoor
