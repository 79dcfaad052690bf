import Derived.Test.YtgipopkjjhehlaaDoorN1
import Derived.Scope
namespace Go.Proofs.YtgipopkjjhehlaaDoor
open Go.ChangeShapes Go.WideShapes Go.ChangeAt Go.RowKit Go.Shelf
set_option linter.unusedVariables false
attribute [local go_sem] Oper.semAt_some
open GF

/-- What lies between two rounds. -/
def FI (w W0 : World) (n : Nat) (D : Nat → ByteArray) (P Q : ByteArray) (pre : List (Fin (n + 2))) (W : World) : Prop :=
  Below w.heap.size w W ∧ Kq W0.heap.size W0.heap.size W0 W ∧ W0.heap.size ≤ W.heap.size ∧ ∀ y ∈ pre, fitB n D P Q y.1 = false
/-- .. and behind a round that has found it. -/
def FX (w W0 : World) (n : Nat) (D : Nat → ByteArray) (P Q : ByteArray) (c : Code) (pre : List (Fin (n + 2))) (W : World) : Prop :=
  c = .ret ∧ Below w.heap.size w W ∧ W0.heap.size ≤ W.heap.size ∧ ∃ y ∈ pre, fitB n D P Q y.1 = true ∧ W.heap[w.heap.size + 1]? = some (.cells #[.int .i64 (y.1 : Int)] 3 (0, 0)) ∧ W.heap[w.heap.size + 1 + 1]? = some (.cells #[.bool true] 4 (0, 0))
theorem FI_own {w W0 : World} {n : Nat} {D : Nat → ByteArray} {P Q : ByteArray} (hw : w.heap.size ≤ W0.heap.size) : OwnFrom W0.heap.size (FI w W0 n D P Q) := by
  rintro s A B row ⟨h1, h2, h3, h4⟩ hg hr
  exact ⟨h1.grown hg (by omega) (fun k e => by have := (hr k e).1; omega), fun k hk hx => (grown_kq hg h3 hr k hk).trans (h2 k hk hx), by have := hg.size; omega, h4⟩
theorem FX_own {w W0 : World} {n : Nat} {D : Nat → ByteArray} {P Q : ByteArray} (hw : w.heap.size + 3 ≤ W0.heap.size) (c : Code) : OwnFrom W0.heap.size (FX w W0 n D P Q c) := by
  rintro s A B row ⟨h0, h1, h2, y, h3, h4, h5, h6⟩ hg hr
  exact ⟨h0, h1.grown hg (by omega) (fun k e => by have := (hr k e).1; omega), by have := hg.size; omega, y, h3, h4, by rw [grown_kq hg h2 hr _ (by omega)]; exact h5, by rw [grown_kq hg h2 hr _ (by omega)]; exact h6⟩
theorem wpIn_scope_wide {P : Program} {c : Code} {Q : Exit → Act → World → Prop} {a : Act} {w : World} {n : Nat} (h : c.wpIn Fence.wide n P (Exit.noGoto Q) a w) : (Code.scope c).wpIn Fence.wide n P Q a w := wpIn_wide.2 (wp_scope_straight (wpIn_wide.1 h))
theorem keeps_of_below {W W' : World} (h : Below W.heap.size W W') : KeepsOthers W W' := ⟨h.size, fun k o hk _ => (h.block k (Array.getElem?_eq_some_iff.1 hk).1).trans hk⟩
theorem cell1 {w : World} {b : Nat} {v : Value} {e : TypeId} (h : w.heap[b]? = some (.cells #[v] e (0, 0))) : w.cell? ⟨b, 0, none⟩ = some v ∧ w.frozen? ⟨b, 0, none⟩ = false := ⟨cell_of_block h rfl, free_of_block h⟩

set_option maxRecDepth 100000 in
set_option maxHeartbeats 4000000 in
theorem implFind_any (a : Option Addr) (n cap : Nat) (D : Nat → ByteArray) (P Q : ByteArray) (w : World) (hn : n ≤ 1048576) (hP : P.size ≤ 9223372036854775807) (hQ : Q.size ≤ 9223372036854775807) (hD : ∀ i, i < n → (D i).size ≤ 9223372036854775807) (hc : At w a n fun i => .string (D i)) (ht : Tab w) (hz0 : 0 < w.heap.size) :
    Calls Tryd.prog 14 #[sv a n cap P Q] w fun e w' => e = .returned (fwV n D P Q) ∧ Below w.heap.size w w' := by
  unfold sv
  obtain ⟨W1, hW1⟩ : ∃ W1, ((w.alloc (.cells #[.slice a n cap, .string P, .string Q] 26)).alloc (.cells #[.int .i64 0] 3)).alloc (.cells #[.bool false] 4) = W1 := ⟨_, rfl⟩
  have b1 : Below w.heap.size w W1 := by rw [← hW1]; exact ((below_alloc w _).alloc (by simp) _).alloc (by simp; omega) _
  have sz1 : W1.heap.size = w.heap.size + 3 := by rw [← hW1]; simp
  have HS1 : Hid (W1.heap[w.heap.size]? = some (.cells #[.slice a n cap, .string P, .string Q] 26 (0, 0))) := by
    show W1.heap[w.heap.size]? = _
    rw [← hW1, Below.heap_alloc _ _ _ (by simp; omega), Below.heap_alloc _ _ _ (by simp)]; exact heap_alloc_new _ _
  have HA1 : Hid (W1.heap[w.heap.size + 1]? = some (.cells #[.int .i64 0] 3 (0, 0))) := by
    have := heap_alloc_new (w.alloc (.cells #[.slice a n cap, .string P, .string Q] 26)) (.cells #[.int .i64 0] 3)
    rw [World.size_alloc] at this
    show W1.heap[w.heap.size + 1]? = _
    rw [← hW1, Below.heap_alloc _ _ _ (by simp)]; exact this
  have HB1 : Hid (W1.heap[w.heap.size + 1 + 1]? = some (.cells #[.bool false] 4 (0, 0))) := by
    have := heap_alloc_new ((w.alloc (.cells #[.slice a n cap, .string P, .string Q] 26)).alloc (.cells #[.int .i64 0] 3)) (.cells #[.bool false] 4)
    rw [World.size_alloc, World.size_alloc, hW1] at this
    exact this
  obtain ⟨c0, c1, c2, -, -, -⟩ := box3_cells HS1.out
  have hck := implCheck_any a n cap D P Q W1 hn hP hQ hD (hc.below b1) (ht.below b1 hz0) (by omega)
  have SZ1 : Hid _ := sz1
  clear sz1
  refine (callsIn_wide (n := 8)).1 ?_
  refine callsIn_of_wp_marks Tryd.func14 rfl trivial ?_ rfl
  simp only [Tryd.ntmps14, List.size_toArray, List.length_cons, List.length_nil, Nat.reduceAdd, Nat.reduceSub, Array.replicate_succ, Array.replicate_zero, List.push_toArray, List.append_toArray, List.nil_append, List.cons_append]
  by_cases hgr : goodB n D P Q = true ∧ rightB n D P Q = false
  case neg =>
    have hv : fwV n D P Q = .tuple #[.int .i64 0, .bool false] := by unfold fwV; rw [fwN_not hgr]; rfl
    have HV : Hid _ := hv
    have hch : chkV n D P Q = .tuple #[.bool true, .bool true] ∨ chkV n D P Q = .tuple #[.bool false, .bool false] := by
      unfold chkV
      cases h1 : goodB n D P Q
      · exact .inr rfl
      · cases h2 : rightB n D P Q
        · exact absurd ⟨h1, h2⟩ hgr
        · exact .inl rfl
    clear hv hgr
    rcases hch with hch | hch
    all_goals
      rw [hch] at hck
      gi_wp2
      refine wpIn_scope_wide ?_
      gi_wp2_with (refine ⟨trivial, ?_⟩; gi_at_call 9; refine (callsIn_wide.2 hck).mono ?_; rintro e w2 ⟨rfl, b2⟩; obtain ⟨ra, rfa⟩ := cell1 (box_on HA1.out b2); obtain ⟨rb, rfb⟩ := cell1 (box_on HB1.out b2))
      have z2 := b2.size
      have hsz := SZ1.out
      refine ⟨.tuple #[.int .i64 0, .bool false], by simp [results, Tryd.f14, go_sem, ra, rb], by rw [HV.out], ?_⟩
      refine ((Below.comp b1 b2).setCell ?_ _).setCell ?_ _ <;> first | omega | (simp; done) | (simp; omega)
  obtain ⟨hg, hr⟩ := hgr
  have hch : chkV n D P Q = .tuple #[.bool false, .bool true] := by unfold chkV; rw [hg, hr]; rfl
  rw [hch] at hck
  obtain ⟨hn1, hn2, hL, _, _⟩ := goodB_spec hg
  have SM : Hid (∀ W, Below W1.heap.size W1 W → Calls Tryd.prog 27 #[sv a n cap P Q] W fun e w' => Below W.heap.size W w' ∧ ∃ x cx, e = .returned (.slice x P.size cx) ∧ Mine w' W.heap.size w'.heap.size 58 P.size x (prs P.size (fun k => sp n (dby D k) (bb P k)) (fun k => sq' n (dby D k) (bb Q k)))) := fun W hW =>
    sumsOf_any a n cap D P Q W hg (hc.below (b1.trans (hW.mono b1.size))) (ht.below (b1.trans (hW.mono b1.size)) hz0) (by have := b1.size; have := hW.size; omega)
  gi_wp2
  refine wpIn_scope_wide ?_
  gi_wp2_with (first
    | (refine ⟨trivial, ?_⟩; gi_at_call 9; refine (callsIn_wide.2 hck).mono ?_; rintro e w2 ⟨rfl, b2⟩; have HS2 : Hid _ := box_on HS1.out b2; obtain ⟨d0, d1, d2, -, -, -⟩ := box3_cells HS2.out)
    | (refine ⟨trivial, ?_⟩; gi_at_call 27; refine (callsIn_wide.2 (SM.out _ b2)).mono ?_; rintro e w3 ⟨b3, x, cx, rfl, mx⟩; have HS3 : Hid _ := box_on HS2.out b3; obtain ⟨e0, e1, e2, -, -, -⟩ := box3_cells HS3.out; obtain ⟨W0, hW0⟩ : ∃ W0, (w3.alloc (.cells #[.slice x P.size cx] 55)).alloc (.cells #[.slice a n cap, .string P, .string Q] 26) = W0 := ⟨_, rfl⟩))
  refine wpIn_label ?_
  have q3 : Below w3.heap.size w3 W0 := by rw [← hW0]; exact (below_alloc w3 _).alloc (by simp) _
  have szW : W0.heap.size = w3.heap.size + 2 := by rw [← hW0]; simp
  have b13 := Below.comp b2 b3
  have b10 := Below.comp b13 q3
  have HS0 : Hid _ := box_on HS1.out b10
  have HA0 : Hid _ := box_on HA1.out b10
  have HB0 : Hid _ := box_on HB1.out b10
  have HX0 : Hid (W0.heap[w3.heap.size]? = some (.cells #[.slice x P.size cx] 55 (0, 0))) := by
    show W0.heap[w3.heap.size]? = _
    rw [← hW0, Below.heap_alloc _ _ _ (by simp)]; exact heap_alloc_new _ _
  have HI0 : Hid (W0.heap[w3.heap.size + 1]? = some (.cells #[.slice a n cap, .string P, .string Q] 26 (0, 0))) := by
    have := heap_alloc_new (w3.alloc (.cells #[.slice x P.size cx] 55)) (.cells #[.slice a n cap, .string P, .string Q] 26)
    rw [World.size_alloc, hW0] at this
    exact this
  have g0 := b1.trans (b10.mono b1.size)
  have hxp : AtP W0 x P.size (fun k => sp n (dby D k) (bb P k)) (fun k => sq' n (dby D k) (bb Q k)) := (mx.below q3).prs
  have hsz1 := SZ1.out
  have z13 := b13.size
  obtain ⟨i0, i1, i2, -, -, -⟩ := box3_cells HI0.out
  have hSb : Sb W0 W0.heap.size W0.heap.size (w3.heap.size + 1) a n cap D P Q := ⟨by omega, by omega, i0, i1, i2, fun h => by
    obtain ⟨b, off, e, hcs⟩ := hc h
    have hlt := lt_of_cell (hcs 0 (by omega))
    exact ⟨b, off, e, by omega, by omega, fun i hi => (g0.cell (p := ⟨b, off + i, none⟩) hlt).trans (hcs i hi)⟩⟩
  have e0' := cell_on e0 (below_alloc w3 (.cells #[.slice x P.size cx] 55))
  have e1' := cell_on e1 (below_alloc w3 (.cells #[.slice x P.size cx] 55))
  have e2' := cell_on e2 (below_alloc w3 (.cells #[.slice x P.size cx] 55))
  have SZW : Hid _ := szW
  clear c0 c1 c2 d0 d1 d2 i0 i1 i2 mx hck SM HS1 HA1 HB1 HS2 b13 b10 q3 szW hsz1
  gi_wp2_with (refine ⟨trivial, ?_⟩; gi_at_call 28; refine (disksOf_any Fence.wide _ trivial rfl a n cap P Q _).mono ?_; rintro e w' ⟨rfl, rfl⟩)
  clear e0 e1 e2 e0' e1' e2' HS3 hW0
  have hsw := SZW.out
  have hs1 := SZ1.out
  refine wpIn_rangeFunc_ownF rfl (by omega) (gf := 52) (lb := #[.pointer (some ⟨w3.heap.size + 1, 0, none⟩)]) rfl trivial (enters_of Tryd.func52 (by kernel_rfl) rfl)
    (disks_stops Fence.wide _ trivial rfl (by omega) W0.heap.size W0.heap.size (w3.heap.size + 1) a n cap D P Q (by omega) W0 (Nat.le_refl _) hSb) Kq.trans (Kq.put (Nat.le_refl _)) (Below.refl _ _) (fun _ => rfl)
    (FI w W0 n D P Q) (FX w W0 n D P Q) (FI_own (by omega)) (FX_own (by omega))
    ⟨g0, Kq.refl _ _ _, Nat.le_refl _, by simp⟩
    (fun y => { tmps := #[.agg #[.slice a n cap, .string P, .string Q], .pointer (some ⟨w.heap.size, 0, none⟩), .pointer (some ⟨w.heap.size + 1, 0, none⟩), .pointer (some ⟨w.heap.size + 1 + 1, 0, none⟩), .bool false, .bool true, .pointer (some ⟨w3.heap.size, 0, none⟩), .int .i64 (y.1 : Int), undef, undef, undef, .tuple #[.bool false, .bool true], .agg #[.slice a n cap, .string P, .string Q], .tuple #[.bool false, .bool true], .bool false, .bool true, .bool false, .bool false, .bool true, .bool false, .bool false, .agg #[.slice a n cap, .string P, .string Q], .slice x P.size cx, .agg #[.slice a n cap, .string P, .string Q], .func (.func 52) #[] #[.pointer (some ⟨w3.heap.size + 1, 0, none⟩)], .int .i64 (y.1 : Int), .string (dt n D P Q y.1), undef, undef, undef, undef, undef, undef, undef, undef, undef, undef, undef, undef, undef, undef, undef], defers := [] }) ?assign ?body ?done ?stop
  case assign =>
    intro l y W K hK
    gi_wp2
    exact hK
  case body =>
    rintro l pre y W ⟨hB, hK, hge, hall⟩ _
    have HSW : W.heap[w.heap.size]? = some (.cells #[.slice a n cap, .string P, .string Q] 26 (0, 0)) := (hK _ (by omega) (by omega)).trans HS0.out
    have HXW : W.heap[w3.heap.size]? = some (.cells #[.slice x P.size cx] 55 (0, 0)) := (hK _ (by omega) (by omega)).trans HX0.out
    have HAW : Hid _ := (hK _ (by omega) (by omega)).trans HA0.out
    have HBW : Hid _ := (hK _ (by omega) (by omega)).trans HB0.out
    obtain ⟨c0, c1, c2, -, -, -⟩ := box3_cells HSW
    obtain ⟨x0, -⟩ := cell1 HXW
    have hxW : AtP W x P.size (fun k => sp n (dby D k) (bb P k)) (fun k => sq' n (dby D k) (bb Q k)) := fun hne => by
      obtain ⟨bx, e, hcs⟩ := hxp hne
      have hbx := lt_of_cell (hcs 0 (by omega)).1
      exact ⟨bx, e, fun i hi => ⟨(hK.cell hbx (by omega)).trans (hcs i hi).1, (hK.cell hbx (by omega)).trans (hcs i hi).2⟩⟩
    have HK' : Hid _ := hK
    have hTW := ht.below hB hz0
    have hcts := countsOf_any a n cap P Q y.1 W (by omega) y.2 hTW (by omega)
    clear hK HSW HXW hSb
    gi_wp2_with (refine ⟨trivial, ?_⟩; gi_at_call 30; refine (CallsIn.inRound l (callsIn_wide.2 hcts)).mono ?_; rintro e w4 ⟨rfl, b4⟩; obtain ⟨W2, hW2⟩ : ∃ W2, w4.alloc (.cells #[.int .u8 (cp n y.1 : Int), .int .u8 (cq n y.1 : Int)] 58) = W2 := ⟨_, rfl⟩; have b22 : Below W.heap.size W W2 := (by rw [← hW2]; exact Below.comp b4 (below_alloc _ _)); have x0' := cell_on x0 b22; have d0 : W2.cell? ⟨w4.heap.size, 0, none⟩ = some (.int .u8 (cp n y.1 : Int)) := (by rw [← hW2]; simp [go_sem]); have d1 : W2.cell? ⟨w4.heap.size, 1, none⟩ = some (.int .u8 (cq n y.1 : Int)) := (by rw [← hW2]; simp [go_sem]))
    have hcpl := cp_lt n y.1
    have hcql := cq_lt n y.1
    have z22 := b22.size
    clear hW2 hcts b4 c0 c1 c2 x0
    generalize hcp : cp n y.1 = CP at *
    generalize hcq : cq n y.1 = CQ at *
    generalize hbk : w4.heap.size = BK at *
    generalize hLL : P.size = L at *
    gi_loopw [32] (fun i wr => ∃ (k : Nat), k ≤ L ∧ i = .int .i64 k ∧ (∀ j, j < k → crs CP CQ (sp n (dby D j) (bb P j)) (sq' n (dby D j) (bb Q j)) = 0) ∧ Below W2.heap.size W2 wr) (fun i _ => L - (intOf i).toNat)
    case atStart => exact ⟨0, Nat.zero_le _, rfl, fun j hj => absurd hj (by omega), Below.refl _ _⟩
    case round =>
      obtain ⟨k, hk, rfl, hz, hb⟩ := hrel
      have bWr := Below.comp b22 hb
      by_cases hlt : k < L
      · have hlt' : (k : Int) < (L : Int) := by omega
        obtain ⟨bx, rfl, hcs⟩ := (hxW.below bWr) (by omega)
        obtain ⟨p0, p1⟩ := hcs k hlt
        have hsl : sp n (dby D k) (bb P k) < 256 := sp_lt (dby_lt D k) (bb_lt _ _)
        have hql : sq' n (dby D k) (bb Q k) < 256 := sq_lt' (dby_lt D k) (bb_lt _ _)
        generalize hSP : sp n (dby D k) (bb P k) = u at *
        generalize hSQ : sq' n (dby D k) (bb Q k) = v at *
        obtain ⟨W5, hW5⟩ : ∃ W5, wr.alloc (.cells #[.int .u8 (u : Int), .int .u8 (v : Int)] 58) = W5 := ⟨_, rfl⟩
        have b5 : Below wr.heap.size wr W5 := by rw [← hW5]; exact below_alloc _ _
        have d0' := cell_on (cell_on d0 hb) b5
        have d1' := cell_on (cell_on d1 hb) b5
        have u0 : W5.cell? ⟨wr.heap.size, 0, none⟩ = some (.int .u8 (u : Int)) := by rw [← hW5]; simp [go_sem]
        have u1 : W5.cell? ⟨wr.heap.size, 1, none⟩ = some (.int .u8 (v : Int)) := by rw [← hW5]; simp [go_sem]
        have bW5 := Below.comp bWr b5
        have hcr := crossOf_any CP CQ u v W5 hcpl hcql hsl hql (hTW.below bW5 (by omega)) (by have := bW5.size; omega)
        have hcl : crs CP CQ u v < 256 := crs_lt hcpl hcql
        clear hcs
        generalize hCC : crs CP CQ u v = CC at *
        by_cases h0 : CC = 0
        · subst h0
          gi_wp2_with (refine ⟨trivial, ?_⟩; gi_at_call 31; refine (CallsIn.inRound l (callsIn_wide.2 hcr)).mono ?_; rintro e w6 ⟨rfl, b6⟩)
          go_roundw
          case rel =>
            refine ⟨k + 1, by omega, by go_num, fun j hj => ?_, Below.comp hb (Below.comp b5 b6)⟩
            by_cases e : j = k
            · rw [e, hSP, hSQ]; exact hCC
            · exact hz j (by omega)
          case measure => simp [intOf]; omega
        · have h0' : ((CC : Int) == 0) = false := by simp only [beq_eq_false_iff_ne, ne_eq]; omega
          have h0'' : ¬ (CC : Int) = 0 := by omega
          gi_wp2_with (refine ⟨trivial, ?_⟩; gi_at_call 31; refine (CallsIn.inRound l (callsIn_wide.2 hcr)).mono ?_; rintro e w6 ⟨rfl, b6⟩)
          have bW6 := Below.comp bW5 b6
          have hnf : fitB n D P Q y.1 = false := decide_eq_false fun h => h0 (by
            have := h k (by omega)
            rw [hSP, hSQ, hcp, hcq, hCC] at this
            exact this)
          refine ⟨keeps_of_below bW6, Kq.of_below (bW6.mono (by omega)), hB.trans (bW6.mono (by omega)), Kq.trans HK'.out (Kq.of_below (bW6.mono hge)), by have := bW6.size; omega, fun z hzm => ?_⟩
          rcases List.mem_append.1 hzm with h | h
          · exact hall z h
          · simp at h; subst h; exact hnf
      · obtain rfl : k = L := by omega
        have hlt' : ¬ (k : Int) < (k : Int) := by omega
        have hfit : fitB n D P Q y.1 = true := decide_eq_true fun j hj => by rw [hcp, hcq]; exact hz j (by omega)
        have HAr : Hid _ := box_on HAW.out bWr
        have HBr : Hid _ := box_on HBW.out bWr
        obtain ⟨ra, rfa⟩ := cell1 HAr.out
        obtain ⟨rb, rfb⟩ := cell1 HBr.out
        gi_wp2
        have zr := bWr.size
        refine ⟨((keeps_of_below bWr).trans (KeepsOthers.setCell _ _ _)).trans (KeepsOthers.setCell _ _ _), rfl, ?_, ?_, y, by simp, hfit, ?_, ?_⟩
        · refine ((hB.trans (bWr.mono (by omega))).setCell ?_ _).setCell ?_ _ <;> first | omega | (simp; done) | (simp; omega)
        · simp; omega
        · rw [(out_setCell _ (w.heap.size + 1 + 1) 0 _).block _ (by simp; omega) (by omega), block_set HAr.out]; rfl
        · exact (block_set (box_out HBr.out (out_setCell _ (w.heap.size + 1) 0 _) (by omega))).trans rfl
  case done =>
    rintro Df ys W hDf hys ⟨hB, hK, hge, hall⟩ hKd
    have hv : fwV n D P Q = .tuple #[.int .i64 0, .bool false] := by
      unfold fwV
      rw [fwN_none fun i hi => fin_mem hys (fun y => fitB n D P Q y.1 = false) hall i hi]; rfl
    have HV : Hid _ := hv
    obtain ⟨ra, rfa⟩ := cell1 ((hK _ (by omega) (by omega)).trans HA0.out)
    obtain ⟨rb, rfb⟩ := cell1 ((hK _ (by omega) (by omega)).trans HB0.out)
    have HAw : Hid _ := (hK _ (by omega) (by omega)).trans HA0.out
    have HBw : Hid _ := (hK _ (by omega) (by omega)).trans HB0.out
    clear hv
    gi_wp2
    have o1 := out_setCell W (w.heap.size + 1) 0 (.int .i64 0)
    have o2 := out_setCell (W.setCell ⟨w.heap.size + 1, 0, none⟩ (.int .i64 0)) (w.heap.size + 1 + 1) 0 (.bool false)
    have hX : ((W.setCell ⟨w.heap.size + 1, 0, none⟩ (.int .i64 0)).setCell ⟨w.heap.size + 1 + 1, 0, none⟩ (.bool false)).heap[w.heap.size + 1]? = some (.cells #[.int .i64 0] 3 (0, 0)) := box_out ((block_set HAw.out).trans rfl) o2 (by omega)
    have hY : ((W.setCell ⟨w.heap.size + 1, 0, none⟩ (.int .i64 0)).setCell ⟨w.heap.size + 1 + 1, 0, none⟩ (.bool false)).heap[w.heap.size + 1 + 1]? = some (.cells #[.bool false] 4 (0, 0)) := (block_set (box_out HBw.out o1 (by omega))).trans rfl
    have hKd' := ((KeepsOthers.setCell W ⟨w.heap.size + 1, 0, none⟩ (.int .i64 0)).trans (KeepsOthers.setCell _ ⟨w.heap.size + 1 + 1, 0, none⟩ (.bool false))).same Df _ hKd rfl
    have gX : Below w.heap.size w ((W.setCell ⟨w.heap.size + 1, 0, none⟩ (.int .i64 0)).setCell ⟨w.heap.size + 1 + 1, 0, none⟩ (.bool false)) := (hB.setCell (by simp) _).setCell (by simp; omega) _
    have szX : W.heap.size ≤ ((W.setCell ⟨w.heap.size + 1, 0, none⟩ (.int .i64 0)).setCell ⟨w.heap.size + 1 + 1, 0, none⟩ (.bool false)).heap.size := by simp
    generalize (W.setCell ⟨w.heap.size + 1, 0, none⟩ (.int .i64 0)).setCell ⟨w.heap.size + 1 + 1, 0, none⟩ (.bool false) = X at *
    have gp' := grownBy_putObj' X Df (.deferred none)
    have c5 : (X.putObj Df (.deferred none)).cell? ⟨w.heap.size + 1, 0, none⟩ = some (.int .i64 0) := cell_of_block ((gp'.block _ (by omega) (fun e => by cases e; omega)).trans hX) rfl
    have c6 : (X.putObj Df (.deferred none)).cell? ⟨w.heap.size + 1 + 1, 0, none⟩ = some (.bool false) := cell_of_block ((gp'.block _ (by omega) (fun e => by cases e; omega)).trans hY) rfl
    refine ⟨by simp, .inl ⟨_, _, rfl, run_takeDeferred hKd', ?_⟩⟩
    refine ⟨.tuple #[.int .i64 0, .bool false], by simp [results, Tryd.f14, go_sem, c5, c6], by rw [HV.out], gX.trans (belowK_b (w := w) (Nat.le_refl _) _ Df _ _ (by omega) hKd' rfl rfl)⟩
  case stop =>
    rintro Df c pre W hDf hpre ⟨rfl, hB, hge, y, hym, hyf, hA, hBb⟩ hKd
    have hv : fwV n D P Q = .tuple #[.int .i64 (y.1 : Int), .bool true] := by unfold fwV; rw [fwN_some hg hr y.2 hyf]; rfl
    have HV : Hid _ := hv
    have HAw : Hid _ := hA
    have HBw : Hid _ := hBb
    clear hv hA hBb
    gi_wp2
    have gp' := grownBy_putObj' W Df (.deferred none)
    have c5 : (W.putObj Df (.deferred none)).cell? ⟨w.heap.size + 1, 0, none⟩ = some (.int .i64 (y.1 : Int)) := cell_of_block ((gp'.block _ (by omega) (fun e => by cases e; omega)).trans HAw.out) rfl
    have c6 : (W.putObj Df (.deferred none)).cell? ⟨w.heap.size + 1 + 1, 0, none⟩ = some (.bool true) := cell_of_block ((gp'.block _ (by omega) (fun e => by cases e; omega)).trans HBw.out) rfl
    refine ⟨by simp, .inl ⟨_, _, rfl, run_takeDeferred hKd, ?_⟩⟩
    refine ⟨.tuple #[.int .i64 (y.1 : Int), .bool true], by simp [results, Tryd.f14, go_sem, c5, c6], by rw [HV.out], hB.trans (belowK_b (w := w) (Nat.le_refl _) W Df _ _ (by omega) hKd rfl rfl)⟩
end Go.Proofs.YtgipopkjjhehlaaDoor
