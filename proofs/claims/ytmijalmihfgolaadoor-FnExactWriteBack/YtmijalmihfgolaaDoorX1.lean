import Derived.Test.YtmijalmihfgolaaDoorX0
/- What the laws do with stores: size, copy. -/
namespace Go.Proofs.YtmijalmihfgolaaDoor
open Go.ChangeShapes Go.WideShapes Go.ChangeAt Go.RowKit
set_option linter.unusedVariables false
open Tx

attribute [local go_sem] Oper.semAt_some

set_option maxHeartbeats 400000 in
theorem szDevice_le (a a' : Option Addr) (n m cap cap' : Nat) (S : Nat → ByteArray) (T : Nat → Int) (U : Nat → ByteArray) (left : Int) (w : World) (h0 : 0 ≤ left) (h1 : left ≤ 1048576)
    (hn : n ≤ 9223372036854775807) (hc : At w a n fun i => .string (S i)) (hs : ∀ i, i < n → (S i).size ≤ 9223372036854775807)
    (hn' : m ≤ 9223372036854775807) (hc' : At2 w a' m T U) (hs' : ∀ i, i < m → (U i).size ≤ 9223372036854775807) :
    Calls Tryd.prog 42 #[.agg #[.slice a n cap, .slice a' m cap'], .int .i64 left] w fun e w' => Below w.heap.size w w' ∧ ∃ r : Int, e = .returned (.int .i64 r) ∧ r ≤ left ∧ (0 ≤ r → (n : Int) ≤ left ∧ (m : Int) ≤ left) := by
  go_enter Tryd.func42, Tryd.ntmps42
  go_wp2_with fail
  refine (szStringS_any a n cap S left _ h0 h1 hn (hc.below ((Below.refl _ _).alloc (Nat.le_refl _) _)) hs).mono ?_
  rintro e w1 ⟨rfl, r, rfl, hr1, hr2, hr3⟩
  by_cases hr : r < 0
  · go_wp2
    go_ret
    exact ⟨(Below.refl _ _).alloc (Nat.le_refl _) _, -1, rfl, by omega, by omega⟩
  · go_wp2_with fail
    refine (szWriteS_any a' m cap' T U r _ (by omega) (by omega) hn' (hc'.below ((Below.refl _ _).alloc (Nat.le_refl _) _)) hs').mono ?_
    rintro e w1 ⟨hb1, r', rfl, hr1', hr2', hr3'⟩
    by_cases hr' : r' < 0
    · go_wp2
      go_ret
      exact ⟨((Below.refl _ _).alloc (Nat.le_refl _) _).trans (hb1.mono (by simp)), -1, rfl, by omega, by omega⟩
    · go_wp2
      go_ret
      exact ⟨((Below.refl _ _).alloc (Nat.le_refl _) _).trans (hb1.mono (by simp)), _, rfl, by omega, by omega⟩

set_option maxHeartbeats 400000 in
theorem toStringC_any (a : Option Addr) (n cap : Nat) (S : Nat → ByteArray) (w : World) (hn : n ≤ 1048576) (hc : At w a n fun i => .string (S i)) :
    Calls Tryd.prog 48 #[.slice a n cap] w fun e w' => Below w.heap.size w w' ∧ ∃ a', e = .returned (.slice a' n n) ∧ Mine w' w.heap.size w'.heap.size 9 n a' (strs n S) := by
  have hmk := make_any (P := Tryd.prog) 22 9 _ 1 16 Tryd.underlying22 info9 .i64 .i64 n (by omega) (by omega)
  go_enter Tryd.func48, Tryd.ntmps48
  go_wp2
  go_loopw [4] (fun i wr => ∃ (k : Nat) (c : Array Value), k ≤ n ∧ i = .int .i64 k ∧ wr.heap[w.heap.size]? = some (.cells c 9 (0, 0)) ∧ c.size = n ∧ strs k S c ∧ Below w.heap.size w wr) (fun i _ => n - (intOf i).toNat)
  case atStart => exact ⟨0, _, Nat.zero_le _, rfl, heap_alloc_new w _, by simp [size_made], fun i hi => absurd hi (by omega), (Below.refl _ _).alloc (Nat.le_refl _) _⟩
  case round =>
    obtain ⟨k, c, hk, rfl, hB, hcs, hst, hb⟩ := hrel
    by_cases hlt : k < n
    · obtain ⟨b, off, rfl, hcell⟩ := (hc.below hb) (by omega)
      have hck := hcell k hlt
      have hold : wr.cell? ⟨w.heap.size, k, none⟩ = some c[k] := cell_of_block hB (by simp)
      have hfree := free_of_block (i := k) hB
      clear hcell hc
      have HB : Hid (wr.heap[w.heap.size]? = some (.cells c 9 (0, 0))) := hB
      clear hB
      go_wp2
      go_roundw
      case rel =>
        refine ⟨k + 1, _, by omega, by go_num, block_set HB.out, by simpa using hcs, ?_, hb.setCell (Nat.le_refl _) _⟩
        intro i hi
        by_cases e : i = k
        · rw [e]; exact set_at (by omega) _
        · rw [set_ne e]; exact hst i (by omega)
      case measure => simp [intOf]; omega
    · go_wp2
      go_ret
      have hkn : k = n := by omega
      subst hkn
      exact ⟨hb, _, rfl, .inr ⟨_, c, Nat.le_refl _, (Array.getElem?_eq_some_iff.1 hB).1, rfl, hB, hst⟩⟩

set_option maxHeartbeats 800000 in
theorem szStore_any (a a' az : Option Addr) (n m g ca ca' cz : Nat) (q : Int) (S : Nat → ByteArray) (T : Nat → Int) (U : Nat → ByteArray) (G : Nat → ByteArray) (left : Int) (w : World) (h0 : 0 ≤ left) (h1 : left ≤ 1048576)
    (hn : n ≤ 9223372036854775807) (hc : At w a n fun i => .string (S i)) (hs : ∀ i, i < n → (S i).size ≤ 9223372036854775807)
    (hn' : m ≤ 9223372036854775807) (hc' : At2 w a' m T U) (hs' : ∀ i, i < m → (U i).size ≤ 9223372036854775807)
    (hg : g ≤ 9223372036854775807) (hcg : At w az g fun i => .string (G i)) (hsg : ∀ i, i < g → (G i).size ≤ 9223372036854775807) :
    Calls Tryd.prog 11 #[stv a n ca a' m ca' az g cz q, .int .i64 left] w fun e w' => Below w.heap.size w w' ∧ ∃ r : Int, e = .returned (.int .i64 r) ∧ r ≤ left ∧ (0 ≤ r → (n : Int) ≤ left ∧ (m : Int) ≤ left ∧ (g : Int) ≤ left) := by
  have h0' : ∀ o1, Below w.heap.size w (w.alloc o1) := fun o1 => below_alloc _ _
  go_enter Tryd.func11, Tryd.ntmps11
  go_wp2_with fail
  refine (szDevice_le a a' n m ca ca' S T U left _ h0 h1 hn (hc.below (h0' _)) hs hn' (hc'.below (h0' _)) hs').mono ?_
  rintro e w1 ⟨b1, r, rfl, hr2, hr3⟩
  have g1 := Below.comp (h0' _) b1
  have z1 := cell_on (cell4_2 w _ _ _ _ _) b1
  by_cases hr : r < 0
  · go_wp2
    go_ret
    exact ⟨g1, -1, rfl, by omega, by omega⟩
  · go_wp2_with fail
    refine (szStringS_any az g cz G r _ (by omega) (by omega) hg (hcg.below g1) hsg).mono ?_
    rintro e w2 ⟨hw2, r', rfl, hr1', hr2', hr3'⟩
    replace hw2 := hw2.symm
    subst hw2
    by_cases hr' : r' < 0
    · go_wp2
      go_ret
      exact ⟨g1, -1, rfl, by omega, by omega⟩
    · go_wp2
      go_ret
      exact ⟨g1, _, rfl, by omega, by omega⟩

set_option maxRecDepth 20000 in
set_option maxHeartbeats 1600000 in
theorem toStore_any (a a' az : Option Addr) (n m g ca ca' cz : Nat) (q : Int) (S : Nat → ByteArray) (T : Nat → Int) (U : Nat → ByteArray) (G : Nat → ByteArray) (w : World) (hn : n ≤ 1048576) (hm : m ≤ 1048576) (hg : g ≤ 1048576)
    (ha : At w a n fun i => .string (S i)) (ha' : At2 w a' m T U) (haz : At w az g fun i => .string (G i)) :
    Calls Tryd.prog 13 #[stv a n ca a' m ca' az g cz q] w fun e w' => Below w.heap.size w w' ∧ ∃ x cx y cy z, e = .returned (stv x n cx y m cy z g g q) ∧ MineSt w' w.heap.size w'.heap.size x y z n m g S T U G := by
  have h0 : ∀ o1 o2 o3, Below w.heap.size w (((w.alloc o1).alloc o2).alloc o3) := fun o1 o2 o3 => ba3 _ _ _ _
  obtain ⟨D, hD0⟩ : ∃ D, w.heap.size = D := ⟨_, rfl⟩
  have HD : Hid (w.heap.size = D) := hD0
  obtain ⟨W0, hW0⟩ : ∃ W0, ((w.alloc (.cells #[.slice a n ca, .slice a' m ca', .slice az g cz, .int .i64 q] 27)).alloc (.cells #[.slice none 0 0, .slice none 0 0, .slice none 0 0, .int .i64 0] 34)).alloc (.cells #[.slice none 0 0, .slice none 0 0, .slice none 0 0, .int .i64 0] 34) = W0 := ⟨_, rfl⟩
  have b0 : Below w.heap.size w W0 := by subst hW0; exact ba3 _ _ _ _
  have h3 : Hid (W0.heap[D]? = some (.cells #[.slice a n ca, .slice a' m ca', .slice az g cz, .int .i64 q] 27 (0, 0)) ∧ W0.heap[D + 1]? = some (.cells #[.slice none 0 0, .slice none 0 0, .slice none 0 0, .int .i64 0] 34 (0, 0)) ∧ W0.heap[D + 1 + 1]? = some (.cells #[.slice none 0 0, .slice none 0 0, .slice none 0 0, .int .i64 0] 34 (0, 0))) := by subst hW0 hD0; exact al3 _ _ _ _
  have hs0 : Hid (W0.heap.size = D + 3) := by subst hW0 hD0; rw [Hid, sz1, sz1, sz1]
  obtain ⟨x0, x1, x2, x3⟩ := box4_cells h3.out.1
  go_enter Tryd.func13, Tryd.ntmps13
  go_wp2_with fail
  refine (toDevice_any a a' n m ca ca' S T U _ hn hm (ha.below b0) (ha'.below b0)).mono ?_
  rintro e w1 ⟨b1, x, cx, y, cy, rfl, mx, my⟩
  have s1 : Hid (D + 3 ≤ w1.heap.size) := by have := b1.size; rw [hs0.out] at this; exact this
  have s1' := s1.out
  rw [hs0.out] at mx my
  have k1 := box_on h3.out.1 b1
  have k2 := box_on h3.out.2.1 b1
  have k3 := box_on h3.out.2.2 b1
  obtain ⟨c0, c1, c2, c3⟩ := box4_cells k3
  obtain ⟨f0, f1, f2, f3⟩ := box4_free k3
  obtain ⟨W2, hW2⟩ : ∃ W2, (w1.setCell ⟨D + 1 + 1, 0, none⟩ (.slice x n cx)).setCell ⟨D + 1 + 1, 1, none⟩ (.slice y m cy) = W2 := ⟨_, rfl⟩
  have o2 : Out (D + 1 + 1) (D + 1 + 1 + 1) w1 W2 := by subst hW2; exact Out.setCell (out_setCell w1 _ 0 _) (Nat.le_refl _) (Nat.lt_succ_self _) 1 _
  have j3 : W2.heap[D + 1 + 1]? = some (.cells #[.slice x n cx, .slice y m cy, .slice none 0 0, .int .i64 0] 34 (0, 0)) := by subst hW2; rw [block_setz (block_setz k3)]; rfl
  have j1 := box_out k1 o2 (by omega)
  have j2 := box_out k2 o2 (by omega)
  have g2 : Below w.heap.size w W2 := (Below.comp b0 b1).trans ((Out.below o2 (by omega)).mono (by rw [HD.out]; omega))
  have mx2 := mx.out o2 (.inr (by omega))
  have my2 := my.out o2 (.inr (by omega))
  obtain ⟨d0, d1, d2, d3⟩ := box4_cells j1
  have J1 : Hid _ := j1
  have J2 : Hid _ := j2
  have J3 : Hid _ := j3
  have sW2 := o2.size
  clear x0 x1 x2 x3 k1 k2 k3 j1 j2 j3
  go_wp2_with fail
  refine (toStringC_any az g cz G _ hg (haz.below g2)).mono ?_
  rintro e w3 ⟨b3, z, rfl, mz⟩
  have l1 := box_on J1.out b3
  have l2 := box_on J2.out b3
  have l3 := box_on J3.out b3
  clear c0 c1 c2 c3 f0 f1 f2 f3 d0 d1 d2 d3 hW2
  obtain ⟨c0, c1, c2, c3⟩ := box4_cells l3
  obtain ⟨f0, f1, f2, f3⟩ := box4_free l3
  obtain ⟨d0, d1, d2, d3⟩ := box4_cells l1
  obtain ⟨r0, r1, r2, r3⟩ := box4_cells l2
  obtain ⟨p0, p1, p2, p3⟩ := box4_free l2
  have s23 := b3.size
  go_wp2
  obtain ⟨W4, hW4⟩ : ∃ W4, (w3.setCell ⟨D + 1 + 1, 2, none⟩ (.slice z g g)).setCell ⟨D + 1 + 1, 3, none⟩ (.int .i64 q) = W4 := ⟨_, rfl⟩
  have o4 : Out (D + 1 + 1) (D + 1 + 1 + 1) w3 W4 := by subst hW4; exact Out.setCell (out_setCell w3 _ 2 _) (Nat.le_refl _) (Nat.lt_succ_self _) 3 _
  rw [hW4]
  have l2' := box_out l2 o4 (by omega)
  have hset := box4_set l2' (x0 := .slice x n cx) (x1 := .slice y m cy) (x2 := .slice z g g) (x3 := .int .i64 q)
  have hout := set4_out W4 (D + 1) (.slice x n cx) (.slice y m cy) (.slice z g g) (.int .i64 q)
  obtain ⟨u0, u1, u2, u3⟩ := box4_cells hset
  have s34 := o4.size
  have s45 := hout.size
  have mx5 := (((mx2.below b3).out o4 (.inr (by omega))).out hout (.inr (by omega)))
  have my5 := (((my2.below b3).out o4 (.inr (by omega))).out hout (.inr (by omega)))
  have mz5 := ((mz.out o4 (.inr (by omega))).out hout (.inr (by omega)))
  refine bodyPost_ret (v := stv x n cx y m cy z g g q) (by simp [results, Tryd.results13, go_sem, u0, u1, u2, u3]) rfl ⟨?_, x, cx, y, cy, z, rfl, ⟨mx5.mono (by rw [HD.out]; omega) (by omega), my5.mono (by rw [HD.out]; omega) (by omega)⟩, mz5.mono (by rw [HD.out]; omega) (by omega), apt_of mx5 mz5 sW2⟩
  exact ((Below.comp g2 b3).trans ((Out.below o4 (by omega)).mono (by rw [HD.out]; omega))).trans ((Out.below hout (by omega)).mono (by rw [HD.out]; omega))
end Go.Proofs.YtmijalmihfgolaaDoor
