import Derived.Test.YtoodioaflaklmaaK1
/- How much room there is: the model's RoomIn, the program's, and the law. -/
namespace Go.Proofs.Ytoodioaflaklmaa
open Go.ChangeShapes Go.WideShapes Go.ChangeAt Go.RowKit
set_option linter.unusedVariables false
open Room

attribute [local go_sem] Oper.semAt_some

/-- All together, and the last one's length. -/
def runR (A L : Int) : List Ex → Int × Int
  | [] => (A, L)
  | x :: l => runR (A + x.2) x.2 l
def roomA (b : Int) (l s : List Ex) : Int := bif good b l s then (runR 0 0 s).1 else 0
def roomL (b : Int) (l s : List Ex) : Int := bif good b l s then (runR 0 0 s).2 else 0

set_option maxHeartbeats 1000000 in
theorem specRoom_any (b : Int) (a : Option Addr) (ca : Nat) (a' : Option Addr) (ca' : Nat) (l s : List Ex) (w : World) (hb0 : -9223372036854775808 ≤ b) (hb1 : b ≤ 9223372036854775807) (hn : l.length ≤ 1048576) (hn' : s.length ≤ 1048576) (hx : ∀ x, x ∈ l → x.1 ≤ 9223372036854775807) (ha : Exs w a l) (ha' : Exs w a' s) :
    Calls Try.prog 24 #[fv b a l.length ca a' s.length ca'] w fun e w' => e = .returned (.tuple #[.int .i64 (roomA b l s), .int .i64 (roomL b l s), .bool (good b l s)]) ∧ Below w.heap.size w w' := by
  obtain ⟨D, hD⟩ : ∃ D, w.heap.size = D := ⟨_, rfl⟩
  obtain ⟨W0, hW0⟩ : ∃ W0, w.alloc (.cells #[.int .i64 b, .slice a l.length ca, .slice a' s.length ca'] 29) = W0 := ⟨_, rfl⟩
  have g0 : Below w.heap.size w W0 := by subst hW0; exact below_alloc _ _
  have B1 : W0.heap[D]? = some (.cells #[.int .i64 b, .slice a l.length ca, .slice a' s.length ca'] 29 (0, 0)) := by subst hW0 hD; exact al1 _ _
  have HB : Hid _ := B1
  obtain ⟨i0, i1, i2, -, -, -⟩ := box3_cells B1
  clear B1
  have cg := specGood_any b a ca a' ca' l s W0 hb0 hb1 hn hn' (ha.below g0) (ha'.below g0)
  obtain ⟨r, hr⟩ : ∃ r, good b l s = r := ⟨_, rfl⟩
  rw [hr] at cg ⊢
  cases r with
  | false =>
    rw [show roomA b l s = 0 by simp [roomA, hr], show roomL b l s = 0 by simp [roomL, hr]]
    generalize l.length = n at *
    generalize s.length = n' at *
    go_enter Try.func24, Try.ntmps24
    go_wp2_with (go_at_call 11; refine cg.mono ?_; rintro e w1 ⟨rfl, b1⟩)
    go_ret3
    exact ⟨rfl, by first | exact Below.comp g0 b1 | exact (hD ▸ Below.comp g0 b1)⟩
  | true =>
    have hg := good_iff.1 hr
    have hin : ∀ x, x ∈ s → 1 ≤ x.2 ∧ x.2 ≤ 400 := fun x hx' => by
      have hm : x ∈ l := by rw [← hg.2.2.2] at hx'; exact mem_srt.1 hx'
      have := hg.2.2.1.ins x hm
      unfold fin at this
      omega
    have hs60 : s.length ≤ 60 := by rw [← hg.2.2.2, len_srt]; exact hg.2.1
    have HR : Hid (roomA b l s = (runR 0 0 s).1 ∧ roomL b l s = (runR 0 0 s).2) := ⟨by simp [roomA, hr], by simp [roomL, hr]⟩
    generalize roomA b l s = RA at *
    generalize roomL b l s = RL at *
    have Ha : Hid (Exs w a' s) := ha'
    have Hin : Hid _ := hin
    clear hg hx ha ha' hr hin
    go_enter Try.func24, Try.ntmps24
    go_wp2_with fail
    refine cg.mono ?_
    rintro e w1 ⟨rfl, b1⟩
    clear cg hW0 i0 i1 i2
    obtain ⟨i0, i1, i2, -, -, -⟩ := box3_cells (box_on HB.out b1)
    have g1 := Below.comp g0 b1
    generalize l.length = n at *
    go_wp2
    clear i0 i1 i2
    go_loopw [15, 5, 6] (fun i q m wr => ∃ (k : Nat) (A L : Int), k ≤ s.length ∧ i = .int .i64 k ∧ q = .int .i64 A ∧ m = .int .i64 L ∧ 0 ≤ A ∧ A ≤ 400 * k ∧ Hid (runR 0 0 s = runR A L (s.drop k)) ∧ Below w1.heap.size w1 wr) (fun i _ _ _ => s.length - (intOf i).toNat)
    case atStart => exact ⟨0, 0, 0, Nat.zero_le _, rfl, rfl, rfl, by omega, by omega, (show Hid _ from by show _ = _; simp), Below.refl _ _⟩
    case round =>
      obtain ⟨k, A, L, hk, rfl, rfl, rfl, hA0, hA1, HU, hb⟩ := hrel
      by_cases hlt : k < s.length
      · have hq := Hin.out (gx s k) (by rw [gx_eq hlt]; exact List.getElem_mem hlt)
        have hd := drop_gx hlt
        obtain ⟨bb, off, rfl, hcell⟩ := (Ha.out.below (Below.comp g1 hb)) (by omega)
        obtain ⟨k0, k1⟩ := hcell k hlt
        clear hcell
        generalize gx s k = x at k0 k1 hq hd
        have HDr : Hid _ := hd
        clear hd
        obtain ⟨p, q⟩ := x
        simp only at k0 k1 hq
        have HU' : Hid (runR 0 0 s = runR (A + q) q (s.drop (k + 1))) := by
          show _ = _
          rw [HU.out, HDr.out]; rfl
        go_wp2
        go_roundw
        case rel => exact ⟨k + 1, A + q, q, by omega, by go_num, rfl, rfl, by omega, by omega, HU', Below.comp hb (below_alloc _ _)⟩
        case measure => simp [intOf]; omega
      · have hkn : k = s.length := by omega
        have e : runR 0 0 s = (A, L) := by rw [HU.out, hkn, List.drop_length]; rfl
        have e1 : RA = A := by rw [HR.out.1, e]
        have e2 : RL = L := by rw [HR.out.2, e]
        subst e1 e2
        clear hkn e HU HR
        go_wp2
        go_ret3
        exact ⟨rfl, Below.comp g1 hb⟩
set_option maxHeartbeats 1000000 in
theorem implRoom_any (b : Int) (a : Option Addr) (ca : Nat) (a' : Option Addr) (ca' : Nat) (l s : List Ex) (w : World) (hb0 : -9223372036854775808 ≤ b) (hb1 : b ≤ 9223372036854775807) (hn : l.length ≤ 1048576) (hn' : s.length ≤ 1048576) (hx : ∀ x, x ∈ l → x.1 ≤ 9223372036854775807) (ha : Exs w a l) (ha' : Exs w a' s) :
    Calls Try.prog 25 #[fv b a l.length ca a' s.length ca'] w fun e w' => e = .returned (.tuple #[.int .i64 (roomA b l s), .int .i64 (roomL b l s), .bool (good b l s)]) ∧ Below w.heap.size w w' := by
  obtain ⟨D, hD⟩ : ∃ D, w.heap.size = D := ⟨_, rfl⟩
  obtain ⟨W0, hW0⟩ : ∃ W0, w.alloc (.cells #[.int .i64 b, .slice a l.length ca, .slice a' s.length ca'] 29) = W0 := ⟨_, rfl⟩
  have g0 : Below w.heap.size w W0 := by subst hW0; exact below_alloc _ _
  have B1 : W0.heap[D]? = some (.cells #[.int .i64 b, .slice a l.length ca, .slice a' s.length ca'] 29 (0, 0)) := by subst hW0 hD; exact al1 _ _
  have HB : Hid _ := B1
  obtain ⟨i0, i1, i2, -, -, -⟩ := box3_cells B1
  clear B1
  have cg := implGood_any b a ca a' ca' l s W0 hn hn' hx (ha.below g0) (ha'.below g0)
  obtain ⟨r, hr⟩ : ∃ r, good b l s = r := ⟨_, rfl⟩
  rw [hr] at cg ⊢
  cases r with
  | false =>
    rw [show roomA b l s = 0 by simp [roomA, hr], show roomL b l s = 0 by simp [roomL, hr]]
    generalize l.length = n at *
    generalize s.length = n' at *
    go_enter Try.func25, Try.ntmps25
    go_wp2_with (go_at_call 13; refine cg.mono ?_; rintro e w1 ⟨rfl, b1⟩)
    go_ret3
    exact ⟨rfl, by first | exact Below.comp g0 b1 | exact (hD ▸ Below.comp g0 b1)⟩
  | true =>
    have hg := good_iff.1 hr
    have hin : ∀ x, x ∈ s → 1 ≤ x.2 ∧ x.2 ≤ 400 := fun x hx' => by
      have hm : x ∈ l := by rw [← hg.2.2.2] at hx'; exact mem_srt.1 hx'
      have := hg.2.2.1.ins x hm
      unfold fin at this
      omega
    have hs60 : s.length ≤ 60 := by rw [← hg.2.2.2, len_srt]; exact hg.2.1
    have HR : Hid (roomA b l s = (runR 0 0 s).1 ∧ roomL b l s = (runR 0 0 s).2) := ⟨by simp [roomA, hr], by simp [roomL, hr]⟩
    generalize roomA b l s = RA at *
    generalize roomL b l s = RL at *
    have Ha : Hid (Exs w a' s) := ha'
    have Hin : Hid _ := hin
    clear hg hx ha ha' hr hin
    go_enter Try.func25, Try.ntmps25
    go_wp2_with fail
    refine cg.mono ?_
    rintro e w1 ⟨rfl, b1⟩
    clear cg hW0 i0 i1 i2
    obtain ⟨i0, i1, i2, -, -, -⟩ := box3_cells (box_on HB.out b1)
    have g1 := Below.comp g0 b1
    generalize l.length = n at *
    go_wp2
    clear i0 i1 i2
    go_loopw [15, 5, 6] (fun i q m wr => ∃ (k : Nat) (A L : Int), k ≤ s.length ∧ i = .int .i64 k ∧ q = .int .i64 A ∧ m = .int .i64 L ∧ 0 ≤ A ∧ A ≤ 400 * k ∧ Hid (runR 0 0 s = runR A L (s.drop k)) ∧ Below w1.heap.size w1 wr) (fun i _ _ _ => s.length - (intOf i).toNat)
    case atStart => exact ⟨0, 0, 0, Nat.zero_le _, rfl, rfl, rfl, by omega, by omega, (show Hid _ from by show _ = _; simp), Below.refl _ _⟩
    case round =>
      obtain ⟨k, A, L, hk, rfl, rfl, rfl, hA0, hA1, HU, hb⟩ := hrel
      by_cases hlt : k < s.length
      · have hq := Hin.out (gx s k) (by rw [gx_eq hlt]; exact List.getElem_mem hlt)
        have hd := drop_gx hlt
        obtain ⟨bb, off, rfl, hcell⟩ := (Ha.out.below (Below.comp g1 hb)) (by omega)
        obtain ⟨k0, k1⟩ := hcell k hlt
        clear hcell
        generalize gx s k = x at k0 k1 hq hd
        have HDr : Hid _ := hd
        clear hd
        obtain ⟨p, q⟩ := x
        simp only at k0 k1 hq
        have HU' : Hid (runR 0 0 s = runR (A + q) q (s.drop (k + 1))) := by
          show _ = _
          rw [HU.out, HDr.out]; rfl
        go_wp2
        go_roundw
        case rel => exact ⟨k + 1, A + q, q, by omega, by go_num, rfl, rfl, by omega, by omega, HU', Below.comp hb (below_alloc _ _)⟩
        case measure => simp [intOf]; omega
      · have hkn : k = s.length := by omega
        have e : runR 0 0 s = (A, L) := by rw [HU.out, hkn, List.drop_length]; rfl
        have e1 : RA = A := by rw [HR.out.1, e]
        have e2 : RL = L := by rw [HR.out.2, e]
        subst e1 e2
        clear hkn e HU HR
        go_wp2
        go_ret3
        exact ⟨rfl, Below.comp g1 hb⟩
set_option maxHeartbeats 1000000 in
theorem lawRoomIn (b : Int) (a : Option Addr) (ca : Nat) (a' : Option Addr) (ca' : Nat) (l s : List Ex) (w : World) (hb : -9223372036854775808 ≤ b ∧ b ≤ 9223372036854775807) (hn : l.length ≤ 9223372036854775807) (hn' : s.length ≤ 9223372036854775807) (ha : Exs w a l) (ha' : Exs w a' s) (hx : ∀ x, x ∈ l → Fit x) (hx' : ∀ x, x ∈ s → Fit x) :
    Calls Try.prog 7 #[fv b a l.length ca a' s.length ca'] w fun e w' => e = .returned (.bool true) ∧ Below w.heap.size w w' := by
  obtain ⟨D, hD⟩ : ∃ D, w.heap.size = D := ⟨_, rfl⟩
  obtain ⟨W0, hW0⟩ : ∃ W0, w.alloc (.cells #[.int .i64 b, .slice a l.length ca, .slice a' s.length ca'] 24) = W0 := ⟨_, rfl⟩
  have g0 : Below w.heap.size w W0 := by subst hW0; exact below_alloc _ _
  have B1 : W0.heap[D]? = some (.cells #[.int .i64 b, .slice a l.length ca, .slice a' s.length ca'] 24 (0, 0)) := by subst hW0 hD; exact al1 _ _
  have HB : Hid _ := B1
  obtain ⟨i0, i1, i2, -, -, -⟩ := box3_cells B1
  clear B1
  have c27 := szFree_any b a l.length ca a' s.length ca' W0 hn hn'
  have c29 := fun W h1 h2 h3 h4 => toFree_any b a l.length ca a' s.length ca' (gx l) (gx s) W h1 h2 h3 h4
  have c28 := fun W x cx x' cx' h1 h2 h3 h4 => specRoom_any b x cx x' cx' l s W hb.1 hb.2 h1 h2 (fun x hx' => (hx x hx').1.2) h3 h4
  have c30 := fun W x cx x' cx' h1 h2 h3 h4 => implRoom_any b x cx x' cx' l s W hb.1 hb.2 h1 h2 (fun x hx' => (hx x hx').1.2) h3 h4
  have c24 := fun W x cx x' cx' y cy y' cy' h1 h2 h3 h4 h5 h6 => eqFree_same b x l.length cx x' s.length cx' y cy y' cy' (gx l) (gx s) W h1 h2 h3 h4 h5 h6
  generalize good b l s = r at c28 c30
  generalize roomA b l s = RA at c28 c30
  generalize roomL b l s = RL at c28 c30
  have Ha : Hid (Exs w a l ∧ Exs w a' s) := ⟨ha, ha'⟩
  clear ha ha' hx
  go_enter Try.func7, Try.ntmps7
  go_wp2_with fail
  refine c27.mono ?_
  rintro e w1 ⟨b1, q, rfl, hq⟩
  clear c27 hW0 i0 i1 i2
  have g1 := Below.comp g0 b1
  obtain ⟨i0, i1, i2, -, -, -⟩ := box3_cells (box_on HB.out b1)
  by_cases hq0 : q < 0
  · go_wp2
    go_ret
    exact ⟨rfl, hD ▸ g1⟩
  · have hl := hq.resolve_left hq0
    have hqd : ¬ q < 0 := hq0
    go_wp2_with fail
    refine (c29 _ hl.1 hl.2 (Ha.out.1.below g1) (Ha.out.2.below g1)).mono ?_
    rintro e w2 ⟨b2, x, cx, x', cx', M, rfl, _, _, m1, m2⟩
    have g2 := Below.comp g1 b2
    clear i0 i1 i2
    go_wp2_with fail
    refine (c28 _ x cx x' cx' hl.1 hl.2 (MineX.row m1) (MineX.row m2)).mono ?_
    rintro e w3 ⟨rfl, b3⟩
    have g3 := Below.comp g2 b3
    clear m1 m2
    obtain ⟨i0, i1, i2, -, -, -⟩ := box3_cells (box_on HB.out (Below.comp b1 (Below.comp b2 b3)))
    go_wp2_with fail
    refine (c29 _ hl.1 hl.2 (Ha.out.1.below g3) (Ha.out.2.below g3)).mono ?_
    rintro e w4 ⟨b4, y, cy, y', cy', M', rfl, _, _, m1, m2⟩
    clear i0 i1 i2
    have g4 := Below.comp g3 b4
    obtain ⟨E, hE⟩ : ∃ E, w4.heap.size = E := ⟨_, rfl⟩
    obtain ⟨W4, hW4⟩ : ∃ W4, w4.alloc (.cells #[.int .i64 b, .slice y l.length cy, .slice y' s.length cy'] 29) = W4 := ⟨_, rfl⟩
    have b5 : Below w4.heap.size w4 W4 := by subst hW4; exact below_alloc _ _
    have HE : Hid (W4.heap[E]? = some (.cells #[.int .i64 b, .slice y l.length cy, .slice y' s.length cy'] 29 (0, 0))) := by subst hW4 hE; exact al1 _ _
    obtain ⟨j0, j1, j2, -, -, -⟩ := box3_cells HE.out
    go_wp2_with fail
    refine (c30 _ y cy y' cy' hl.1 hl.2 (MineX.row (m1.below b5)) (MineX.row (m2.below b5))).mono ?_
    rintro e w6 ⟨rfl, b6⟩
    clear hW4 j0 j1 j2
    have g6 := Below.comp (Below.comp g4 b5) b6
    have ry := (MineX.row (m1.below (Below.comp b5 b6)))
    have ry' := (MineX.row (m2.below (Below.comp b5 b6)))
    have hB6 := box_on HB.out (Below.comp b1 (Below.comp b2 (Below.comp b3 (Below.comp b4 (Below.comp b5 b6)))))
    have hE6 := box_on HE.out b6
    have SB : Hid (∀ W, Below w6.heap.size w6 W → W.cell? ⟨D, 0, none⟩ = some (.int .i64 b) ∧ W.cell? ⟨D, 1, none⟩ = some (.slice a l.length ca) ∧ W.cell? ⟨D, 2, none⟩ = some (.slice a' s.length ca') ∧ W.cell? ⟨E, 0, none⟩ = some (.int .i64 b) ∧ W.cell? ⟨E, 1, none⟩ = some (.slice y l.length cy) ∧ W.cell? ⟨E, 2, none⟩ = some (.slice y' s.length cy') ∧ Below w6.heap.size w6 W) := fun W z => by
      obtain ⟨h0, h1, h2, -⟩ := box3_cells (box_on hB6 z)
      obtain ⟨h3, h4, h5, -⟩ := box3_cells (box_on hE6 z)
      exact ⟨h0, h1, h2, h3, h4, h5, z⟩
    clear hB6 hE6
    have Hy : Hid (RowX w6 y l.length (gx l) ∧ RowX w6 y' s.length (gx s)) := ⟨ry, ry'⟩
    clear ry ry' m1 m2
    go_wp2
    go_region_held3 (fun W => W.cell? ⟨D, 0, none⟩ = some (.int .i64 b) ∧ W.cell? ⟨D, 1, none⟩ = some (.slice a l.length ca) ∧ W.cell? ⟨D, 2, none⟩ = some (.slice a' s.length ca') ∧ W.cell? ⟨E, 0, none⟩ = some (.int .i64 b) ∧ W.cell? ⟨E, 1, none⟩ = some (.slice y l.length cy) ∧ W.cell? ⟨E, 2, none⟩ = some (.slice y' s.length cy') ∧ Below w6.heap.size w6 W)
      ((refine SB.out _ ?_; first | assumption | exact Below.drew (Below.refl _ _)))
      (first
      | (go_at_call 12; obtain ⟨-, -, -, -, -, -, hw0⟩ := ‹_ ∧ _ ∧ _ ∧ _ ∧ _ ∧ _ ∧ Below w6.heap.size w6 _›; refine (c29 _ hl.1 hl.2 (Ha.out.1.below (Below.comp g6 hw0)) (Ha.out.2.below (Below.comp g6 hw0))).mono ?_; rintro e w7 ⟨b7, z, cz, z', cz', M7, rfl, _, _, m7, m7'⟩; have b8 := Below.comp hw0 b7; clear hw0)
      | (go_at_call 14; refine (c24 _ y cy y' cy' z cz z' cz' (by omega) (by omega) (Hy.out.1.below b8) (Hy.out.2.below b8) (MineX.row m7) (MineX.row m7')).mono ?_; rintro e w9 ⟨rfl, b9⟩; have b10 := Below.comp b8 b9))
    all_goals go_wp2
    all_goals
      go_ret
      exact ⟨rfl, by first | exact Below.comp g6 (by assumption) | exact (hD ▸ Below.comp g6 (by assumption))⟩
end Go.Proofs.Ytoodioaflaklmaa
