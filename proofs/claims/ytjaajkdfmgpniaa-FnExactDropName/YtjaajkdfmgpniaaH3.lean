import Derived.Test.YtjaajkdfmgpniaaH2
import Derived.Test.YtjaajkdfmgpniaaP4
/- Names looked up, on both sides. -/
namespace Go.Proofs.Ytjaajkdfmgpniaa
open Go.ChangeShapes Go.WideShapes Go.ChangeAt Go.RowKit
set_option linter.unusedVariables false
open Hd

attribute [local go_sem] Oper.semAt_some

theorem bkOf_is {d : Dr} (h : GS d) (s : ByteArray) : bkOf d s = (bkN d s : Int) := (good_bk h s).1
set_option maxHeartbeats 4000000 in
theorem implLook_any (v : Value) (d : Dr) (s : ByteArray) (w : World) (hsm : Sml d) (hf : FewD d) (hs : s.size ≤ 9223372036854775807) (hc : DirAt w v d) {N : Int} {B : Bool} (hNB : LoOk d s N B) :
    Calls Try.prog 24 #[v, .string s] w fun e w' => e = .returned (.tuple #[.int .i64 N, .bool B]) ∧ Below w.heap.size w w' := by
  obtain ⟨y, o, hBu⟩ := bu_ex d s
  have cB := fun W x h => implBucket_any x d s W hsm hf hs h hBu
  obtain ⟨a, c, a', c', rfl, hca, hca', ha, ha'⟩ := hc
  have HD : Hid (∀ W, Below w.heap.size w W → DirAt W (dv d.dp a d.sl.length c a' d.bs.length c') d) := fun W h => ⟨a, c, a', c', rfl, hca, hca', ha.below h, ha'.below h⟩
  have HBk : Hid (Bks w a' d.bs) := ha'
  have HNo : Hid (o = false → N = 0 ∧ B = false) := fun h => hNB.1 (fun q => by have := hBu.1.2 q; rw [h] at this; cases this)
  have HYes : Hid (o = true → (GS d ∧ isN s = true) ∧ y = (bkN d s : Int)) := fun h => ⟨hBu.1.1 h, by rw [hBu.2.1 h]; exact bkOf_is (hBu.1.1 h).1 s⟩
  clear ha ha' hca hca' hBu hsm
  unfold dv at *
  generalize d.dp = DP at *
  generalize d.sl.length = n at *
  obtain ⟨m, hm⟩ : ∃ m, d.bs.length = m := ⟨_, rfl⟩
  have Hm : Hid _ := hm
  rw [hm] at HD ⊢
  clear hm
  obtain ⟨W0, hW0⟩ : ∃ W0, w.alloc (.cells #[.int .i64 DP, .slice a n c, .slice a' m c'] 27) = W0 := ⟨_, rfl⟩
  have q0 : Below w.heap.size w W0 := by subst hW0; exact below_alloc _ _
  have HA : Hid (W0.heap[w.heap.size]? = some (.cells #[.int .i64 DP, .slice a n c, .slice a' m c'] 27 (0, 0))) := by subst hW0; exact al1 _ _
  obtain ⟨x0, x1, x2, -, -, -⟩ := box3_cells HA.out
  go_enter Try.func24, Try.ntmps24
  go_wp2_with fail
  refine (cB _ _ (HD.out _ q0)).mono ?_
  rintro e w1 ⟨rfl, b1⟩
  have g1 := Below.comp q0 b1
  clear x0 x1 x2 hW0 cB
  cases o with
  | false =>
    obtain ⟨rfl, rfl⟩ := HNo.out (by simp)
    go_wp2_with fail
    go_ret2
    exact ⟨rfl, g1⟩
  | true =>
    obtain ⟨⟨hG, hN⟩, rfl⟩ := HYes.out (by simp)
    obtain ⟨k, hk, hB, hNv⟩ := hNB.2 hG hN
    have hj := (good_bk hG s).2
    obtain ⟨h4, hris⟩ := good_names hG hj
    have hFN := hf.2.2 _ hj
    unfold bkL at *
    obtain ⟨bb, boff, rfl, hbc⟩ := HBk.out (by omega)
    obtain ⟨na, nc, y0, y1, y2, y3⟩ := (hbc _ hj).below g1
    rw [Hm.out] at hj
    clear hbc HNo HYes hG hN hNB hFN hf y0 y3
    generalize bkN d s = j at *
    generalize (gb d.bs j).ns = l at *
    have cS := searchName_any na l nc s k w1 (by omega) y2 hris hk
    have Hfl : Hid (hasN l s k = true → k < l.length ∧ ∃ b off, na = some ⟨b, off, none⟩ ∧ ∀ W, Below w1.heap.size w1 W → W.cell? ⟨b, off + k * 2 + 1, none⟩ = some (.int .i64 (gm l k).fl)) := fun h => by
      have hkl : k < l.length := by simp [hasN] at h; exact h.1
      obtain ⟨b, off, e, hcell⟩ := y2 (by omega)
      exact ⟨hkl, b, off, e, fun W hW => cell_on (hcell k hkl).2 hW⟩
    have HNv : Hid _ := hNv
    have HB : Hid _ := hB
    clear y2 hris hk hNv hB
    obtain ⟨r, hr⟩ : ∃ r, hasN l s k = r := ⟨_, rfl⟩
    rw [hr] at cS Hfl HNv HB
    clear hr
    obtain ⟨x0, x1, x2, -, -, -⟩ := box3_cells (box_on HA.out b1)
    have hjm : (j : Int) < (m : Int) := by omega
    obtain ⟨nl, hnl⟩ : ∃ nl, l.length = nl := ⟨_, rfl⟩
    rw [hnl] at cS Hfl y1 h4
    clear hnl
    go_wp2_with fail
    refine cS.mono ?_
    rintro e w2 ⟨rfl, b2⟩
    clear cS x0 x1 x2 y1
    have g2 := Below.comp g1 b2
    cases r with
    | false =>
      have h1 := HNv.out
      have h2 := HB.out
      simp only [cond_false] at h1
      subst h1 h2
      go_wp2_with fail
      go_ret2
      exact ⟨rfl, g2⟩
    | true =>
      obtain ⟨hkl, b, off, rfl, hcell⟩ := Hfl.out (by simp)
      have k0 := hcell w2 b2
      have h1 := HNv.out
      have h2 := HB.out
      simp only [cond_true] at h1
      rw [← h1] at k0
      clear h1 hcell HNv
      subst h2
      have hkl' : (k : Int) < (nl : Int) := by omega
      go_wp2_with fail
      go_ret2
      exact ⟨rfl, g2⟩
set_option maxHeartbeats 4000000 in
theorem specLook_any (v : Value) (d : Dr) (s : ByteArray) (w : World) (hsm : Sml d) (hf : FewD d) (hs : s.size ≤ 9223372036854775807) (hc : DirAt w v d) {N : Int} {B : Bool} (hNB : LoOk d s N B) :
    Calls Try.prog 23 #[v, .string s] w fun e w' => e = .returned (.tuple #[.int .i64 N, .bool B]) ∧ Below w.heap.size w w' := by
  obtain ⟨g, hg⟩ := tel_ex (GS d)
  have cG : ∀ W x, DirAt W x d → Calls Try.prog 20 #[x] W (fun e w' => e = .returned (.bool g) ∧ Below W.heap.size W w') := fun W x h => (specGood_any x d W hsm hf h).mono (fun e w' q => ⟨q.1.is hg, q.2⟩)
  have cN := fun W => l8Name_any s W hs
  have HBu : Hid (∀ W x, GS d → DirAt W x d → Calls Try.prog 61 #[x, .string s] W (fun e w' => e = .returned (.int .i64 (bkN d s : Nat)) ∧ Below W.heap.size W w')) := fun W x h hd => by have := l8Bucket_any x d s W h.1 hs hd; rw [bkOf_is h] at this; exact this
  obtain ⟨a, c, a', c', rfl, hca, hca', ha, ha'⟩ := hc
  have HD : Hid (∀ W, Below w.heap.size w W → DirAt W (dv d.dp a d.sl.length c a' d.bs.length c') d) := fun W h => ⟨a, c, a', c', rfl, hca, hca', ha.below h, ha'.below h⟩
  have HBk : Hid (Bks w a' d.bs) := ha'
  have HNo : Hid (g = false ∨ isN s = false → N = 0 ∧ B = false) := fun h => hNB.1 (fun q => by
    rcases h with h | h
    · have := hg.2 q.1; rw [h] at this; cases this
    · rw [h] at q; exact absurd q.2 (by simp))
  have HG : Hid (g = true → GS d) := fun h => hg.1 h
  clear ha ha' hca hca' hg hsm
  unfold dv at *
  generalize d.dp = DP at *
  generalize d.sl.length = n at *
  obtain ⟨m, hm⟩ : ∃ m, d.bs.length = m := ⟨_, rfl⟩
  have Hm : Hid _ := hm
  rw [hm] at HD ⊢
  clear hm
  obtain ⟨o, ho⟩ : ∃ o, isN s = o := ⟨_, rfl⟩
  have Ho : Hid _ := ho
  rw [ho] at cN HNo
  clear ho
  obtain ⟨W0, hW0⟩ : ∃ W0, w.alloc (.cells #[.int .i64 DP, .slice a n c, .slice a' m c'] 27) = W0 := ⟨_, rfl⟩
  have q0 : Below w.heap.size w W0 := by subst hW0; exact below_alloc _ _
  have HA : Hid (W0.heap[w.heap.size]? = some (.cells #[.int .i64 DP, .slice a n c, .slice a' m c'] 27 (0, 0))) := by subst hW0; exact al1 _ _
  obtain ⟨x0, x1, x2, -, -, -⟩ := box3_cells HA.out
  go_enter Try.func23, Try.ntmps23
  go_wp2_with fail
  refine (cG _ _ (HD.out _ q0)).mono ?_
  rintro e w1 ⟨rfl, b1⟩
  have g1 := Below.comp q0 b1
  clear x0 x1 x2 hW0 cG
  cases g with
  | false =>
    obtain ⟨rfl, rfl⟩ := HNo.out (by simp)
    go_wp2_with fail
    go_ret2
    exact ⟨rfl, g1⟩
  | true =>
    go_wp2_with fail
    refine (cN _).mono ?_
    rintro e w2 ⟨rfl, hww⟩
    have hww := hww.symm
    subst hww
    cases o with
    | false =>
      obtain ⟨rfl, rfl⟩ := HNo.out (by simp)
      go_wp2_with fail
      go_ret2
      exact ⟨rfl, g1⟩
    | true =>
      have hG := HG.out (by simp)
      obtain ⟨k, hk, hB, hNv⟩ := hNB.2 hG Ho.out
      have hj := (good_bk hG s).2
      obtain ⟨h4, hris⟩ := good_names hG hj
      have cB := fun W x h => HBu.out W x hG h
      unfold bkL at *
      obtain ⟨bb, boff, rfl, hbc⟩ := HBk.out (by omega)
      obtain ⟨na, nc, y0, y1, y2, y3⟩ := (hbc _ hj).below g1
      rw [Hm.out] at hj
      clear hbc HNo HG hG hNB hf y3 HBu
      generalize bkN d s = j at *
      generalize (gb d.bs j).dp = dk at *
      generalize (gb d.bs j).ns = l at *
      have cS := fun W h => l8At_any na l nc s k W (by omega) h hk
      have Hy2 : Hid (Nms w1 na l) := y2
      have Hfl : Hid (hasN l s k = true → k < l.length ∧ ∃ b off, na = some ⟨b, off, none⟩ ∧ ∀ W, Below w1.heap.size w1 W → W.cell? ⟨b, off + k * 2 + 1, none⟩ = some (.int .i64 (gm l k).fl)) := fun h => by
        have hkl : k < l.length := by simp [hasN] at h; exact h.1
        obtain ⟨b, off, e, hcell⟩ := y2 (by omega)
        exact ⟨hkl, b, off, e, fun W hW => cell_on (hcell k hkl).2 hW⟩
      have HNv : Hid _ := hNv
      have HB : Hid _ := hB
      clear y2 hris hk hNv hB
      obtain ⟨r, hr⟩ : ∃ r, hasN l s k = r := ⟨_, rfl⟩
      rw [hr] at cS Hfl HNv HB
      clear hr
      obtain ⟨x0, x1, x2, -, -, -⟩ := box3_cells (box_on HA.out b1)
      have hjm : (j : Int) < (m : Int) := by omega
      obtain ⟨nl, hnl⟩ : ∃ nl, l.length = nl := ⟨_, rfl⟩
      have Hnl : Hid _ := hnl
      rw [hnl] at cS Hfl y1 h4
      clear hnl
      have SB : Hid (∀ W, Below w1.heap.size w1 W → W.cell? ⟨w.heap.size, 0, none⟩ = some (.int .i64 DP) ∧ W.cell? ⟨w.heap.size, 1, none⟩ = some (.slice a n c) ∧ W.cell? ⟨w.heap.size, 2, none⟩ = some (.slice (some ⟨bb, boff, none⟩) m c') ∧ W.cell? ⟨bb, boff + j * 2, none⟩ = some (.int .i64 dk) ∧ W.cell? ⟨bb, boff + j * 2 + 1, none⟩ = some (.slice na nl nc) ∧ Below w1.heap.size w1 W) := fun W z => ⟨cell_on x0 z, cell_on x1 z, cell_on x2 z, cell_on y0 z, cell_on y1 z, z⟩
      go_wp2_with fail
      clear x0 x1 x2 y0 y1
      go_region_held3 (fun W => W.cell? ⟨w.heap.size, 0, none⟩ = some (.int .i64 DP) ∧ W.cell? ⟨w.heap.size, 1, none⟩ = some (.slice a n c) ∧ W.cell? ⟨w.heap.size, 2, none⟩ = some (.slice (some ⟨bb, boff, none⟩) m c') ∧ W.cell? ⟨bb, boff + j * 2, none⟩ = some (.int .i64 dk) ∧ W.cell? ⟨bb, boff + j * 2 + 1, none⟩ = some (.slice na nl nc) ∧ Below w1.heap.size w1 W)
        ((refine SB.out _ ?_; first | assumption | exact Below.drew (Below.refl _ _) | exact Below.drew (below_alloc _ _) | exact (below_alloc _ _) | exact Below.comp hb3 (below_alloc _ _) | exact (hb3.setCell (Nat.le_refl _) _).setCell (Nat.le_refl _) _ | exact hb3.setCell (Nat.le_refl _) _))
        (first
        | (go_at_call 61; obtain ⟨-, -, -, -, -, hw0⟩ := ‹_ ∧ _ ∧ _ ∧ _ ∧ _ ∧ Below w1.heap.size w1 _›; refine (cB _ _ (HD.out _ (Below.comp g1 hw0))).mono ?_; rintro e w3 ⟨rfl, b3⟩; have hb3 := Below.comp hw0 b3; (first | (have hbx : w3.heap[w1.heap.size]? = some (.cells #[.int .i64 0, .slice none 0 0] 67 (0, 0)) := box_on (w := (w1.alloc (.cells #[.int .i64 0, .slice none 0 0] 67)).drew) (al1 w1 _) b3; obtain ⟨f0, f1, f2, f3⟩ := box2_cells hbx; have HBX : Hid (w3.heap[w1.heap.size]? = some (.cells #[.int .i64 0, .slice none 0 0] 67 (0, 0))) := hbx; clear hbx) | (have hbx : w3.heap[w1.heap.size]? = some (.cells #[.int .i64 0, .slice none 0 0] 67 (0, 0)) := box_on (w := w1.drew.alloc (.cells #[.int .i64 0, .slice none 0 0] 67)) (al1 w1.drew _) b3; obtain ⟨f0, f1, f2, f3⟩ := box2_cells hbx; have HBX : Hid (w3.heap[w1.heap.size]? = some (.cells #[.int .i64 0, .slice none 0 0] 67 (0, 0))) := hbx; clear hbx) | skip)))
      · obtain ⟨W9, hW9⟩ : ∃ W9, w3.alloc (.cells #[.int .i64 dk, .slice na nl nc] 67) = W9 := ⟨_, rfl⟩
        have HE : Hid (W9.heap[w3.heap.size]? = some (.cells #[.int .i64 dk, .slice na nl nc] 67 (0, 0))) := by subst hW9; exact al1 _ _
        have b9 : Below w1.heap.size w1 W9 := by subst hW9; exact Below.comp hb3 (below_alloc _ _)
        rw [hW9]
        clear hW9
        obtain ⟨e0, e1, -, -⟩ := box2_cells HE.out
        obtain ⟨E, hE⟩ : ∃ E, w3.heap.size = E := ⟨_, rfl⟩
        rw [hE] at e0 e1 HE ⊢
        clear hE
        go_wp2_with fail
        refine (cS _ (Hy2.out.below b9)).mono ?_
        rintro e w4 ⟨rfl, b4⟩
        clear e0 e1
        obtain ⟨e0, e1, -, -⟩ := box2_cells (box_on HE.out b4)
        have g9 := Below.comp g1 (Below.comp b9 b4)
        cases r with
        | false =>
          have h1 := HNv.out
          have h2 := HB.out
          simp only [cond_false] at h1
          subst h1 h2
          go_wp2_with fail
          go_ret2
          exact ⟨rfl, g9⟩
        | true =>
          obtain ⟨hkl, b, off, rfl, hcell⟩ := Hfl.out (by simp)
          have k0 := hcell w4 (Below.comp b9 b4)
          have h1 := HNv.out
          have h2 := HB.out
          simp only [cond_true] at h1
          rw [← h1] at k0
          clear h1 hcell HNv
          subst h2
          have hkl' : (k : Int) < (nl : Int) := by omega
          go_wp2_with fail
          go_ret2
          exact ⟨rfl, g9⟩
      · obtain ⟨W9, hW9⟩ : ∃ W9, (w3.setCell ⟨w1.heap.size, 0, none⟩ (.int .i64 dk)).setCell ⟨w1.heap.size, 1, none⟩ (.slice na nl nc) = W9 := ⟨_, rfl⟩
        have HE : Hid (W9.heap[w1.heap.size]? = some (.cells #[.int .i64 dk, .slice na nl nc] 67 (0, 0))) := by subst hW9; exact box2_set HBX.out
        have b9 : Below w1.heap.size w1 W9 := by subst hW9; exact (hb3.setCell (Nat.le_refl _) _).setCell (Nat.le_refl _) _
        rw [hW9]
        clear hW9 f0 f1 f2 f3
        obtain ⟨e0, e1, -, -⟩ := box2_cells HE.out
        obtain ⟨E, hE⟩ : ∃ E, w1.heap.size = E := ⟨_, rfl⟩
        rw [hE] at e0 e1 HE ⊢
        clear hE
        go_wp2_with fail
        refine (cS _ (Hy2.out.below b9)).mono ?_
        rintro e w4 ⟨rfl, b4⟩
        clear e0 e1
        obtain ⟨e0, e1, -, -⟩ := box2_cells (box_on HE.out b4)
        have g9 := Below.comp g1 (Below.comp b9 b4)
        cases r with
        | false =>
          have h1 := HNv.out
          have h2 := HB.out
          simp only [cond_false] at h1
          subst h1 h2
          go_wp2_with fail
          go_ret2
          exact ⟨rfl, g9⟩
        | true =>
          obtain ⟨hkl, b, off, rfl, hcell⟩ := Hfl.out (by simp)
          have k0 := hcell w4 (Below.comp b9 b4)
          have h1 := HNv.out
          have h2 := HB.out
          simp only [cond_true] at h1
          rw [← h1] at k0
          clear h1 hcell HNv
          subst h2
          have hkl' : (k : Int) < (nl : Int) := by omega
          go_wp2_with fail
          go_ret2
          exact ⟨rfl, g9⟩
end Go.Proofs.Ytjaajkdfmgpniaa
