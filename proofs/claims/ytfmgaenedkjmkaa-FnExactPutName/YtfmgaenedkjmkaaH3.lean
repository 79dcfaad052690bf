import Derived.Test.YtfmgaenedkjmkaaH2
import Derived.Test.YtfmgaenedkjmkaaP4
/- Names looked up, on both sides. -/
namespace Go.Proofs.Ytfmgaenedkjmkaa
open Go.ChangeShapes Go.WideShapes Go.ChangeAt Go.RowKit
set_option linter.unusedVariables false
open Hd

attribute [local go_sem] Oper.semAt_some

theorem bkOf_is {d : Dr} (h : GS d) (s : ByteArray) : bkOf d s = (bkN d s : Int) := (good_bk h s).1
set_option maxHeartbeats 4000000 in
theorem implLook_any (v : Value) (d : Dr) (s : ByteArray) (w : World) (hsm : Sml d) (hf : FewD d) (hs : s.size ≤ 9223372036854775807) (hc : DirAt w v d) {N : Int} {B : Bool} (hNB : LoOk d s N B) :
    Calls Try.prog 49 #[v, .string s] w fun e w' => e = .returned (.tuple #[.int .i64 N, .bool B]) ∧ Below w.heap.size w w' := by
  obtain ⟨y, o, hBu⟩ := bu_ex d s
  have cB := fun W x h => implBucket_any x d s W hsm hf hs h hBu
  obtain ⟨a, c, a', c', rfl, hca, hca', ha, ha'⟩ := hc
  have HD : Hid (∀ W, Below w.heap.size w W → DirAt W (dv d.dp a d.sl.length c a' d.bs.length c') d) := fun W h => ⟨a, c, a', c', rfl, hca, hca', ha.below h, ha'.below h⟩
  have HBk : Hid (Bks w a' d.bs) := ha'
  have HNo : Hid (o = false → N = 0 ∧ B = false) := fun h => hNB.1 (fun q => by have := hBu.1.2 q; rw [h] at this; cases this)
  have HYes : Hid (o = true → (GS d ∧ isN s = true) ∧ y = (bkN d s : Int)) := fun h => ⟨hBu.1.1 h, by rw [hBu.2.1 h]; exact bkOf_is (hBu.1.1 h).1 s⟩
  clear ha ha' hca hca' hBu hsm
  unfold dv at *
  generalize d.dp = DP at *
  generalize d.sl.length = n at *
  obtain ⟨m, hm⟩ : ∃ m, d.bs.length = m := ⟨_, rfl⟩
  have Hm : Hid _ := hm
  rw [hm] at HD ⊢
  clear hm
  obtain ⟨W0, hW0⟩ : ∃ W0, w.alloc (.cells #[.int .i64 DP, .slice a n c, .slice a' m c'] 32) = W0 := ⟨_, rfl⟩
  have q0 : Below w.heap.size w W0 := by subst hW0; exact below_alloc _ _
  have HA : Hid (W0.heap[w.heap.size]? = some (.cells #[.int .i64 DP, .slice a n c, .slice a' m c'] 32 (0, 0))) := by subst hW0; exact al1 _ _
  obtain ⟨x0, x1, x2, -, -, -⟩ := box3_cells HA.out
  go_enter Try.func49, Try.ntmps49
  go_wp2_with fail
  refine (cB _ _ (HD.out _ q0)).mono ?_
  rintro e w1 ⟨rfl, b1⟩
  have g1 := Below.comp q0 b1
  clear x0 x1 x2 hW0 cB
  cases o with
  | false =>
    obtain ⟨rfl, rfl⟩ := HNo.out (by simp)
    go_wp2_with fail
    go_ret2
    exact ⟨rfl, g1⟩
  | true =>
    obtain ⟨⟨hG, hN⟩, rfl⟩ := HYes.out (by simp)
    obtain ⟨k, hk, hB, hNv⟩ := hNB.2 hG hN
    have hj := (good_bk hG s).2
    obtain ⟨h4, hris⟩ := good_names hG hj
    have hFN := hf.2.2 _ hj
    unfold bkL at *
    obtain ⟨bb, boff, rfl, hbc⟩ := HBk.out (by omega)
    obtain ⟨na, nc, y0, y1, y2, y3⟩ := (hbc _ hj).below g1
    rw [Hm.out] at hj
    clear hbc HNo HYes hG hN hNB hFN hf y0 y3
    generalize bkN d s = j at *
    generalize (gb d.bs j).ns = l at *
    have cS := searchName_any na l nc s k w1 (by omega) y2 hris hk
    have Hfl : Hid (hasN l s k = true → k < l.length ∧ ∃ b off, na = some ⟨b, off, none⟩ ∧ ∀ W, Below w1.heap.size w1 W → W.cell? ⟨b, off + k * 2 + 1, none⟩ = some (.int .i64 (gm l k).fl)) := fun h => by
      have hkl : k < l.length := by simp [hasN] at h; exact h.1
      obtain ⟨b, off, e, hcell⟩ := y2 (by omega)
      exact ⟨hkl, b, off, e, fun W hW => cell_on (hcell k hkl).2 hW⟩
    have HNv : Hid _ := hNv
    have HB : Hid _ := hB
    clear y2 hris hk hNv hB
    obtain ⟨r, hr⟩ : ∃ r, hasN l s k = r := ⟨_, rfl⟩
    rw [hr] at cS Hfl HNv HB
    clear hr
    obtain ⟨x0, x1, x2, -, -, -⟩ := box3_cells (box_on HA.out b1)
    have hjm : (j : Int) < (m : Int) := by omega
    obtain ⟨nl, hnl⟩ : ∃ nl, l.length = nl := ⟨_, rfl⟩
    rw [hnl] at cS Hfl y1 h4
    clear hnl
    go_wp2_with fail
    refine cS.mono ?_
    rintro e w2 ⟨rfl, b2⟩
    clear cS x0 x1 x2 y1
    have g2 := Below.comp g1 b2
    cases r with
    | false =>
      have h1 := HNv.out
      have h2 := HB.out
      simp only [cond_false] at h1
      subst h1 h2
      go_wp2_with fail
      go_ret2
      exact ⟨rfl, g2⟩
    | true =>
      obtain ⟨hkl, b, off, rfl, hcell⟩ := Hfl.out (by simp)
      have k0 := hcell w2 b2
      have h1 := HNv.out
      have h2 := HB.out
      simp only [cond_true] at h1
      rw [← h1] at k0
      clear h1 hcell HNv
      subst h2
      have hkl' : (k : Int) < (nl : Int) := by omega
      go_wp2_with fail
      go_ret2
      exact ⟨rfl, g2⟩
end Go.Proofs.Ytfmgaenedkjmkaa
