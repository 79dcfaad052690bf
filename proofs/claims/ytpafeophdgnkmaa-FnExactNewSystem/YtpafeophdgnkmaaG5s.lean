import Derived.Test.YtpafeophdgnkmaaS2
import Derived.Test.YtpafeophdgnkmaaG4
/- Free room that is good: the program's look. -/
namespace Go.Proofs.Ytpafeophdgnkmaa
open Go.ChangeShapes Go.WideShapes Go.ChangeAt Go.RowKit
set_option linter.unusedVariables false
open Room

attribute [local go_sem] Oper.semAt_some

theorem drop_gx {l : List Ex} {k : Nat} (h : k < l.length) : l.drop k = gx l k :: l.drop (k + 1) := by
  rw [gx_eq h, List.drop_eq_getElem_cons h]

theorem sizesOf_any (a : Option Addr) (ca : Nat) (l : List Ex) (w : World) (b : Int) (hP : Pl b l) (hn : l.length ≤ 1048576) (ha : Exs w a l) :
    Calls Try.prog 26 #[.slice a l.length ca] w fun e w' => Below w.heap.size w w' ∧ ∃ y cy, e = .returned (.slice y l.length cy) ∧ Exs w' y (srt l) := by
  have c66 := copyList_any a ca l w hn ha
  obtain ⟨E, hE⟩ : ∃ E, w.heap.size = E := ⟨_, rfl⟩
  have c67 := fun W c h1 h2 => SortFunc_any E l.length l W b hP hn c h1 h2
  rw [hE] at c66
  have HE : Hid _ := hE
  clear hE ha
  generalize l.length = n at *
  go_enter Try.func26, Try.ntmps26
  go_wp2_with fail
  refine c66.mono ?_
  rintro e w1 ⟨g1, rfl, c, hc1, hc2⟩
  have HC : Hid _ := hc1
  clear hc1 c66
  go_wp2_with fail
  refine (c67 _ c HC.out hc2).mono ?_
  rintro e w2 ⟨rfl, o2, x2⟩
  have g2 : Below w.heap.size w w2 := (HE.out.symm ▸ g1 : Below w.heap.size w w1).trans (HE.out.symm ▸ (o2.below (by have := box_lt HC.out; omega)))
  go_wp2
  go_ret
  exact ⟨by first | exact g2 | exact (HE.out ▸ g2), _, _, rfl, x2⟩

set_option maxHeartbeats 1000000 in
theorem implGood_any (b : Int) (a : Option Addr) (ca : Nat) (a' : Option Addr) (ca' : Nat) (l s : List Ex) (w : World) (hn : l.length ≤ 1048576) (hn' : s.length ≤ 1048576) (hx : ∀ x, x ∈ l → x.1 ≤ 9223372036854775807) (ha : Exs w a l) (ha' : Exs w a' s) :
    Calls Try.prog 43 #[fv b a l.length ca a' s.length ca'] w fun e w' => e = .returned (.bool (good b l s)) ∧ Below w.heap.size w w' := by
  obtain ⟨D, hD⟩ : ∃ D, w.heap.size = D := ⟨_, rfl⟩
  obtain ⟨W0, hW0⟩ : ∃ W0, w.alloc (.cells #[.int .i64 b, .slice a l.length ca, .slice a' s.length ca'] 24) = W0 := ⟨_, rfl⟩
  have hb0' : Below w.heap.size w W0 := by subst hW0; exact below_alloc _ _
  have B1 : W0.heap[D]? = some (.cells #[.int .i64 b, .slice a l.length ca, .slice a' s.length ca'] 24 (0, 0)) := by subst hW0 hD; exact al1 _ _
  have HB : Hid _ := B1
  obtain ⟨i0, i1, i2, -, -, -⟩ := box3_cells B1
  clear B1
  by_cases h1 : b < 1
  · have hg : good b l s = false := by unfold good; simp; omega
    rw [hg]
    go_enter Try.func43, Try.ntmps43
    go_wp2
    go_ret
    exact ⟨rfl, by first | exact hb0' | (rw [← hD]; exact hb0')⟩
  by_cases h2 : 400 < b
  · have hg : good b l s = false := by unfold good; simp; omega
    rw [hg]
    go_enter Try.func43, Try.ntmps43
    go_wp2
    go_ret
    exact ⟨rfl, by first | exact hb0' | (rw [← hD]; exact hb0')⟩
  by_cases h3 : (60 : Int) < (l.length : Int)
  · have hg : good b l s = false := by unfold good; simp; omega
    rw [hg]
    go_enter Try.func43, Try.ntmps43
    go_wp2
    go_ret
    exact ⟨rfl, by first | exact hb0' | (rw [← hD]; exact hb0')⟩
  have hg : good b l s = (plc b 0 l && decide (srt l = s)) := by
    unfold good
    have e1 : decide (1 ≤ b) = true := by simp; omega
    have e2 : decide (b ≤ 400) = true := by simp; omega
    have e3 : decide (l.length ≤ 60) = true := by simp; omega
    rw [e1, e2, e3]; rfl
  obtain ⟨r, hr⟩ : ∃ r, good b l s = r := ⟨_, rfl⟩
  rw [hr]
  have HG : Hid (r = (plc b 0 l && decide (srt l = s))) := hr ▸ hg
  clear hg hr
  go_enter Try.func43, Try.ntmps43
  go_wp2
  clear hW0
  have HI : Hid (W0.cell? ⟨D, 0, none⟩ = _ ∧ W0.cell? ⟨D, 1, none⟩ = _ ∧ W0.cell? ⟨D, 2, none⟩ = _) := ⟨i0, i1, i2⟩
  clear i0 i1 i2
  go_loopw [23, 3] (fun i m wr => ∃ (k : Nat) (q : Int), k ≤ l.length ∧ i = .int .i64 k ∧ m = .int .i64 q ∧ 0 ≤ q ∧ q ≤ 401 ∧ Hid (plc b 0 l = plc b q (l.drop k)) ∧ Below W0.heap.size W0 wr) (fun i _ _ => l.length - (intOf i).toNat)
  case atStart => exact ⟨0, 0, Nat.zero_le _, rfl, rfl, by omega, by omega, by simp [Hid], Below.refl _ _⟩
  case round =>
    obtain ⟨k, m, hk, rfl, rfl, hm0, hm1, HP, hb⟩ := hrel
    have hbw := Below.comp hb0' hb
    by_cases hlt : k < l.length
    · have hxk : (gx l k).1 ≤ 9223372036854775807 := by rw [gx_eq hlt]; exact hx _ (List.getElem_mem hlt)
      have hd := drop_gx hlt
      obtain ⟨bb, off, rfl, hcell⟩ := (ha.below hbw) (by omega)
      obtain ⟨k0, k1⟩ := hcell k hlt
      clear hcell
      generalize gx l k = x at k0 k1 hxk hd
      have HDr : Hid _ := hd
      clear hd
      obtain ⟨p, q⟩ := x
      simp only at k0 k1 hxk
      obtain ⟨E, hE⟩ : ∃ E, wr.heap.size = E := ⟨_, rfl⟩
      obtain ⟨W1, hW1⟩ : ∃ W1, wr.alloc (.cells #[.int .i64 p, .int .i64 q] 36) = W1 := ⟨_, rfl⟩
      have b1 : Below W0.heap.size W0 W1 := by subst hW1; exact Below.comp hb (below_alloc _ _)
      have HE : Hid (W1.heap[E]? = some (.cells #[.int .i64 p, .int .i64 q] 36 (0, 0))) := by subst hW1 hE; exact al1 _ _
      obtain ⟨i0, i1, i2, -, -, -⟩ := box3_cells (box_on HB.out b1)
      obtain ⟨e0, e1, -, -⟩ := box2_cells HE.out
      have hpl : plc b 0 l = (decide (m ≤ p) && (inB b (p, q) && plc b (fin (p, q) + 1) (l.drop (k + 1)))) := by rw [HP.out, HDr.out]; rfl
      by_cases h4 : p < m
      · have hr : r = false := by
          rw [HG.out, hpl]
          simp; omega
        subst hr
        clear hpl
        go_wp2
        go_ret
        exact ⟨rfl, Below.comp hb0' b1⟩
      · have c52 := fun W => isWithin_any (p, q) b W (by omega) (by omega) hxk
        cases hin : inB b (p, q) with
        | false =>
          rw [hin] at c52
          have hr : r = false := by
            rw [HG.out, hpl, hin]
            simp
          subst hr
          clear hpl
          go_wp2_with (go_at_call 59; refine (c52 _).mono ?_; rintro e w1 ⟨rfl, g1⟩)
          go_ret
          exact ⟨rfl, Below.comp (Below.comp hb0' b1) g1⟩
        | true =>
          rw [hin] at c52
          have hin' := inB_iff.1 hin
          simp only at hin'
          have c56 := fun W => endOf_any (p, q) W (by unfold fin; simp only; omega) (by unfold fin; simp only; omega)
          have hpl' : plc b 0 l = plc b (fin (p, q) + 1) (l.drop (k + 1)) := by
            rw [hpl, hin]
            have : decide (m ≤ p) = true := by simp; omega
            rw [this]; rfl
          have HPL : Hid _ := hpl'
          have hf0 : 0 ≤ fin (p, q) ∧ fin (p, q) ≤ 400 := by unfold fin; simp only; omega
          clear hpl hpl' hin
          generalize fin (p, q) = F at *
          go_wp2_with (first
            | (go_at_call 59; refine (c52 _).mono ?_; rintro e w1 ⟨rfl, g1⟩; obtain ⟨e0', e1', -, -⟩ := box2_cells (box_on HE.out g1))
            | (go_at_call 40; refine (c56 _).mono ?_; rintro e w2 ⟨rfl, g2⟩))
          go_roundw
          case rel => exact ⟨k + 1, F + 1, by omega, by go_num, rfl, by omega, by omega, HPL, Below.comp (Below.comp b1 g1) g2⟩
          case measure => simp [intOf]; omega
    · have hkn : k = l.length := by omega
      have hP : plc b 0 l = true := by rw [HP.out, hkn, List.drop_length]; rfl
      have hr : r = decide (srt l = s) := by rw [HG.out, hP, Bool.true_and]
      have hPl := plc0.1 hP
      obtain ⟨i0, i1, i2, -, -, -⟩ := box3_cells (box_on HB.out hb)
      have c73 := fun W h => sizesOf_any a ca l W b hPl hn (ha.below h)
      have c69 := fun W y cy h1 h2 => Equal_any y a' cy ca' (srt l) s W (by rw [len_srt]; exact hn) hn' h1 h2
      rw [len_srt, ← hr] at c69
      have HA : Hid (Exs w a' s) := ha'
      have HRow : Hid (∀ W y, Exs W y (srt l) → Exs W y (srt l)) := fun _ _ h => h
      have hBw := box_on HB.out hb
      have SB : Hid (∀ W, Below wr.heap.size wr W → W.cell? ⟨D, 1, none⟩ = some (.slice a l.length ca) ∧ W.cell? ⟨D, 2, none⟩ = some (.slice a' s.length ca') ∧ Below wr.heap.size wr W) := fun W z => by
        obtain ⟨h0, h1, h2, -⟩ := box3_cells (box_on hBw z)
        exact ⟨h1, h2, z⟩
      clear hP HP HG hPl hr ha ha' hx i0 i1 i2 hBw
      clear hkn
      generalize l.length = n at *
      generalize s.length = n' at *
      go_wp2
      go_region_held3 (fun W => W.cell? ⟨D, 1, none⟩ = some (.slice a n ca) ∧ W.cell? ⟨D, 2, none⟩ = some (.slice a' n' ca') ∧ Below wr.heap.size wr W)
        ((refine SB.out _ ?_; first | assumption | exact Below.drew (Below.refl _ _)))
        (first
        | (go_at_call 26; obtain ⟨-, -, hw0⟩ := ‹_ ∧ _ ∧ Below wr.heap.size wr _›; refine (c73 _ (Below.comp hbw hw0)).mono ?_; rintro e w1 ⟨g1, y, cy, rfl, x1⟩; have g2 := Below.comp hw0 g1; clear hw0)
        | (go_at_call 60; refine (c69 _ y cy x1 (HA.out.below (Below.comp hbw g2))).mono ?_; rintro e w2 ⟨rfl, g3⟩; have g4 := Below.comp g2 g3.below))
      all_goals go_wp2
      all_goals
        go_ret
        exact ⟨rfl, Below.comp hbw (by assumption)⟩
end Go.Proofs.Ytpafeophdgnkmaa
