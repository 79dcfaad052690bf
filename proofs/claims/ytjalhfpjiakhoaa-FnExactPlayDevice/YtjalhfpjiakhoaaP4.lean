import Derived.Test.YtjalhfpjiakhoaaP3
import Derived.Deep.RegionLaw
namespace Go.Proofs.Ytjalhfpjiakhoaa
open Go.ChangeShapes Go.WideShapes Go.ChangeAt Go.RowKit
set_option linter.unusedVariables false

/-- The loop's state, where it may have failed. -/
def HeldO (w wr : World) (D : Nat) (o : Option Pst) : Prop :=
  ∃ x cx y cy B C, wr.heap[D]? = some (.cells #[.slice x (rN o) cx, .slice y (rM o) cy] 25 (0, 0)) ∧ MineD wr B C x y (rN o) (rM o) (rS o) (rT o) (rU o) ∧ w.heap.size < B ∧ C ≤ wr.heap.size ∧ (C ≤ D ∨ D < B)
theorem HeldO.next {w w2 w3 : World} {D : Nat} {o : Option Pst} {x y : Option Addr} {cx cy : Nat} {v0 v1 : Value} (hD : w.heap.size < D) (h2 : D < w2.heap.size) (hb : w3.heap[D]? = some (.cells #[v0, v1] 25 (0, 0))) (hm : MineD w3 w2.heap.size w3.heap.size x y (rN o) (rM o) (rS o) (rT o) (rU o)) :
    HeldO w ((w3.setCell ⟨D, 0, none⟩ (.slice x (rN o) cx)).setCell ⟨D, 1, none⟩ (.slice y (rM o) cy)) D o :=
  ⟨x, cx, y, cy, w2.heap.size, w3.heap.size, block_set (block_set hb), hm.out (((Out.refl D (D + 1) w3).setCell (by omega) (by omega) _ _).setCell (by omega) (by omega) _ _) (.inr h2), by omega, by simp, .inr h2⟩
theorem implNewStep (s : Int) (T : Nat → Int) (U : Nat → ByteArray) (w : World) : Calls Try.prog 13 #[.int .i64 s] w fun e w' => StepRes w w' e (play s T U 0) := by
  refine (implNew_any s w).mono fun e w' h => ?_
  unfold StepRes play
  cases hn : newOK s
  · rw [hn, show newN s = 0 by simp [newN, hn]] at h; exact h
  · rw [hn] at h; exact h

set_option maxHeartbeats 1600000 in
theorem implPlay_any (s : Int) (a : Option Addr) (l cap : Nat) (T : Nat → Int) (U : Nat → ByteArray) (w : World) (hl : l ≤ 1048576) (ha : At2 w a l T U) (hs : ∀ i, i < l → (U i).size ≤ 9223372036854775807) :
    Calls Try.prog 39 #[.int .i64 s, .slice a l cap] w fun e w' => StepRes w w' e (fin s T U l) := by
  have h0 : ∀ o1, Below w.heap.size w (w.alloc o1) := fun o1 => below_alloc _ _
  by_cases hbig : 200 < l
  · have ef : fin s T U l = none := by unfold fin; rw [if_neg (by omega)]
    rw [ef]
    have d2 : (200 : Int) < (l : Int) := by omega
    go_enter Try.func39, Try.ntmps39
    go_wp2
    exact bodyPost_ret (v := .tuple #[.agg #[.slice none 0 0, .slice none 0 0], .bool false]) (by simp [results, Try.results39, go_sem]) rfl (stepNone (below_alloc _ _))
  · have d2 : ¬ (200 : Int) < (l : Int) := by omega
    have ef : fin s T U l = play s T U l := by unfold fin; rw [if_pos (by omega)]
    rw [ef]
    go_enter Try.func39, Try.ntmps39
    go_wp2_with fail
    refine (implNewStep s T U _).mono ?_
    have P0 : Hid (play s T U 0 = play s T U 0) := rfl
    rintro e w1 ⟨b1, x, cx, y, cy, rfl, mw⟩
    have g := Below.comp (h0 _) b1
    have r0 : w1.cell? ⟨w.heap.size, 0, none⟩ = some (.slice none 0 0) := cell_on (cell_new0 w _ _ _) b1
    have r1 : w1.cell? ⟨w.heap.size, 1, none⟩ = some (.slice none 0 0) := cell_on (cell_new1 w _ _ _) b1
    have rf : ∀ q, w1.frozen? ⟨w.heap.size, q, none⟩ = false := fun q => by rw [b1.frozen (p := ⟨w.heap.size, q, none⟩) (by simp)]; simp [go_sem]
    have s1 : w.heap.size + 1 ≤ w1.heap.size := by have := b1.size; simpa using this
    have R0 : ∀ o, (w1.alloc o).cell? ⟨w.heap.size, 0, none⟩ = some (.slice none 0 0) := fun o => hold_on r0
    have R1 : ∀ o, (w1.alloc o).cell? ⟨w.heap.size, 1, none⟩ = some (.slice none 0 0) := fun o => hold_on r1
    have F0 : ∀ o, (w1.alloc o).frozen? ⟨w.heap.size, 0, none⟩ = false := fun o => ((below_alloc w1 o).frozen (p := ⟨w.heap.size, 0, none⟩) (by simp; omega)).trans (rf 0)
    have F1 : ∀ o, (w1.alloc o).frozen? ⟨w.heap.size, 1, none⟩ = false := fun o => ((below_alloc w1 o).frozen (p := ⟨w.heap.size, 1, none⟩) (by simp; omega)).trans (rf 1)
    clear h0 rf r0 r1
    obtain ⟨o, ho⟩ : ∃ o, o = play s T U 0 := ⟨_, rfl⟩
    rw [← ho] at mw ⊢
    have HO : Hid _ := ho
    clear ho
    go_wp2
    obtain ⟨W, hW⟩ : ∃ W, W = w1.alloc (.cells #[.slice x (rN o) cx, .slice y (rM o) cy] 25) := ⟨_, rfl⟩
    have hel : HeldO w W w1.heap.size o := by
      rw [hW]
      refine ⟨x, cx, y, cy, w.heap.size + 1, w1.heap.size, block_new rfl, ?_, by omega, by simp, .inl (Nat.le_refl _)⟩
      have := (mw.below (below_alloc w1 (.cells #[.slice x (rN o) cx, .slice y (rM o) cy] 25)))
      simpa using this
    have gW : Below w.heap.size w W := by rw [hW]; exact Below.comp g (below_alloc _ _)
    have RW0 := R0 (.cells #[.slice x (rN o) cx, .slice y (rM o) cy] 25)
    have RW1 := R1 (.cells #[.slice x (rN o) cx, .slice y (rM o) cy] 25)
    have FW0 := F0 (.cells #[.slice x (rN o) cx, .slice y (rM o) cy] 25)
    have FW1 := F1 (.cells #[.slice x (rN o) cx, .slice y (rM o) cy] 25)
    have sW : W.heap.size = w1.heap.size + 1 := by rw [hW]; simp
    rw [← hW] at RW0 RW1 FW0 FW1 ⊢
    generalize w1.heap.size = D at *
    have HH : Hid _ := hel
    have SW : Hid _ := sW
    have QW0 : Hid _ := RW0
    have QW1 : Hid _ := RW1
    have GW0 : Hid _ := FW0
    have GW1 : Hid _ := FW1
    clear hW hel mw R0 R1 F0 F1 b1 g sW RW0 RW1 FW0 FW1
    go_loopw [7, 8] (fun v i wr => ∃ (k : Nat) (p : Option Pst), k ≤ l ∧ i = .int .i64 k ∧ v = .bool p.isSome ∧ p = play s T U k ∧ HeldO w wr D p ∧ Below D W wr) (fun _ i _ => l - (intOf i).toNat)
    case atStart => exact ⟨0, _, Nat.zero_le _, rfl, rfl, HO.out, HH.out, Below.refl _ _⟩
    case round =>
      obtain ⟨k, p, hk, rfl, rfl, hp, hh, hb⟩ := hrel
      obtain ⟨x, cx, y, cy, B, C, hB, mw, hB1, hC, hBC⟩ := hh
      have c0 : wr.cell? ⟨D, 0, none⟩ = some (.slice x (rN p) cx) := cell_of_block hB rfl
      have c1 : wr.cell? ⟨D, 1, none⟩ = some (.slice y (rM p) cy) := cell_of_block hB rfl
      have q0 := (hb.cell (p := ⟨w.heap.size, 0, none⟩) (by simp; omega)).trans QW0.out
      have q1 := (hb.cell (p := ⟨w.heap.size, 1, none⟩) (by simp; omega)).trans QW1.out
      have qf0 := (hb.frozen (p := ⟨w.heap.size, 0, none⟩) (by simp; omega)).trans GW0.out
      have qf1 := (hb.frozen (p := ⟨w.heap.size, 1, none⟩) (by simp; omega)).trans GW1.out
      have hgr := gW.trans (hb.mono (by omega))
      cases p with
      | none =>
        have hr := play_none hp.symm l hk
        have HR : Hid _ := hr
        clear hr hp hB
        go_wp2
        exact bodyPost_ret (v := .tuple #[.agg #[.slice x (rN none) cx, .slice y (rM none) cy], .bool false]) (by simp [results, Try.results39, go_sem, q0, q1]) rfl (by rw [HR.out]; exact StepRes.through (o := none) (B := w.heap.size + 1) hgr (mw.mono (by omega) hC) (Nat.le_refl _) (by omega))
      | some p =>
        have hpg := play_good hp.symm
        by_cases hlt : k < l
        · have hlt' : (k : Int) < (l : Int) := by omega
          obtain ⟨b, off, rfl, hcell⟩ := (ha.below hgr) (by omega)
          obtain ⟨hck, hck2⟩ := hcell k hlt
          have hsk := hs k hlt
          have hbl := lt_of_cell hck
          have hDl : D < wr.heap.size := lt_of_cell c0
          clear hcell q0 q1 qf0 qf1
          have HP : Hid _ := hp
          have HB : Hid _ := hB
          clear hp hB
          have A1 : At wr.drew x p.n fun i => .string (p.S i) := mw.strs.below (Below.drew (Below.refl wr.heap.size wr))
          have A2 : At2 wr.drew y p.m p.T p.U := mw.wrts.below (Below.drew (Below.refl wr.heap.size wr))
          have KW : Hid _ := playWrite_any p hpg x y cx cy (T k) (U k)
          have S0 : rN (some p) = p.n := rfl
          have S1 : rM (some p) = p.m := rfl
          rw [S0] at c0
          rw [S1] at c1
          go_wp2
          go_region_law (go_simp; go_at_call 62; refine (KW.out _ A1 A2 hsk).mono ?_; rintro e w3 ⟨b3, x3, cx3, y3, cy3, rfl, mw3⟩; have hB3 : Hid (w3.heap[D]? = some (.cells #[.slice x p.n cx, .slice y p.m cy] 25 (0, 0))) := (b3.block _ (by simp; omega)).trans HB.out; have c30 : w3.cell? ⟨D, 0, none⟩ = some (.slice x p.n cx) := cell_of_block hB3.out rfl; have c31 : w3.cell? ⟨D, 1, none⟩ = some (.slice y p.m cy) := cell_of_block hB3.out rfl; have f30 := free_of_block (i := 0) hB3.out; have f31 := free_of_block (i := 1) hB3.out)
          all_goals go_wp2
          all_goals
            go_roundw
            case rel =>
              have b3' : Below D W w3 := hb.trans (((Below.drew (Below.refl wr.heap.size wr)).trans b3).mono (by omega))
              exact ⟨k + 1, plStep p (T k) (U k), by omega, by go_num, rfl, by rw [play, ← HP.out], HeldO.next (w2 := wr.drew) (by omega) (by simp; omega) hB3.out mw3, (b3'.setCell (by simp) _).setCell (by simp) _⟩
            case measure => simp [intOf]; omega
        · have hkl : k = l := by omega
          subst hkl
          have hr : play s T U k = some p := hp.symm
          have HR : Hid _ := hr
          clear hr hp hB
          go_wp2
          exact bodyPost_ret (v := .tuple #[.agg #[.slice x (rN (some p)) cx, .slice y (rM (some p)) cy], .bool true]) (by simp [results, Try.results39, go_sem, q0, q1]) rfl (by rw [HR.out]; exact StepRes.through (o := some p) (B := w.heap.size + 1) hgr (mw.mono (by omega) hC) (Nat.le_refl _) (by omega))
end Go.Proofs.Ytjalhfpjiakhoaa
