import Derived.Test.YtkpcbaapohdmfaaDoorV0
namespace Go.Proofs.YtkpcbaapohdmfaaDoor
open Go.ChangeShapes Go.WideShapes Go.ChangeAt Go.RowKit
set_option linter.unusedVariables false
open Ham

/-- The k-th word of a text. -/
def wd (s : ByteArray) (k : Nat) : Nat := bb s (2 * k + 1) * 256 + bb s (2 * k)
def wGood (s : ByteArray) (k : Nat) : Prop := wd s k < 8192 ∧ decC (wd s k) ≠ 2
instance (s : ByteArray) (k : Nat) : Decidable (wGood s k) := inferInstanceAs (Decidable (_ ∧ _))
/-- How many of the first k words had one bit turned. -/
def mc (s : ByteArray) : Nat → Nat
  | 0 => 0
  | k + 1 => if decC (wd s k) = 1 then mc s k + 1 else mc s k
theorem mc_le (s : ByteArray) : ∀ k, mc s k ≤ k
  | 0 => Nat.le_refl _
  | k + 1 => by have := mc_le s k; simp only [mc]; split <;> omega
def mdOk (s : ByteArray) : Bool := decide (s.size % 2 = 0 ∧ s.size ≤ 120 ∧ ∀ j, j < s.size / 2 → wGood s j)
def mdT (s : ByteArray) : ByteArray := bif mdOk s then tx (s.size / 2) (fun j => decN (wd s j)) else ⟨#[]⟩
def mdN (s : ByteArray) : Nat := bif mdOk s then mc s (s.size / 2) else 0
abbrev mdV (s : ByteArray) : Value := .tuple #[.string (mdT s), .int .i64 (mdN s : Nat), .bool (mdOk s)]
abbrev mdNo : Value := .tuple #[.string ⟨#[]⟩, .int .i64 0, .bool false]
theorem md_out {s : ByteArray} (h : ¬ (s.size % 2 = 0 ∧ s.size ≤ 120 ∧ ∀ j, j < s.size / 2 → wGood s j)) : mdV s = mdNo := by
  have e : mdOk s = false := decide_eq_false h
  unfold mdV mdT mdN; rw [e]; rfl
theorem md_in {s : ByteArray} (h : s.size % 2 = 0 ∧ s.size ≤ 120 ∧ ∀ j, j < s.size / 2 → wGood s j) : mdV s = .tuple #[.string (tx (s.size / 2) fun j => decN (wd s j)), .int .i64 (mc s (s.size / 2) : Nat), .bool true] := by
  have e : mdOk s = true := decide_eq_true h
  unfold mdV mdT mdN; rw [e]; rfl
theorem wd_or (s : ByteArray) (q k : Nat) (hq : q = 2 * k) : bits .or .i64 (bb s q : Nat) ((bb s (q + 1) : Nat) * 256 : Int) = ((wd s k : Nat) : Int) := by
  have h1 := bb_lt s q
  have h2 := bb_lt s (q + 1)
  have h := bits_i64_or (a := bb s q) (b := bb s (q + 1) * 256) (by omega) (by omega)
  have e : bb s q ||| bb s (q + 1) * 256 = wd s k := by
    have := Nat.two_pow_add_eq_or_of_lt (i := 8) h1 (bb s (q + 1))
    rw [Nat.or_comm, Nat.mul_comm, ← this]
    unfold wd; rw [hq, Nat.mul_comm]
  rw [e] at h
  simpa using h

set_option maxHeartbeats 2000000 in
theorem implMend_t (s : ByteArray) (w : World) (h2 : s.size % 2 = 0) (hs : s.size ≤ 120) (ht : Tab w) :
    Calls Tryd.prog 11 #[.string s] w fun e w' => e = .returned (mdV s) ∧ Below w.heap.size w w' := by
  obtain ⟨i0, hi, hz0, hz1, hz2⟩ := info_parts info5
  have hs' : ¬ (120 : Int) < (s.size : Int) := by omega
  have hpos := ht.pos
  have hev : ((s.size : Int) % 2 = 0) := by omega
  have hdl : ∀ j, decN (wd s j) < 256 := fun j => decN_lt _
  have HIN : Hid _ := @md_in s
  have HOUT : Hid _ := @md_out s
  go_enter Tryd.func11, Tryd.ntmps11
  go_wp2_with (at_make; refine wpList_make_own _ rfl _ _ 22 rfl w.heap.size 5 i0 (.int .u8 0) 1 Tryd.underlying22 hi hz0 hz1 _ _ _ (s.size / 2) rfl rfl (by omega) ?b2 ?b3 (Nat.le_refl _) ?_)
  case b2 => omega
  case b3 => unfold maxLen; omega
  intro w0 hown0 hgrow0
  have o0 : Own w.heap.size w0 (.slice (some ⟨w.heap.size, 0, none⟩) 0 (s.size / 2)) 0 (fun j => decN (wd s j)) := hown0
  have b0 : Below w.heap.size w w0 := (Below.refl _ _).grown hgrow0 (Nat.le_refl _) (fun k h => by cases h)
  clear hown0 hgrow0
  go_wp2
  go_loopw [5, 6, 7] (fun v m i wr => ∃ (k q : Nat), Hid (q = 2 * k) ∧ q ≤ s.size ∧ i = .int .i64 q ∧ m = .int .i64 (mc s k : Nat) ∧ Own w.heap.size wr v k (fun j => decN (wd s j)) ∧ Hid (∀ j, j < k → wGood s j) ∧ Below w.heap.size w wr) (fun _ _ i _ => s.size - (intOf i).toNat)
  case atStart => exact ⟨0, 0, rfl, Nat.zero_le _, rfl, rfl, o0, fun j hj => absurd hj (by omega), b0⟩
  case round =>
    obtain ⟨k, q, hqk, hq, rfl, rfl, hO, hG, hB⟩ := hrel
    clear o0 b0
    by_cases hlt : q < s.size
    · have hlt' : (q : Int) < (s.size : Int) := by omega
      have hidx := run_idx s q hlt
      have hidx1 : ∀ u : World, (Instr.index 9 (.string s) (.int .i64 ((q : Int) + 1))).run Tryd.prog u = .ok (.int .u8 (bb s (q + 1) : Nat)) u := run_idx s (q + 1) (by have := hqk.out; omega)
      have hlt1 : (q : Int) + 1 < (s.size : Int) := by have := hqk.out; omega
      have hlt0 : 0 ≤ (q : Int) + 1 := by omega
      have hwq : IntKind.i64.wrap ((q : Int) + 1) = (q : Int) + 1 := wrap_i64 (n := q + 1) (by omega)
      have hor := wd_or s q k hqk.out
      have hb0 := bb_lt s q
      have hb1 := bb_lt s (q + 1)
      have SB : Hid (∀ W, Below wr.heap.size wr W → Below wr.heap.size wr W) := fun _ h => h
      have hX : ∃ X : Int, X = ((wd s k : Nat) : Int) := ⟨_, rfl⟩
      generalize hx0 : bb s q = x0 at *
      generalize hx1 : bb s (q + 1) = x1 at *
      have hw0 : IntKind.i64.wrap (x0 : Int) = (x0 : Int) := wrap_i64 (by omega)
      have hw1 : IntKind.i64.wrap (x1 : Int) = (x1 : Int) := wrap_i64 (by omega)
      have hw2 : IntKind.i64.wrap ((x1 : Int) * 256) = (x1 : Int) * 256 := wrap_i64 (n := x1 * 256) (by omega)
      go_wp2
      go_cut [8, 9, 10] from 24 to 60 (fun a b c wx => a = .int .i64 (hdN (wd s k : Nat)) ∧ b = .int .i64 (hdC (wd s k : Nat)) ∧ c = .bool (hdB (wd s k : Nat)) ∧ Below wr.heap.size wr wx)
      case first =>
        have n0 : Below wr.heap.size wr wr.drew := (Below.refl _ _).drew
        go_region_held3 (fun W => Below wr.heap.size wr W)
          ((refine SB.out _ ?_; first | assumption | exact Below.drew (Below.refl _ _)))
          (first | (go_at_call 17; refine (implHD_any (wd s k : Nat) _ (ht.below (hB.trans (Below.mono (by assumption) hB.size)) hpos)).mono ?_; rintro e w1 ⟨rfl, g1⟩; have g2 := Below.comp (by assumption) g1))
        all_goals go_wp2_with fail
        all_goals go_meet
        all_goals exact ⟨rfl, rfl, rfl, by assumption⟩
      obtain ⟨rfl, rfl, rfl, g1⟩ := hcut
      generalize wc = w1 at *
      have hO1 := hO.below g1
      have hB1 := hB.trans (g1.mono hB.size)
      have hz1' := hB1.size
      clear hO hB g1 SB hidx hidx1 hor hw0 hw1 hw2 hx0 hx1 hb0 hb1 hX
      by_cases hg : wGood s k
      · obtain ⟨e1, e2, e3⟩ := hd_in hg.1
        rw [e1, e2, e3]
        have hc2 : ¬ ((decC (wd s k) : Nat) : Int) = 2 := by have := hg.2; omega
        have HN : Hid _ := byl_one (fun j => decN (wd s j)) k
        have hdk := hdl k
        have HG : Hid (∀ j, j < k + 1 → wGood s j) := fun j hj => by
          by_cases e : j = k
          · rw [e]; exact hg
          · exact hG.out j (by omega)
        have HQ : Hid (q + 2 = 2 * (k + 1)) := show q + 2 = 2 * (k + 1) by have := hqk.out; omega
        have hml := mc_le s k
        have hkl : k ≤ 60 := by have := hqk.out; omega
        have hql : q + 2 ≤ s.size := by have := hqk.out; omega
        have hmc : mc s (k + 1) = if decC (wd s k) = 1 then mc s k + 1 else mc s k := rfl
        clear e1 e2 e3 hG hg hlt1 hlt0
        generalize hcc : decC (wd s k) = C at *
        generalize hdd : decN (wd s k) = X at *
        have hmod : (X : Int) % 256 = (X : Int) := by omega
        by_cases h1 : C = 1
        · rw [if_pos h1] at hmc
          have HM : Hid _ := hmc
          subst h1
          clear hmc hdd hcc
          go_wp2_with (at_builtin; refine wpList_append_own _ rfl _ _ 22 rfl w.heap.size 5 i0 (.int .u8 0) 1 1 Tryd.underlying22 hi hz0 hz1 hz2 rfl (by decide) u5 k (byl (fun j => decN (wd s j)) k) rfl (hO1.below (below_alloc _ _)) ⟨w1.heap.size, 0, none⟩ 1 1 [.int .u8 (X : Int)] rfl rfl (news1 _ _ _) (one1 _ _) (by unfold maxLen; omega) (by omega) (by simp; omega) ?_; intro v' w2 hown2 hgrow _)
          rw [HN.out] at hown2
          have b2 : Below w.heap.size w w2 := (hB1.alloc hB1.size _).grown hgrow (by simp; omega) hO1.block
          go_roundw
          case rel => exact ⟨k + 1, q + 2, HQ, hql, by go_num, by rw [HM.out]; go_num, hown2, HG, b2⟩
          case measure => simp [intOf]; omega
        · rw [if_neg h1] at hmc
          have HM : Hid _ := hmc
          have h1' : ¬ (C : Int) = 1 := by omega
          clear hmc hdd hcc
          go_wp2_with (at_builtin; refine wpList_append_own _ rfl _ _ 22 rfl w.heap.size 5 i0 (.int .u8 0) 1 1 Tryd.underlying22 hi hz0 hz1 hz2 rfl (by decide) u5 k (byl (fun j => decN (wd s j)) k) rfl (hO1.below (below_alloc _ _)) ⟨w1.heap.size, 0, none⟩ 1 1 [.int .u8 (X : Int)] rfl rfl (news1 _ _ _) (one1 _ _) (by unfold maxLen; omega) (by omega) (by simp; omega) ?_; intro v' w2 hown2 hgrow _)
          rw [HN.out] at hown2
          have b2 : Below w.heap.size w w2 := (hB1.alloc hB1.size _).grown hgrow (by simp; omega) hO1.block
          go_roundw
          case rel => exact ⟨k + 1, q + 2, HQ, hql, by go_num, by rw [HM.out], hown2, HG, b2⟩
          case measure => simp [intOf]; omega
      · have hno : mdV s = mdNo := HOUT.out fun h => hg (h.2.2 k (by have := hqk.out; omega))
        have HNO : Hid _ := hno
        clear hno
        by_cases hlt8 : wd s k < 8192
        · obtain ⟨e1, e2, e3⟩ := hd_in hlt8
          have hc2 : decC (wd s k) = 2 := by
            rcases Nat.decEq (decC (wd s k)) 2 with q | q
            · exact absurd ⟨hlt8, q⟩ hg
            · exact q
          rw [e1, e2, e3, hc2]
          clear e1 e2 e3 hc2 hg HIN HOUT
          go_wp2
          go_ret3
          exact ⟨by rw [HNO.out]; rfl, hB1⟩
        · obtain ⟨e1, e2, e3⟩ := hd_out (n := (wd s k : Nat)) (by omega)
          rw [e1, e2, e3]
          clear e1 e2 e3 hg HIN HOUT
          go_wp2
          go_ret3
          exact ⟨by rw [HNO.out]; rfl, hB1⟩
    · obtain rfl : q = s.size := by omega
      have hk2 : s.size / 2 = k := by have := hqk.out; omega
      have hlt' : ¬ (s.size : Int) < (s.size : Int) := by omega
      have hyes := HIN.out ⟨h2, hs, fun j hj => hG.out j (by omega)⟩
      rw [hk2] at hyes
      have HY : Hid _ := hyes
      obtain ⟨a, cap, rfl, hat⟩ := hO.slice
      have hcv := conv_any cap hdl hat
      clear hO hat hyes HIN HOUT
      go_wp2
      go_ret3
      exact ⟨by rw [HY.out]; rfl, hB⟩
end Go.Proofs.YtkpcbaapohdmfaaDoor
