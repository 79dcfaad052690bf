import Derived.Test.YtfmgaenedkjmkaaD3
/- Rows of ints joined by the library. -/
namespace Go.Proofs.Ytfmgaenedkjmkaa
open Go.ChangeShapes Go.WideShapes Go.ChangeAt Go.RowKit
set_option linter.unusedVariables false
open Hd

attribute [local go_sem] Oper.semAt_some

set_option maxRecDepth 10000 in
theorem GrowI_any (n : Nat) (w : World) (hn : n ≤ 100000) :
    Calls Try.prog 92 #[.slice none 0 0, .int .i64 n] w fun e w' => Below w.heap.size w w' ∧ ∃ x c, e = .returned (.slice x 0 c) ∧ OwnI w' w.heap.size (.slice x 0 c) [] := by
  by_cases h0 : n = 0
  · subst h0
    go_enter Try.func92, Try.ntmps92
    go_wp2
    go_ret
    exact ⟨Below.refl _ _, _, _, rfl, OwnI.nil _ _⟩
  · obtain ⟨i, hi, hz0, hz1, hz2⟩ := info_parts info3
    have happ := Lib.run_append_nil_zeros (P := Try.prog) w 22 3 22 3 i (.int .i64 0) .i64 .i64 Try.underlying22 Try.underlying3 hi hz0 n (by omega) (by rw [hz1]; omega) (by omega) (by rw [hz2]; omega)
    generalize hcap : grownCap w n 0 3 = cap2 at happ
    have hcapge : n ≤ cap2 := by rw [← hcap]; exact grownCap_ge w _ 0 3
    have hcaple : cap2 ≤ maxLen := by rw [← hcap]; exact grownCap_le_maxLen w _ 0 3 (by unfold maxLen; omega)
    generalize hZ : (Builtin.zeroCells (Value.int .i64 0).cells n ++ Builtin.zeroCells (Value.int .i64 0).cells (cap2 - n)) = Z at happ
    have hZs : Z.size = cap2 * 1 := by rw [← hZ]; simp [size_zeroCells, Value.cells]; omega
    clear hcap hZ
    have h0' : (0 : Int) < (n : Int) := by omega
    have hsl := slice_to (some ⟨w.heap.size, 0, none⟩) n cap2 0 (Nat.zero_le _)
    have hs0 : subA (some ⟨w.heap.size, 0, none⟩) 0 cap2 = some ⟨w.heap.size, 0, none⟩ := by
      unfold subA
      split
      · rfl
      · simp [Addr.add]
    rw [hs0] at hsl
    clear hi hz0 hz1 hz2 hs0 h0
    go_enter Try.func92, Try.ntmps92
    go_wp2_with (at_builtin; refine Lib.wpList_append_run _ rfl _ _ _ _ rfl _ _ rfl rfl _ _ happ ?_)
    go_ret
    refine ⟨(Below.refl _ _).drew.alloc (Nat.le_refl _) _, _, _, rfl, rfl, .inr ⟨w.heap.size, cap2, Z, rfl, Nat.le_refl _, heap_alloc_new w.drew _, Nat.zero_le _, hcaple, hZs, rfl⟩⟩

/-- So many lists, one behind the other. -/
def flatI (L : Nat → List Int) : Nat → List Int
  | 0 => []
  | n + 1 => flatI L n ++ L n
theorem flatI_len (L : Nat → List Int) : ∀ n, (flatI L (n + 1)).length = (flatI L n).length + (L n).length := fun n => by simp [flatI]

set_option maxHeartbeats 1000000 in
theorem ConcatI_any (b n cap : Nat) (A : Nat → Option Addr) (C : Nat → Nat) (L : Nat → List Int) (w : World) (hn : n ≤ 3) (hl : ∀ i, i < n → (L i).length ≤ 1000) (hc : ∀ i, i < n → w.cell? ⟨b, i, none⟩ = some (.slice (A i) (L i).length (C i))) (hr : ∀ i, i < n → Ints w (A i) (L i)) :
    Calls Try.prog 84 #[.slice (some ⟨b, 0, none⟩) n cap] w fun e w' => Below w.heap.size w w' ∧ ∃ x c, e = .returned (.slice x (flatI L n).length c) ∧ OwnI w' w.heap.size (.slice x (flatI L n).length c) (flatI L n) := by
  have hfl : ∀ k, k ≤ n → (flatI L k).length ≤ k * 1000 := fun k => by
    induction k with
    | zero => simp [flatI]
    | succ k ih => intro h; have := ih (by omega); have := hl k (by omega); rw [flatI_len]; omega
  have Hfl : Hid _ := hfl
  have Hr : Hid _ := hr
  have Hl : Hid _ := hl
  clear hfl hr hl
  go_enter Try.func84, Try.ntmps84
  go_wp2
  go_loop [11, 3] (fun i q => ∃ (k : Nat), k ≤ n ∧ i = .int .i64 k ∧ q = .int .i64 ((flatI L k).length : Nat)) (fun i _ => n - (intOf i).toNat)
  case atStart => exact ⟨0, Nat.zero_le _, rfl, rfl⟩
  case round =>
    obtain ⟨k, hk, rfl, rfl⟩ := hrel
    by_cases hlt : k < n
    · have hck := hc k hlt
      have h1 := Hfl.out k hk
      have h2 := Hl.out k hlt
      have h3 := flatI_len L k
      generalize hq1 : (flatI L k).length = q1 at *
      generalize hq2 : (L k).length = q2 at *
      have h4 : ¬ ((q1 : Int) + (q2 : Int) < 0) := by omega
      have H3 : Hid _ := h3
      clear h3 hq1 hq2 hc
      go_wp2
      go_round
      case rel => exact ⟨k + 1, by omega, by go_num, by rw [H3.out]; simp⟩
      case measure => simp [intOf]; omega
    · have hkn : k = n := by omega
      subst hkn
      have h1 := Hfl.out k (Nat.le_refl _)
      have cGr := GrowI_any (flatI L k).length w (by omega)
      go_wp2_with fail
      refine cGr.mono ?_
      rintro e w1 ⟨b1, x, c, rfl, own1⟩
      clear cGr
      have HO : Hid (OwnI w1 w.heap.size (.slice x 0 c) []) := own1
      clear own1
      go_wp2
      go_loopw [27, 6] (fun i o wr => ∃ (j : Nat) (y : Option Addr) (cy : Nat), j ≤ k ∧ i = .int .i64 j ∧ o = .slice y (flatI L j).length cy ∧ Hid (OwnI wr w.heap.size (.slice y (flatI L j).length cy) (flatI L j)) ∧ Below w.heap.size w wr) (fun i _ _ => k - (intOf i).toNat)
      case atStart => exact ⟨0, x, c, Nat.zero_le _, rfl, rfl, HO, b1⟩
      case round =>
        obtain ⟨j, y, cy, hj, rfl, rfl, HJ, hb⟩ := hrel
        by_cases hjk : j < k
        · have hcj := cell_on (hc j hjk) hb
          clear hc
          have st := At.src ((Hr.out j hjk).below hb)
          have h2 := Hl.out j hjk
          have h3 := Hfl.out j hj
          have hcl := cis_len (L j)
          have z := hb.size
          have ho := HJ.out
          have e1 : (flatI L (j + 1)).length = (flatI L j).length + (L j).length := flatI_len L j
          have e2 : cis (flatI L (j + 1)) = cis (flatI L j) ++ cis (L j) := by rw [flatI, cis_app]
          have HE : Hid _ := And.intro e1 e2
          have Hcl : Hid _ := hcl
          clear e1 e2 hcl
          have HOJ : Hid (wr.ownsRow w.heap.size 3 1 (.slice y (flatI L j).length cy) (flatI L j).length (cis (flatI L j))) := ho
          clear ho
          generalize (flatI L j).length = q1 at *
          generalize (L j).length = q2 at *
          go_wp2_with (at_builtin; refine wpList_append_src rfl _ _ 22 rfl w.heap.size 3 _ 1 8 Try.underlying22 info3 rfl (by decide) (.slice y q1 cy) q1 (cis (flatI L j)) rfl HOJ.out (A j) q2 (C j) (cis (L j)) rfl (by rw [Hcl.out, Nat.mul_one]) st (cis_one _) (by omega) (by decide) z ?_; intro v2 w2 own2 gr2; obtain ⟨y2, c2, e2⟩ := owns_form own2; subst e2; have b2 : Below w.heap.size w w2 := hb.trans (Grown.below gr2 z (owns_ge HOJ.out)); have HO2 : Hid (w2.ownsRow w.heap.size 3 1 (.slice y2 (q1 + q2) c2) (q1 + q2) (cis (flatI L j) ++ cis (L j))) := own2; clear own2 gr2)
          go_roundw
          case rel => exact ⟨j + 1, y2, c2, by omega, by go_num, by rw [HE.out.1], by show OwnI _ _ _ _; unfold OwnI; rw [HE.out.1, HE.out.2]; exact HO2.out, b2⟩
          case measure => simp [intOf]; omega
        · have hjk' : j = k := by omega
          subst hjk'
          go_wp2
          go_ret
          exact ⟨hb, y, cy, rfl, HJ.out⟩
end Go.Proofs.Ytfmgaenedkjmkaa
