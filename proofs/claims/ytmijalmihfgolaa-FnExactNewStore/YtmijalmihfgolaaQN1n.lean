import Derived.Test.YtmijalmihfgolaaQX2c
import Derived.Deep.RegionLaw
namespace Go.Proofs.Ytmijalmihfgolaa
open Go.ChangeShapes Go.WideShapes Go.ChangeAt Go.RowKit
set_option linter.unusedVariables false
open Tx

attribute [local go_sem] Oper.semAt_some

set_option maxHeartbeats 800000 in
theorem l1Zeros_any (w : World) : Calls Try.prog 38 #[.int .i64 8] w fun e w' => e = .returned (.string zeros8) ∧ Below w.heap.size w w' := by
  have hmk : ∀ w, (Instr.makeSlice 57 (.int .i64 8) (.int .i64 8)).run Try.prog w = .ok (.slice (some ⟨w.heap.size, 0, none⟩) 8 8) (w.alloc (.cells #[.int .u8 0, .int .u8 0, .int .u8 0, .int .u8 0, .int .u8 0, .int .u8 0, .int .u8 0, .int .u8 0] 5)) := fun _ => by kernel_rfl
  have hcv : ∀ w : World, (convert 57 9 (.slice (some ⟨w.heap.size, 0, none⟩) 8 8)).run Try.prog (w.alloc (.cells #[.int .u8 0, .int .u8 0, .int .u8 0, .int .u8 0, .int .u8 0, .int .u8 0, .int .u8 0, .int .u8 0] 5)) = .ok (.string zeros8) (w.alloc (.cells #[.int .u8 0, .int .u8 0, .int .u8 0, .int .u8 0, .int .u8 0, .int .u8 0, .int .u8 0, .int .u8 0] 5)) := fun w => conv_zeros (fun j hj => by
    match j, hj with
    | 0, _ => simp [go_sem]
    | 1, _ => simp [go_sem]
    | 2, _ => simp [go_sem]
    | 3, _ => simp [go_sem]
    | 4, _ => simp [go_sem]
    | 5, _ => simp [go_sem]
    | 6, _ => simp [go_sem]
    | 7, _ => simp [go_sem])
  go_enter Try.func38, Try.ntmps38
  go_wp2
  go_ret
  exact ⟨rfl, below_alloc _ _⟩

set_option maxHeartbeats 800000 in
theorem implNew_any (s : Int) (w : World) : Calls Try.prog 21 #[.int .i64 s] w fun e w' => DevRes w w' e (newN s) 0 (newOK s) newS noT noU := by
  by_cases h1 : s < 1
  · have e1 : newOK s = false := decide_eq_false (by omega)
    have e0 : newN s = 0 := by simp [newN, e1]
    rw [e0, e1]
    clear e0 e1
    have d1 : decide (s < 1) = true := by simp; omega
    go_enter Try.func21, Try.ntmps21
    go_wp2
    exact bodyPost_ret (v := .tuple #[.agg #[.slice none 0 0, .slice none 0 0], .bool false]) (by simp [results, Try.results21, go_sem]) rfl (DevRes.none (below_alloc _ _) _ _ _)
  have d1 : decide (s < 1) = false := by simp; omega
  by_cases h2 : 32 < s
  · have e1 : newOK s = false := decide_eq_false (by omega)
    have e0 : newN s = 0 := by simp [newN, e1]
    rw [e0, e1]
    clear e0 e1
    have d2 : decide (32 < s) = true := by simp; omega
    go_enter Try.func21, Try.ntmps21
    go_wp2
    exact bodyPost_ret (v := .tuple #[.agg #[.slice none 0 0, .slice none 0 0], .bool false]) (by simp [results, Try.results21, go_sem]) rfl (DevRes.none (below_alloc _ _) _ _ _)
  have d2 : decide (32 < s) = false := by simp; omega
  obtain ⟨n, rfl⟩ : ∃ n : Nat, s = n := ⟨s.toNat, by omega⟩
  have e1 : newOK n = true := decide_eq_true (by omega)
  have e0 : newN n = n := by simp [newN, e1]
  rw [e0, e1]
  clear e0 e1
  have hmk := make_any (P := Try.prog) 22 9 _ 1 16 Try.underlying22 info9 .i64 .i64 n (by omega) (by omega)
  go_enter Try.func21, Try.ntmps21
  go_wp2
  obtain ⟨w0, hw0⟩ : ∃ w0, w0 = (((w.alloc (.cells #[.slice none 0 0, .slice none 0 0] 25)).alloc (.cells #[.int .u8 0, .int .u8 0, .int .u8 0, .int .u8 0, .int .u8 0, .int .u8 0, .int .u8 0, .int .u8 0] 63)).alloc (.cells (made (.string ⟨#[]⟩) n) 9)) := ⟨_, rfl⟩
  have g0 : Below w.heap.size w w0 := by rw [hw0]; exact ((below_alloc _ _).alloc (by simp) _).alloc (by simp; omega) _
  have r0 : w0.heap[w.heap.size + 2]? = some (.cells (made (.string ⟨#[]⟩) n) 9 (0, 0)) := by
    have e2 : ((w.alloc (.cells #[.slice none 0 0, .slice none 0 0] 25)).alloc (.cells #[.int .u8 0, .int .u8 0, .int .u8 0, .int .u8 0, .int .u8 0, .int .u8 0, .int .u8 0, .int .u8 0] 63)).heap.size = w.heap.size + 2 := by simp
    rw [hw0, ← e2]; exact heap_alloc_new _ _
  have zz : ∀ j, j < 8 → w0.cell? ⟨w.heap.size + 1, j, none⟩ = some (.int .u8 0) := by
    intro j hj
    rw [hw0]
    match j, hj with
    | 0, _ => simp [go_sem]
    | 1, _ => simp [go_sem]
    | 2, _ => simp [go_sem]
    | 3, _ => simp [go_sem]
    | 4, _ => simp [go_sem]
    | 5, _ => simp [go_sem]
    | 6, _ => simp [go_sem]
    | 7, _ => simp [go_sem]
  have p0 : w0.cell? ⟨w.heap.size, 0, none⟩ = some (.slice none 0 0) := by rw [hw0]; simp [go_sem]
  have p1 : w0.cell? ⟨w.heap.size, 1, none⟩ = some (.slice none 0 0) := by rw [hw0]; simp [go_sem]
  have pf : ∀ o, w0.frozen? ⟨w.heap.size, o, none⟩ = false := fun o => by rw [hw0]; simp [go_sem]
  have z0 : w.heap.size + 2 < w0.heap.size := by rw [hw0]; simp
  rw [← hw0]
  clear hw0 hmk
  have R0 : Hid _ := r0
  have P0 : Hid _ := p0
  have P1 : Hid _ := p1
  have PF : Hid _ := pf
  have ZZ : Hid _ := zz
  clear r0 p0 p1 pf zz
  go_loopw [18] (fun i wr => ∃ (k : Nat) (c : Array Value), k ≤ n ∧ i = .int .i64 k ∧ wr.heap[w.heap.size + 2]? = some (.cells c 9 (0, 0)) ∧ c.size = n ∧ strs k newS c ∧ Out (w.heap.size + 2) (w.heap.size + 3) w0 wr) (fun i _ => n - (intOf i).toNat)
  case atStart => exact ⟨0, _, Nat.zero_le _, rfl, R0.out, by simp [size_made], fun i hi => absurd hi (by omega), Out.refl _ _ _⟩
  case round =>
    obtain ⟨k, c, hk, rfl, hB, hcs, hst, ho⟩ := hrel
    by_cases hlt : k < n
    · have hcv := conv_zeros (w := wr) (b := w.heap.size + 1) (fun j hj => ho.cell (ZZ.out j hj) (by omega))
      obtain ⟨x0, hx0⟩ : ∃ v, c[k]? = some v := ⟨c[k]'(by omega), by simp⟩
      have hold := cell_of_block hB hx0
      have hfree := free_of_block (i := k) hB
      have HB : Hid _ := hB
      clear hB hx0
      go_wp2
      go_roundw
      case rel =>
        refine ⟨k + 1, _, by omega, by go_num, block_set HB.out, by simpa using hcs, ?_, ho.setCell (by omega) (by omega) _ _⟩
        intro i hi
        by_cases e : i = k
        · rw [e]; exact set_at (by omega) _
        · rw [set_ne e]; exact hst i (by omega)
      case measure => simp [intOf]; omega
    · have hkn : k = n := by omega
      subst hkn
      have q0 := ho.cell P0.out (by omega)
      have q1 := ho.cell P1.out (by omega)
      have qf : ∀ o, wr.frozen? ⟨w.heap.size, o, none⟩ = false := fun o => (ho.frozen (by omega) (by omega)).trans (PF.out o)
      have qf0 := qf 0
      have qf1 := qf 1
      have HB : Hid _ := hB
      clear hB qf
      have gr := g0.trans (Below.mono (ho.below (by omega)) (by omega))
      go_wp2
      refine bodyPost_ret (v := .tuple #[.agg #[.slice (some ⟨w.heap.size + 2, 0, none⟩) k k, .slice none 0 0], .bool true]) (by simp [results, Try.results21, go_sem, q0, q1]) rfl ⟨?_, _, _, _, _, rfl, ?_, mine_none _ _ _ _ _ _⟩
      · refine (gr.setCell ?_ _).setCell ?_ _ <;> simp
      · exact .inr ⟨w.heap.size + 2, c, by omega, by have := (Array.getElem?_eq_some_iff.1 HB.out).1; simpa using this, rfl, (((Out.refl w.heap.size (w.heap.size + 1) wr).setCell (by omega) (by omega) _ _).setCell (by omega) (by omega) _ _).block _ (Array.getElem?_eq_some_iff.1 HB.out).1 (by omega) |>.trans HB.out, hst⟩

set_option maxHeartbeats 1600000 in
theorem specNew_any (s : Int) (w : World) : Calls Try.prog 20 #[.int .i64 s] w fun e w' => DevRes w w' e (newN s) 0 (newOK s) newS noT noU := by
  by_cases h1 : 1 ≤ s ∧ s ≤ 32
  · obtain ⟨n, rfl⟩ : ∃ n : Nat, s = n := ⟨s.toNat, by omega⟩
    have e1 : newOK n = true := decide_eq_true (by omega)
    have e0 : newN n = n := by simp [newN, e1]
    rw [e0, e1]
    clear e0 e1
    have hin : inB n 1 32 = true := inB_true (by omega)
    have hn : n ≤ 32 := by omega
    have hn1 : 1 ≤ n := by omega
    clear h1
    obtain ⟨i0, hi, hz0, hz1, hz2⟩ := info_parts info9
    go_enter Try.func20, Try.ntmps20
    go_wp2_with (go_at_call 37; refine (l1In_any _ _ _ _).mono ?_; rintro e w1 ⟨rfl, rfl⟩)
    obtain ⟨w0, hw0⟩ : ∃ w0, w0 = ((w.alloc (.cells #[.slice none 0 0, .slice none 0 0] 25)).alloc (.cells #[.slice none 0 0, .slice none 0 0] 25)) := ⟨_, rfl⟩
    have g0 : Below w.heap.size w w0 := by rw [hw0]; exact (below_alloc _ _).alloc (by simp) _
    have r0 : w0.heap[w.heap.size + 1]? = some (.cells #[.slice none 0 0, .slice none 0 0] 25 (0, 0)) := by
      have e2 : (w.alloc (.cells #[.slice none 0 0, .slice none 0 0] 25)).heap.size = w.heap.size + 1 := by simp
      rw [hw0, ← e2]; exact heap_alloc_new _ _
    have p0 : w0.cell? ⟨w.heap.size, 0, none⟩ = some (.slice none 0 0) := by rw [hw0]; simp [go_sem]
    have p1 : w0.cell? ⟨w.heap.size, 1, none⟩ = some (.slice none 0 0) := by rw [hw0]; simp [go_sem]
    have pf : ∀ o, w0.frozen? ⟨w.heap.size, o, none⟩ = false := fun o => by rw [hw0]; simp [go_sem]
    have z0 : w0.heap.size = w.heap.size + 2 := by rw [hw0]; simp
    rw [← hw0]
    clear hw0
    have R0 : Hid _ := r0
    have P0 : Hid _ := p0
    have P1 : Hid _ := p1
    have PF : Hid _ := pf
    have Z0 : Hid _ := z0
    clear r0 p0 p1 pf z0
    go_loopw [5] (fun i wr => ∃ (k : Nat) (v : Value), k ≤ n ∧ i = .int .i64 k ∧ wr.heap[w.heap.size + 1]? = some (.cells #[v, .slice none 0 0] 25 (0, 0)) ∧ wr.ownsRow (w.heap.size + 2) 9 1 v k (strCells k newS) ∧ Below (w.heap.size + 1) w0 wr) (fun i _ => n - (intOf i).toNat)
    case atStart => exact ⟨0, _, Nat.zero_le _, rfl, R0.out, World.ownsRow_nil _ _ _ _, Below.refl _ _⟩
    case round =>
      obtain ⟨k, v, hk, rfl, hB, hown, hb⟩ := hrel
      by_cases hlt : k < n
      · have c0 : wr.cell? ⟨w.heap.size + 1, 0, none⟩ = some v := cell_of_block hB rfl
        have f0 := free_of_block (i := 0) hB
        have zr : w.heap.size + 2 ≤ wr.heap.size := by have := hb.size; have := Z0.out; omega
        have hlt' : (k : Int) < (n : Int) := by omega
        have HB : Hid _ := hB
        have HO : Hid _ := hown
        clear hB hown
        go_wp2
        go_region_law (first
          | (go_simp; go_at_call 38; refine (l1Zeros_any _).mono ?_; rintro e w1 ⟨rfl, b1⟩; have c1 := cell_on (w := wr.drew) c0 b1; have b1' := Below.comp (b := wr.drew) (Below.drew (Below.refl wr.heap.size wr)) b1; have z1 := lt_of_cell c1)
          | (refine step_append_own rfl (.tmp 17) (.tmp 19) 22 rfl (w.heap.size + 2) 9 i0 _ 1 16 Try.underlying22 hi hz0 hz1 hz2 rfl (by decide) v k (strCells k newS) rfl ((owns_below HO.out b1').alloc _) ⟨w1.heap.size, 0, none⟩ 1 1 [.string zeros8] rfl rfl (new_one _ _ _) (one_cell _ rfl) (by unfold maxLen; omega) (by omega) (by have := b1'.size; simp; omega) ?_; intro v' w2 hown2 hgrow2; obtain ⟨g, cg, cur, hv', hg0, -, -, -⟩ := owns_mine hown2 (by omega); subst hv'; have HB2 : Hid _ := grow_box ((owns_below HO.out b1').alloc _) hgrow2 (show w.heap.size + 1 < w.heap.size + 2 by omega) ((below_alloc w1 _).block _ (by have := b1'.size; omega) |>.trans ((b1'.block _ (by omega)).trans HB.out)); have c2 : w2.cell? ⟨w.heap.size + 1, 0, none⟩ = some v := cell_of_block HB2.out rfl; have f2 := free_of_block (i := 0) HB2.out))
        all_goals go_wp2
        all_goals
          go_roundw
          case rel =>
            have hown3 : w2.ownsRow (w.heap.size + 2) 9 1 (.slice (some ⟨g, 0, none⟩) (k + 1) cg) (k + 1) (strCells (k + 1) newS) := by rw [← strCells_succ]; exact hown2
            have hb2 : Below (w.heap.size + 1) w0 w2 := (hb.trans (b1'.mono (by omega))).trans ((below_alloc w1 _).mono (by omega) |>.trans (Grown.below hgrow2 (by simp; omega) (fun q hq => by have := (World.ownsRow.lt (owns_below HO.out b1') q hq).1; omega)))
            exact ⟨k + 1, _, by omega, by go_num, block_set HB2.out, ownsRow_setCell_below hown3 (by simp) _, hb2.setCell (by simp) _⟩
          case measure => simp [intOf]; omega
      · have hkn : k = n := by omega
        subst hkn
        obtain ⟨g, cg, cur, hv, hg0, hg1, hg2, hg3⟩ := owns_mine hown (by omega)
        subst hv
        have c0 : wr.cell? ⟨w.heap.size + 1, 0, none⟩ = some (.slice (some ⟨g, 0, none⟩) k cg) := cell_of_block hB rfl
        have c1 : wr.cell? ⟨w.heap.size + 1, 1, none⟩ = some (.slice none 0 0) := cell_of_block hB rfl
        have q0 := (hb.cell (p := ⟨w.heap.size, 0, none⟩) (by simp)).trans P0.out
        have q1 := (hb.cell (p := ⟨w.heap.size, 1, none⟩) (by simp)).trans P1.out
        have qf0 := (hb.frozen (p := ⟨w.heap.size, 0, none⟩) (by simp)).trans (PF.out 0)
        have qf1 := (hb.frozen (p := ⟨w.heap.size, 1, none⟩) (by simp)).trans (PF.out 1)
        have HG : Hid _ := hg1
        have gr := g0.trans (hb.mono (by omega))
        clear hB hg1 hown
        go_wp2
        refine bodyPost_ret (v := .tuple #[.agg #[.slice (some ⟨g, 0, none⟩) k cg, .slice none 0 0], .bool true]) (by simp [results, Try.results20, go_sem, q0, q1]) rfl ⟨?_, _, _, _, _, rfl, ?_, mine_none _ _ _ _ _ _⟩
        · refine (gr.setCell ?_ _).setCell ?_ _ <;> simp
        · exact .inr ⟨g, cur, by omega, by have := (Array.getElem?_eq_some_iff.1 HG.out).1; simpa using this, rfl, (((Out.refl w.heap.size (w.heap.size + 1) wr).setCell (by omega) (by omega) _ _).setCell (by omega) (by omega) _ _).block _ (Array.getElem?_eq_some_iff.1 HG.out).1 (by omega) |>.trans HG.out, fun i hi => by rw [hg3 i (by omega)]; exact strCells_at _ _ hi⟩
  · have e1 : newOK s = false := decide_eq_false h1
    have e0 : newN s = 0 := by simp [newN, e1]
    rw [e0, e1]
    clear e0 e1
    have hin : inB s 1 32 = false := inB_false h1
    go_enter Try.func20, Try.ntmps20
    go_wp2_with (go_at_call 37; refine (l1In_any _ _ _ _).mono ?_; rintro e w1 ⟨rfl, rfl⟩)
    exact bodyPost_ret (v := .tuple #[.agg #[.slice none 0 0, .slice none 0 0], .bool false]) (by simp [results, Try.results20, go_sem]) rfl (DevRes.none (below_alloc _ _) _ _ _)
end Go.Proofs.Ytmijalmihfgolaa
