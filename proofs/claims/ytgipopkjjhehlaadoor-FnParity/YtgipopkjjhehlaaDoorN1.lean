import Derived.Test.YtgipopkjjhehlaaDoorX7
namespace Go.Proofs.YtgipopkjjhehlaaDoor
open Go.ChangeShapes Go.WideShapes Go.ChangeAt Go.RowKit
set_option linter.unusedVariables false
open GF

/-- Whether a disk alone explains both sums. -/
def fitB (n : Nat) (D : Nat → ByteArray) (P Q : ByteArray) (i : Nat) : Bool := decide (∀ k, k < P.size → crs (cp n i) (cq n i) (sp n (dby D k) (bb P k)) (sq' n (dby D k) (bb Q k)) = 0)
/-- The one disk that is wrong, if any. -/
def fwN (n : Nat) (D : Nat → ByteArray) (P Q : ByteArray) : Option Nat := if goodB n D P Q = true ∧ rightB n D P Q = false then (List.range (n + 2)).find? (fitB n D P Q) else none
def fwV (n : Nat) (D : Nat → ByteArray) (P Q : ByteArray) : Value := .tuple #[.int .i64 (((fwN n D P Q).getD 0 : Nat) : Int), .bool (fwN n D P Q).isSome]

theorem bb_oneU_d {n : Nat} {D : Nat → ByteArray} {P : ByteArray} {i k : Nat} (h : i < n) (hk : k < P.size) : bb (oneU n D P i) k = pp n (up (dby D k) i 0) ^^^ bb P k := by
  rw [oneU_d h, bb_tx (f := fun k => pp n (up (dby D k) i 0) ^^^ bb P k) hk (xor_lt (pp_lt (up_lt (dby_lt D k) (by omega))) (bb_lt _ _))]
theorem one_fit {n : Nat} {D : Nat → ByteArray} {P Q : ByteArray} {i : Nat} (hg : goodB n D P Q = true) (hi : i < n + 2) :
    rightB n (sD n D i (oneU n D P i)) (sP n P i (oneU n D P i)) (sQ n Q i (oneU n D P i)) = fitB n D P Q i := by
  obtain ⟨h1, h2, h3, h4, h5⟩ := goodB_spec hg
  unfold rightB fitB
  apply decide_eq_decide.2
  rcases (by omega : i < n ∨ n = i ∨ n + 1 = i) with h | rfl | rfl
  · rw [sD_d h, sP_n (by omega), sQ_n (by omega), tx_eq_iff (fun k => pp_lt (dby_lt _ k)) rfl, tx_eq_iff (fun k => qq_lt (dby_lt _ k)) h5]
    constructor
    · intro hh k hk
      have := hh.2 k hk
      rw [dby_up, bb_oneU_d h hk] at this
      exact (fit_d h (dby_lt D k) (bb_lt _ _) (bb_lt _ _)).2 this
    · intro hh
      refine ⟨fun k hk => ?_, fun k hk => ?_⟩
      · rw [dby_up, bb_oneU_d h hk]; exact pp_one h
      · rw [dby_up, bb_oneU_d h hk]; exact (fit_d h (dby_lt D k) (bb_lt _ _) (bb_lt _ _)).1 (hh k hk)
  · rw [sD_n (by omega), sP_p, sQ_n (by omega), oneU_p, tx_size, tx_eq_iff (fun k => qq_lt (dby_lt _ k)) h5]
    constructor
    · intro hh k hk
      exact (fit_p (dby_lt D k) (bb_lt _ _)).2 (hh.2 k hk)
    · intro hh
      exact ⟨rfl, fun k hk => (fit_p (dby_lt D k) (bb_lt _ _)).1 (hh k hk)⟩
  · rw [sD_n (by omega), sP_n (by omega), sQ_q, oneU_q, tx_eq_iff (fun k => pp_lt (dby_lt _ k)) rfl]
    constructor
    · intro hh k hk
      exact (fit_q (dby_lt D k) (bb_lt _ _)).2 (hh.1 k hk)
    · intro hh
      exact ⟨fun k hk => (fit_q (dby_lt D k) (bb_lt _ _)).1 (hh k hk), rfl⟩
/-- No two fit. -/
theorem fit_one {n : Nat} {D : Nat → ByteArray} {P Q : ByteArray} {i j : Nat} (hg : goodB n D P Q = true) (hr : rightB n D P Q = false) (hi : i < n + 2) (hj : j < n + 2) (h1 : fitB n D P Q i = true) (h2 : fitB n D P Q j = true) : i = j := by
  obtain ⟨g1, g2, g3, g4, g5⟩ := goodB_spec hg
  apply Classical.byContradiction
  intro hne
  have : rightB n D P Q = true := (right_iff g5).2 fun k hk =>
    fit_two g2 hi hj hne (sp_lt (dby_lt D k) (bb_lt _ _)) (sq_lt' (dby_lt D k) (bb_lt _ _)) (of_decide_eq_true h1 k hk) (of_decide_eq_true h2 k hk)
  rw [hr] at this
  cases this
theorem fwN_some {n : Nat} {D : Nat → ByteArray} {P Q : ByteArray} {i : Nat} (hg : goodB n D P Q = true) (hr : rightB n D P Q = false) (hi : i < n + 2) (h : fitB n D P Q i = true) : fwN n D P Q = some i := by
  unfold fwN
  rw [if_pos ⟨hg, hr⟩]
  cases hf : (List.range (n + 2)).find? (fitB n D P Q) with
  | none =>
    rw [List.find?_eq_none] at hf
    exact absurd h (hf i (List.mem_range.2 hi))
  | some j =>
    have hj := List.find?_some hf
    have hjm := List.mem_of_find?_eq_some hf
    rw [fit_one hg hr hi (List.mem_range.1 hjm) h hj]
theorem fwN_none {n : Nat} {D : Nat → ByteArray} {P Q : ByteArray} (h : ∀ i, i < n + 2 → fitB n D P Q i = false) : fwN n D P Q = none := by
  unfold fwN
  split
  · rw [List.find?_eq_none]
    intro x hx
    rw [h x (List.mem_range.1 hx)]
    simp
  · rfl
theorem fwN_not {n : Nat} {D : Nat → ByteArray} {P Q : ByteArray} (h : ¬ (goodB n D P Q = true ∧ rightB n D P Q = false)) : fwN n D P Q = none := if_neg h

set_option maxRecDepth 100000 in
set_option maxHeartbeats 4000000 in
theorem specFind_any (a : Option Addr) (n cap : Nat) (D : Nat → ByteArray) (P Q : ByteArray) (w : World) (hn : n ≤ 1048576) (hc : At w a n fun i => .string (D i)) :
    Calls Tryd.prog 22 #[sv a n cap P Q] w fun e w' => e = .returned (fwV n D P Q) ∧ Below w.heap.size w w' := by
  unfold sv
  obtain ⟨W0, hW0⟩ : ∃ W0, w.alloc (.cells #[.slice a n cap, .string P, .string Q] 26) = W0 := ⟨_, rfl⟩
  have b0 : Below w.heap.size w W0 := by rw [← hW0]; exact below_alloc _ _
  have HS0 : Hid (W0.heap[w.heap.size]? = some (.cells #[.slice a n cap, .string P, .string Q] 26 (0, 0))) := by
    show W0.heap[w.heap.size]? = _
    rw [← hW0]; exact heap_alloc_new _ _
  obtain ⟨c0, c1, c2, -, -, -⟩ := box3_cells HS0.out
  have hsp := specGood_any a n cap D P Q W0 hn (hc.below b0)
  cases hg : goodB n D P Q
  · have hv : fwV n D P Q = .tuple #[.int .i64 0, .bool false] := by unfold fwV; rw [fwN_not (by rw [hg]; simp)]; rfl
    have HV : Hid _ := hv
    rw [hg] at hsp
    clear hv
    go_enter Tryd.func22, Tryd.ntmps22
    go_wp2_with fail
    refine hsp.mono ?_
    rintro e w1 ⟨rfl, b1⟩
    go_wp2
    exact bodyPost_ret (v := .tuple #[.int .i64 0, .bool false]) (by simp [results, Tryd.results22, go_sem]) rfl ⟨by rw [HV.out], Below.comp b0 b1⟩
  rw [hg] at hsp
  have hrr : ∀ W, Below W0.heap.size W0 W → Calls Tryd.prog 46 #[sv a n cap P Q] W fun e w' => e = .returned (.bool (rightB n D P Q)) ∧ Below W.heap.size W w' := fun W hW => l3Right_any a n cap D P Q W hg (hc.below (b0.trans (hW.mono b0.size)))
  have HRR : Hid _ := hrr
  clear hrr
  cases hr : rightB n D P Q
  case true =>
    have hv : fwV n D P Q = .tuple #[.int .i64 0, .bool false] := by unfold fwV; rw [fwN_not (by rw [hr]; simp)]; rfl
    have HV : Hid _ := hv
    clear hv
    go_enter Tryd.func22, Tryd.ntmps22
    go_wp2_with fail
    refine hsp.mono ?_
    rintro e w1 ⟨rfl, b1⟩
    replace c0 := cell_on c0 b1
    replace c1 := cell_on c1 b1
    replace c2 := cell_on c2 b1
    go_wp2_with fail
    refine (HRR.out _ b1).mono ?_
    rintro e w2 ⟨rfl, b2⟩
    rw [hr]
    go_wp2
    exact bodyPost_ret (v := .tuple #[.int .i64 0, .bool false]) (by simp [results, Tryd.results22, go_sem]) rfl ⟨by rw [HV.out], Below.comp (Below.comp b0 b1) b2⟩
  obtain ⟨hn1, hn2, hL, _, _⟩ := goodB_spec hg
  go_enter Tryd.func22, Tryd.ntmps22
  go_wp2_with fail
  refine hsp.mono ?_
  rintro e w1 ⟨rfl, b1⟩
  replace c0 := cell_on c0 b1
  replace c1 := cell_on c1 b1
  replace c2 := cell_on c2 b1
  go_wp2_with fail
  refine (HRR.out _ b1).mono ?_
  rintro e w2 ⟨rfl, b2⟩
  rw [hr]
  have b12 := Below.comp b1 b2
  have HS2 : Hid _ := box_on HS0.out b12
  have g2 := b0.trans (b12.mono b0.size)
  clear c0 c1 c2 b1 b2 hW0 hsp
  go_wp2
  go_loopw [4, 5] (fun fv iv wr => ∃ (k : Nat) (f : Int), k ≤ n + 2 ∧ iv = .int .i64 k ∧ fv = .int .i64 f ∧ ((f = -1 ∧ ∀ j, j < k → fitB n D P Q j = false) ∨ (∃ j : Nat, j < k ∧ f = (j : Int) ∧ fitB n D P Q j = true)) ∧ Below w2.heap.size w2 wr) (fun _ iv _ => n + 2 - (intOf iv).toNat)
  case atStart => exact ⟨0, -1, Nat.zero_le _, rfl, rfl, .inl ⟨rfl, fun j hj => absurd hj (by omega)⟩, Below.refl _ _⟩
  case round =>
    obtain ⟨k, f, hk, rfl, rfl, hf, hb⟩ := hrel
    obtain ⟨c0, c1, c2, -, -, -⟩ := box3_cells (box_on HS2.out hb)
    have gr := g2.trans (hb.mono g2.size)
    have HF : Hid _ := hf
    clear hf
    by_cases hlt : k < n + 2
    · have hlt' : (k : Int) ≤ (n : Int) + 1 := by omega
      go_wp2_with fail
      refine (l3One_any a n cap D P Q k _ hg hlt (hc.below gr)).mono ?_
      rintro e w3 ⟨b3, y, cy, rfl, m3⟩
      have hg3 := good_set (i := k) (u := oneU n D P k) hg (oneU_size _ _ _ _)
      have hR3 := l3Right_any y n cy _ _ _ w3 hg3 m3.strs
      rw [one_fit hg hlt] at hR3
      clear c0 c1 c2
      go_wp2_with fail
      refine hR3.mono ?_
      rintro e w4 ⟨rfl, b4⟩
      have bb4 := Below.comp hb (Below.comp b3 b4)
      cases hfk : fitB n D P Q k
      · go_wp2
        go_roundw
        case rel =>
          refine ⟨k + 1, f, by omega, by go_num, rfl, ?_, bb4⟩
          rcases HF.out with ⟨h1, h2⟩ | ⟨j, h1, h2, h3⟩
          · refine .inl ⟨h1, fun j hj => ?_⟩
            by_cases e : j = k
            · rw [e]; exact hfk
            · exact h2 j (by omega)
          · exact .inr ⟨j, by omega, h2, h3⟩
        case measure => simp [intOf]; omega
      · rcases HF.out with ⟨rfl, h2⟩ | ⟨j, h1, rfl, h3⟩
        · go_wp2
          go_roundw
          case rel => exact ⟨k + 1, (k : Int), by omega, by go_num, rfl, .inr ⟨k, by omega, rfl, hfk⟩, bb4⟩
          case measure => simp [intOf]; omega
        · exact absurd (fit_one hg hr (by omega) hlt h3 hfk) (by omega)
    · have hlt' : ¬ (k : Int) ≤ (n : Int) + 1 := by omega
      obtain rfl : k = n + 2 := by omega
      rcases HF.out with ⟨rfl, h2⟩ | ⟨j, h1, rfl, h3⟩
      · have hv : fwV n D P Q = .tuple #[.int .i64 0, .bool false] := by unfold fwV; rw [fwN_none h2]; rfl
        have HV : Hid _ := hv
        clear hv h2 HF
        go_wp2
        exact bodyPost_ret (v := .tuple #[.int .i64 0, .bool false]) (by simp [results, Tryd.results22, go_sem]) rfl ⟨by rw [HV.out], gr⟩
      · have hv : fwV n D P Q = .tuple #[.int .i64 (j : Int), .bool true] := by unfold fwV; rw [fwN_some hg hr h1 h3]; rfl
        have HV : Hid _ := hv
        have hj0 : ¬ (j : Int) < 0 := by omega
        clear hv HF
        go_wp2
        exact bodyPost_ret (v := .tuple #[.int .i64 (j : Int), .bool true]) (by simp [results, Tryd.results22, go_sem]) rfl ⟨by rw [HV.out], gr⟩
end Go.Proofs.YtgipopkjjhehlaaDoor
