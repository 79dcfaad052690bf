import Derived.Test.YtgipopkjjhehlaaDoorW1
namespace Go.Proofs.YtgipopkjjhehlaaDoor
open Go.ChangeShapes Go.WideShapes Go.ChangeAt Go.RowKit
set_option linter.unusedVariables false
open GF

theorem toList_ne {p q : ByteArray} (h : ¬ p = q) : (p.toList == q.toList) = false := by
  rw [ByteArray.toList_eq, ByteArray.toList_eq]
  simp only [beq_eq_false_iff_ne, ne_eq]
  exact fun e => h (ByteArray.ext (Array.toList_inj.1 e))
/-- Whether a good stripe is right. -/
def rightB (n : Nat) (D : Nat → ByteArray) (P Q : ByteArray) : Bool := decide ((tx P.size fun k => pp n (dby D k)) = P ∧ (tx P.size fun k => qq n (dby D k)) = Q)
theorem dby_lt (D : Nat → ByteArray) (k : Nat) : ∀ i, dby D k i < 256 := fun i => bb_lt _ _
theorem tx_eq_iff {L : Nat} {f : Nat → Nat} {u : ByteArray} (hf : ∀ k, f k < 256) (hu : u.size = L) : tx L f = u ↔ ∀ k, k < L → f k = bb u k := by
  constructor
  · intro h k hk; rw [← h, bb_tx hk (hf k)]
  · intro h; rw [← tx_bb' hu]; exact tx_congr h
theorem right_iff {n : Nat} {D : Nat → ByteArray} {P Q : ByteArray} (hQ : Q.size = P.size) : rightB n D P Q = true ↔ ∀ k, k < P.size → sp n (dby D k) (bb P k) = 0 ∧ sq' n (dby D k) (bb Q k) = 0 := by
  unfold rightB
  rw [decide_eq_true_iff, tx_eq_iff (fun k => pp_lt (dby_lt D k)) rfl, tx_eq_iff (fun k => qq_lt (dby_lt D k)) hQ]
  constructor
  · intro h k hk
    unfold sp sq'
    rw [h.1 k hk, h.2 k hk, Nat.xor_self, Nat.xor_self]; exact ⟨rfl, rfl⟩
  · intro h
    exact ⟨fun k hk => xor_eq_zero (h k hk).1, fun k hk => xor_eq_zero (h k hk).2⟩

set_option maxHeartbeats 1000000 in
theorem l3Right_any (a : Option Addr) (n cap : Nat) (D : Nat → ByteArray) (P Q : ByteArray) (w : World) (hg : goodB n D P Q = true) (hc : At w a n fun i => .string (D i)) :
    Calls Tryd.prog 46 #[sv a n cap P Q] w fun e w' => e = .returned (.bool (rightB n D P Q)) ∧ Below w.heap.size w w' := by
  unfold sv
  obtain ⟨hd, hP, hQ⟩ := (goodB_iff n D P Q).1 hg
  obtain ⟨c0, c1, c2⟩ := new3 w (.slice a n cap) (.string P) (.string Q) 26
  have hr : rightB n D P Q = decide ((tx P.size fun k => pp n (dby D k)) = P ∧ (tx P.size fun k => qq n (dby D k)) = Q) := rfl
  rw [hP] at hr
  by_cases h1 : (tx (D 0).size fun k => pp n (dby D k)) = P
  · by_cases h2 : (tx (D 0).size fun k => qq n (dby D k)) = Q
    · rw [decide_eq_true ⟨h1, h2⟩] at hr
      have HR : Hid _ := hr
      clear hr
      go_enter Tryd.func46, Tryd.ntmps46
      go_wp2_with fail
      refine (l3Par_any a n cap D _ hd (hc.below (below_alloc _ _))).mono ?_
      rintro e w1 ⟨rfl, b1⟩
      rw [h1, h2]
      replace c1 := cell_on c1 b1
      replace c2 := cell_on c2 b1
      clear h1 h2
      go_wp2
      go_ret
      exact ⟨by rw [HR.out]; rfl, Below.comp (below_alloc _ _) b1⟩
    · rw [decide_eq_false (fun h => h2 h.2)] at hr
      have HR : Hid _ := hr
      clear hr
      go_enter Tryd.func46, Tryd.ntmps46
      go_wp2_with fail
      refine (l3Par_any a n cap D _ hd (hc.below (below_alloc _ _))).mono ?_
      rintro e w1 ⟨rfl, b1⟩
      rw [h1]
      generalize (tx (D 0).size fun k => qq n (dby D k)) = q at h2 ⊢
      replace c1 := cell_on c1 b1
      replace c2 := cell_on c2 b1
      clear h1
      have h2' := toList_ne h2
      go_wp2
      go_ret
      exact ⟨by rw [HR.out]; rfl, Below.comp (below_alloc _ _) b1⟩
  · rw [decide_eq_false (fun h => h1 h.1)] at hr
    have HR : Hid _ := hr
    clear hr
    go_enter Tryd.func46, Tryd.ntmps46
    go_wp2_with fail
    refine (l3Par_any a n cap D _ hd (hc.below (below_alloc _ _))).mono ?_
    rintro e w1 ⟨rfl, b1⟩
    generalize (tx (D 0).size fun k => qq n (dby D k)) = q at *
    generalize (tx (D 0).size fun k => pp n (dby D k)) = p at h1 ⊢
    replace c1 := cell_on c1 b1
    replace c2 := cell_on c2 b1
    have h1' := toList_ne h1
    go_wp2
    go_ret
    exact ⟨by rw [HR.out]; rfl, Below.comp (below_alloc _ _) b1⟩

def chkV (n : Nat) (D : Nat → ByteArray) (P Q : ByteArray) : Value := .tuple #[.bool (goodB n D P Q && rightB n D P Q), .bool (goodB n D P Q)]
set_option maxHeartbeats 1000000 in
theorem specCheck_any (a : Option Addr) (n cap : Nat) (D : Nat → ByteArray) (P Q : ByteArray) (w : World) (hn : n ≤ 1048576) (hc : At w a n fun i => .string (D i)) :
    Calls Tryd.prog 20 #[sv a n cap P Q] w fun e w' => e = .returned (chkV n D P Q) ∧ Below w.heap.size w w' := by
  obtain ⟨c0, c1, c2⟩ := new3 w (.slice a n cap) (.string P) (.string Q) 26
  have b0 := below_alloc w (.cells #[.slice a n cap, .string P, .string Q] 26)
  unfold sv chkV
  cases hg : goodB n D P Q
  · have hsp := specGood_any a n cap D P Q _ hn (hc.below b0)
    rw [hg] at hsp
    go_enter Tryd.func20, Tryd.ntmps20
    go_wp2_with fail
    refine hsp.mono ?_
    rintro e w1 ⟨rfl, b1⟩
    go_wp2
    refine bodyPost_ret (v := .tuple #[.bool false, .bool false]) (by simp [results, Tryd.results20, go_sem]) rfl ⟨rfl, Below.comp b0 b1⟩
  · have hsp := specGood_any a n cap D P Q _ hn (hc.below b0)
    rw [hg] at hsp
    go_enter Tryd.func20, Tryd.ntmps20
    go_wp2_with fail
    refine hsp.mono ?_
    rintro e w1 ⟨rfl, b1⟩
    have g1 := Below.comp b0 b1
    replace c0 := cell_on c0 b1
    replace c1 := cell_on c1 b1
    replace c2 := cell_on c2 b1
    clear hsp b1
    go_wp2_with fail
    refine (l3Right_any a n cap D P Q _ hg (hc.below g1)).mono ?_
    rintro e w2 ⟨rfl, b2⟩
    go_wp2
    refine bodyPost_ret (v := .tuple #[.bool (rightB n D P Q), .bool true]) (by simp [results, Tryd.results20, go_sem]) rfl ⟨rfl, Below.comp g1 b2⟩
end Go.Proofs.YtgipopkjjhehlaaDoor
