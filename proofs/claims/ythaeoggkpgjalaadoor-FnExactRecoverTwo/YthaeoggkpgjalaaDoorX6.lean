import Derived.Test.YthaeoggkpgjalaaDoorX5
namespace Go.Proofs.YthaeoggkpgjalaaDoor
open Go.ChangeShapes Go.WideShapes Go.ChangeAt Go.RowKit
set_option linter.unusedVariables false
open GF

/-- What a function that tells a stripe and whether leaves: its own row, and the two texts. -/
def RO (w : World) (e : Ending) (w' : World) (ok : Bool) (N : Nat) (D : Nat → ByteArray) (P Q : ByteArray) : Prop :=
  Below w.heap.size w w' ∧ ∃ x cx, e = .returned (.tuple #[sv x N cx P Q, .bool ok]) ∧ Mine w' w.heap.size w'.heap.size 9 N x (strs N D)
theorem one_eq {n : Nat} {D : Nat → ByteArray} {P Q : ByteArray} {i : Nat} (hi : i < n + 2) :
    (tx P.size fun k => bb (dt n D P Q i) k ^^^ (if i = n + 1 then sq' n (dby D k) (bb Q k) else sp n (dby D k) (bb P k))) = oneU n D P i := by
  rcases (by omega : i < n ∨ n = i ∨ n + 1 = i) with h | rfl | rfl
  · rw [oneU_d h]
    refine tx_congr fun k _ => ?_
    rw [if_neg (by omega), dt_d h]
    exact one_d (d := dby D k) h
  · rw [oneU_p]
    refine tx_congr fun k _ => ?_
    rw [if_neg (by omega), dt_p]
    exact one_p
  · rw [oneU_q]
    refine tx_congr fun k _ => ?_
    rw [if_pos rfl, dt_q]
    exact one_q

/-- Whether a disk is told, and which. -/
def okOne (n : Nat) (D : Nat → ByteArray) (P Q : ByteArray) (t : Int) : Bool := goodB n D P Q && decide (0 ≤ t ∧ t ≤ (n : Int) + 1)
def emp : ByteArray := ⟨#[]⟩
def oneN (n : Nat) (ok : Bool) : Nat := if ok then n else 0
def oneP (ok : Bool) (P : ByteArray) : ByteArray := if ok then P else emp

set_option maxRecDepth 100000 in
set_option maxHeartbeats 4000000 in
theorem specOne_any (a : Option Addr) (n cap : Nat) (D : Nat → ByteArray) (P Q : ByteArray) (t : Int) (w : World) (hn : n ≤ 1048576) (hc : At w a n fun i => .string (D i)) :
    Calls Tryd.prog 22 #[sv a n cap P Q, .int .i64 t] w fun e w' => RO w e w' (okOne n D P Q t) (oneN n (okOne n D P Q t)) (sD n D t.toNat (oneU n D P t.toNat)) (oneP (okOne n D P Q t) (sP n P t.toNat (oneU n D P t.toNat))) (oneP (okOne n D P Q t) (sQ n Q t.toNat (oneU n D P t.toNat))) := by
  unfold sv
  obtain ⟨W0, hW0⟩ : ∃ W0, (w.alloc (.cells #[.slice a n cap, .string P, .string Q] 25)).alloc (.cells #[.slice none 0 0, .string ⟨#[]⟩, .string ⟨#[]⟩] 25) = W0 := ⟨_, rfl⟩
  have b0 : Below w.heap.size w W0 := by rw [← hW0]; exact (below_alloc w _).alloc (by simp) _
  have hsz : W0.heap.size = w.heap.size + 1 + 1 := by rw [← hW0]; simp
  have HS0 : Hid (W0.heap[w.heap.size]? = some (.cells #[.slice a n cap, .string P, .string Q] 25 (0, 0))) := by
    show W0.heap[w.heap.size]? = _
    rw [← hW0, Below.heap_alloc _ _ _ (by simp)]; exact heap_alloc_new _ _
  have HR0 : Hid (W0.heap[w.heap.size + 1]? = some (.cells #[.slice none 0 0, .string ⟨#[]⟩, .string ⟨#[]⟩] 25 (0, 0))) := by
    have := heap_alloc_new (w.alloc (.cells #[.slice a n cap, .string P, .string Q] 25)) (.cells #[.slice none 0 0, .string ⟨#[]⟩, .string ⟨#[]⟩] 25)
    rw [World.size_alloc, hW0] at this
    exact this
  obtain ⟨c0, c1, c2, -, -, -⟩ := box3_cells HS0.out
  have HSZ : Hid _ := hsz
  clear hsz
  have hsp := specGood_any a n cap D P Q W0 hn (hc.below b0)
  have fin : ∀ w2, Below W0.heap.size W0 w2 → RO w (.returned (.tuple #[.agg #[.slice none 0 0, .string ⟨#[]⟩, .string ⟨#[]⟩], .bool false])) (((w2.setCell ⟨w.heap.size + 1, 0, none⟩ (.slice none 0 0)).setCell ⟨w.heap.size + 1, 1, none⟩ (.string ⟨#[]⟩)).setCell ⟨w.heap.size + 1, 2, none⟩ (.string ⟨#[]⟩)) false 0 (sD n D t.toNat (oneU n D P t.toNat)) emp emp := fun w2 b2 =>
    ⟨(((b0.trans (b2.mono b0.size)).setCell (by simp) _).setCell (by simp) _).setCell (by simp) _, none, 0, rfl, .inl rfl⟩
  cases hg : goodB n D P Q
  · rw [hg] at hsp
    have hok : okOne n D P Q t = false := by simp [okOne, hg]
    rw [hok]
    go_enter Tryd.func22, Tryd.ntmps22
    go_wp2_with fail
    refine hsp.mono ?_
    rintro e w1 ⟨rfl, b1⟩
    obtain ⟨r0, r1, r2, q0, q1, q2⟩ := box3_cells (box_on HR0.out b1)
    clear c0 c1 c2
    go_wp2
    exact bodyPost_ret (v := .tuple #[.agg #[.slice none 0 0, .string ⟨#[]⟩, .string ⟨#[]⟩], .bool false]) (by simp [results, Tryd.results22, go_sem, r0, r1, r2]) rfl (fin w1 b1)
  · rw [hg] at hsp
    by_cases ht : 0 ≤ t ∧ t ≤ (n : Int) + 1
    · have hok : okOne n D P Q t = true := by simp [okOne, hg, ht]
      obtain ⟨i, rfl⟩ : ∃ i : Nat, t = (i : Int) := ⟨t.toNat, by omega⟩
      have hi : i < n + 2 := by omega
      rw [hok]
      simp only [Int.toNat_natCast, oneN, oneP, if_true] at fin ⊢
      go_enter Tryd.func22, Tryd.ntmps22
      go_wp2_with fail
      refine hsp.mono ?_
      rintro e w1 ⟨rfl, b1⟩
      replace c0 := cell_on c0 b1
      replace c1 := cell_on c1 b1
      replace c2 := cell_on c2 b1
      go_wp2_with fail
      refine (l1In_t (i : Int) 0 ((n : Int) + 1) _ (by omega) (by omega)).mono ?_
      rintro e w1' ⟨rfl, rfl⟩
      go_wp2_with fail
      refine (l3One_any a n cap D P Q i _ hg hi (hc.below (b0.trans (b1.mono b0.size)))).mono ?_
      rintro e w2 ⟨b2, y, cy, rfl, m2⟩
      have b12 := Below.comp b1 b2
      obtain ⟨r0, r1, r2, q0, q1, q2⟩ := box3_cells (box_on HR0.out b12)
      have hszz := HSZ.out
      have z1 := b1.size
      clear c0 c1 c2
      go_wp2
      refine bodyPost_ret (v := .tuple #[sv y n cy (sP n P i (oneU n D P i)) (sQ n Q i (oneU n D P i)), .bool true]) (by simp [results, Tryd.results22, go_sem, r0, r1, r2]) rfl ⟨?_, y, cy, rfl, ?_⟩
      · refine (((b0.trans (b12.mono b0.size)).setCell ?_ _).setCell ?_ _).setCell ?_ _ <;> simp
      · refine (((m2.out (out_setCell _ (w.heap.size + 1) 0 _) (by omega)).out (out_setCell _ (w.heap.size + 1) 1 _) (by omega)).out (out_setCell _ (w.heap.size + 1) 2 _) (by omega)).mono (by omega) ?_
        simp
    · have hok : okOne n D P Q t = false := by simp [okOne, hg]; omega
      rw [hok]
      go_enter Tryd.func22, Tryd.ntmps22
      go_wp2_with fail
      refine hsp.mono ?_
      rintro e w1 ⟨rfl, b1⟩
      replace c0 := cell_on c0 b1
      replace c1 := cell_on c1 b1
      replace c2 := cell_on c2 b1
      obtain ⟨r0, r1, r2, q0, q1, q2⟩ := box3_cells (box_on HR0.out b1)
      go_wp2_with fail
      refine (l1In_f t 0 ((n : Int) + 1) _ ht).mono ?_
      rintro e w1' ⟨rfl, rfl⟩
      clear c0 c1 c2
      go_wp2
      exact bodyPost_ret (v := .tuple #[.agg #[.slice none 0 0, .string ⟨#[]⟩, .string ⟨#[]⟩], .bool false]) (by simp [results, Tryd.results22, go_sem, r0, r1, r2]) rfl (fin w1' b1)
end Go.Proofs.YthaeoggkpgjalaaDoor
