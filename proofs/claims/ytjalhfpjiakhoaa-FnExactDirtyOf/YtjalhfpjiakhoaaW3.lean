import Derived.Test.YtjalhfpjiakhoaaW2
namespace Go.Proofs.Ytjalhfpjiakhoaa
open Go.ChangeShapes Go.WideShapes Go.ChangeAt Go.RowKit
set_option linter.unusedVariables false

def wrOK (n m : Nat) (S : Nat → ByteArray) (T : Nat → Int) (U : Nat → ByteArray) (t : Int) (u : ByteArray) : Bool := decide (goodB n m S T U = true ∧ fitB n t u = true ∧ m ≠ 60)
def wrN (n m : Nat) (S : Nat → ByteArray) (T : Nat → Int) (U : Nat → ByteArray) (t : Int) (u : ByteArray) : Nat := bif wrOK n m S T U t u then n else 0
def wrM (n m : Nat) (S : Nat → ByteArray) (T : Nat → Int) (U : Nat → ByteArray) (t : Int) (u : ByteArray) : Nat := bif wrOK n m S T U t u then m + 1 else 0
def setT (T : Nat → Int) (m : Nat) (t : Int) : Nat → Int := fun i => if i = m then t else T i
def setU (U : Nat → ByteArray) (m : Nat) (u : ByteArray) : Nat → ByteArray := fun i => if i = m then u else U i
theorem wrtCells_congr (m : Nat) {T T' : Nat → Int} {U U' : Nat → ByteArray} (h : ∀ i, i < m → T i = T' i ∧ U i = U' i) : wrtCells m T U = wrtCells m T' U' := by
  induction m with
  | zero => rfl
  | succ m ih => rw [wrtCells_succ, wrtCells_succ, ih (fun i hi => h i (by omega)), (h m (by omega)).1, (h m (by omega)).2]
theorem wrtCells_set (m : Nat) (T : Nat → Int) (U : Nat → ByteArray) (t : Int) (u : ByteArray) : wrtCells m T U ++ [.int .i64 t, .string u] = wrtCells (m + 1) (setT T m t) (setU U m u) := by
  rw [wrtCells_succ, wrtCells_congr m (T := T) (T' := setT T m t) (U := U) (U' := setU U m u)]
  · simp [setT, setU]
  · intro i hi
    have : i ≠ m := by omega
    simp [setT, setU, this]

theorem new_two (w : World) (u v : Value) (t : TypeId) : ∀ j x, [u, v][j]? = some x → (w.alloc (.cells #[u, v] t)).cell? ((⟨w.heap.size, 0, none⟩ : Addr).add j) = some x := by
  intro j x hj
  match j, hj with
  | 0, hj => simp at hj; subst hj; simp [Addr.add]
  | 1, hj => simp at hj; subst hj; simp [Addr.add, go_sem]

theorem owns_off {w : World} {B : Nat} {e : TypeId} {size : Nat} {v : Value} {n : Nat} {xs : List Value} (h : w.ownsRow B e size v n xs) {b : Nat} (hb : b < B) : some b ≠ v.ownBlock := by
  intro e1
  have := (h.lt b e1.symm).1
  omega
theorem owns_keep {w w' : World} {B : Nat} {e : TypeId} {size : Nat} {v : Value} {n : Nat} {xs : List Value} {row : Option Nat} (h : w.ownsRow B e size v n xs) (hg : w.grownBy w' row) (hne : v.ownBlock = none ∨ v.ownBlock ≠ row) : w'.ownsRow B e size v n xs := h.kept hg hne
theorem owns_apart {w : World} {B B' : Nat} {e f : TypeId} {size size' : Nat} {v v' : Value} {n n' : Nat} {xs xs' : List Value} (hef : e ≠ f) (h : w.ownsRow B e size v n xs) (h' : w.ownsRow B' f size' v' n' xs') : v.ownBlock = none ∨ v.ownBlock ≠ v'.ownBlock := by
  rcases h.2 with ⟨rfl, _⟩ | ⟨g, cap, cur, rfl, _, hg, _⟩
  · exact .inl rfl
  · rcases h'.2 with ⟨rfl, _⟩ | ⟨g', cap', cur', rfl, _, hg', _⟩
    · exact .inr (by simp [Value.ownBlock])
    · refine .inr ?_
      intro e1
      simp [Value.ownBlock] at e1
      subst e1
      rw [hg] at hg'
      simp at hg'
      exact hef hg'.2

set_option maxHeartbeats 1600000 in
theorem specWrite_any (a a' : Option Addr) (n m ca ca' : Nat) (S : Nat → ByteArray) (T : Nat → Int) (U : Nat → ByteArray) (t : Int) (u : ByteArray) (w : World) (hn : n ≤ 1048576) (hm : m ≤ 1048576)
    (ha : At w a n fun i => .string (S i)) (ha' : At2 w a' m T U) (hs : ∀ i, i < n → (S i).size ≤ 9223372036854775807) (hs' : ∀ i, i < m → (U i).size ≤ 9223372036854775807) (hu : u.size ≤ 9223372036854775807) :
    Calls Try.prog 22 #[.agg #[.slice a n ca, .slice a' m ca'], .agg #[.int .i64 t, .string u]] w fun e w' => DevRes w w' e (wrN n m S T U t u) (wrM n m S T U t u) (wrOK n m S T U t u) S (setT T m t) (setU U m u) := by
  have h0 : ∀ o1 o2 o3, Below w.heap.size w (((w.alloc o1).alloc o2).alloc o3) := fun o1 o2 o3 => ((below_alloc _ _).alloc (by simp) _).alloc (by simp; omega) _
  cases hok : wrOK n m S T U t u
  · have e1 : wrN n m S T U t u = 0 := by simp [wrN, hok]
    have e2 : wrM n m S T U t u = 0 := by simp [wrM, hok]
    rw [e1, e2]
    have hno := of_decide_eq_false hok
    clear hok e1 e2
    cases hg : goodB n m S T U
    · go_enter Try.func22, Try.ntmps22
      go_wp2_with (go_at_call 18; refine (specGood_any a a' n m ca ca' S T U _ hn hm (ha.below (h0 _ _ _)) (ha'.below (h0 _ _ _)) hs hs').mono ?_; rintro e w1 ⟨rfl, b1⟩; obtain ⟨c1, f1⟩ := bcell b1)
      refine bodyPost_ret (v := .tuple #[.agg #[.slice none 0 0, .slice none 0 0], .bool false]) (by simp [results, Try.results22, go_sem, c1]) rfl (DevRes.none ?_ _ _ _)
      refine ((Below.comp (h0 _ _ _) b1).setCell ?_ _).setCell ?_ _ <;> simp <;> omega
    · cases hf : fitB n t u
      · go_enter Try.func22, Try.ntmps22
        go_wp2_with (first | (go_at_call 18; refine (specGood_any a a' n m ca ca' S T U _ hn hm (ha.below (h0 _ _ _)) (ha'.below (h0 _ _ _)) hs hs').mono ?_; rintro e w1 ⟨rfl, b1⟩; obtain ⟨c1, f1⟩ := bcell b1; obtain ⟨z0, z1, z2⟩ : w.heap.size < w1.heap.size ∧ w.heap.size + 1 < w1.heap.size ∧ w.heap.size + 1 + 1 < w1.heap.size := (by have := b1.size; simp at this; omega)) | (go_at_call 54; refine (l1Write_any _ _ _ _ (by omega) hu).mono ?_; rintro e w2 ⟨rfl, b2⟩; obtain ⟨c2, f2⟩ := bcell b2))
        refine bodyPost_ret (v := .tuple #[.agg #[.slice none 0 0, .slice none 0 0], .bool false]) (by simp [results, Try.results22, go_sem, c1, c2, z2]) rfl (DevRes.none ?_ _ _ _)
        refine ((Below.comp (Below.comp (h0 _ _ _) b1) b2).setCell ?_ _).setCell ?_ _ <;> simp <;> omega
      · have h60 : ((m : Int) == 60) = true := by
          have hm60 : m = 60 := Decidable.byContradiction fun h => hno ⟨hg, hf, h⟩
          simp [hm60]
        go_enter Try.func22, Try.ntmps22
        go_wp2_with (first | (go_at_call 18; refine (specGood_any a a' n m ca ca' S T U _ hn hm (ha.below (h0 _ _ _)) (ha'.below (h0 _ _ _)) hs hs').mono ?_; rintro e w1 ⟨rfl, b1⟩; obtain ⟨c1, f1⟩ := bcell b1; obtain ⟨z0, z1, z2⟩ : w.heap.size < w1.heap.size ∧ w.heap.size + 1 < w1.heap.size ∧ w.heap.size + 1 + 1 < w1.heap.size := (by have := b1.size; simp at this; omega)) | (go_at_call 54; refine (l1Write_any _ _ _ _ (by omega) hu).mono ?_; rintro e w2 ⟨rfl, b2⟩; obtain ⟨c2, f2⟩ := bcell b2))
        refine bodyPost_ret (v := .tuple #[.agg #[.slice none 0 0, .slice none 0 0], .bool false]) (by simp [results, Try.results22, go_sem, c1, c2, z2]) rfl (DevRes.none ?_ _ _ _)
        refine ((Below.comp (Below.comp (h0 _ _ _) b1) b2).setCell ?_ _).setCell ?_ _ <;> simp <;> omega
  · have e1 : wrN n m S T U t u = n := by simp [wrN, hok]
    have e2 : wrM n m S T U t u = m + 1 := by simp [wrM, hok]
    rw [e1, e2]
    obtain ⟨hg, hf, h60'⟩ := of_decide_eq_true hok
    obtain ⟨q1, q2, q3, q4, q5⟩ := goodB_spec hg
    have h60 : ((m : Int) == 60) = false := by simp; omega
    clear hok e1 e2 q4 q5 h60'
    go_enter Try.func22, Try.ntmps22
    go_wp2_with fail
    refine (specGood_any a a' n m ca ca' S T U _ hn hm (ha.below (h0 _ _ _)) (ha'.below (h0 _ _ _)) hs hs').mono ?_
    rintro e w1 ⟨rfl, b1⟩
    have g := Below.comp (h0 _ _ _) b1
    have d1 : w1.heap[w.heap.size]? = some (.cells #[.slice a n ca, .slice a' m ca'] 25 (0, 0)) := (b1.block _ (by simp; omega)).trans (block_old (block_old (block_new rfl)))
    have v1 : w1.heap[w.heap.size + 1]? = some (.cells #[.int .i64 t, .string u] 42 (0, 0)) := (b1.block _ (by simp)).trans (block_old (block_new (by simp)))
    have r1 : w1.heap[w.heap.size + 2]? = some (.cells #[.slice none 0 0, .slice none 0 0] 25 (0, 0)) := (b1.block _ (by simp)).trans (block_new (by simp))
    have z : w.heap.size + 3 ≤ w1.heap.size := by have := b1.size; simp at this; omega
    have c0 : w1.cell? ⟨w.heap.size, 0, none⟩ = some (.slice a n ca) := cell_of_block d1 rfl
    have c1 : w1.cell? ⟨w.heap.size, 1, none⟩ = some (.slice a' m ca') := cell_of_block d1 rfl
    have c2 : w1.cell? ⟨w.heap.size + 1, 0, none⟩ = some (.int .i64 t) := cell_of_block v1 rfl
    have c3 : w1.cell? ⟨w.heap.size + 1, 1, none⟩ = some (.string u) := cell_of_block v1 rfl
    have D1 : Hid _ := d1
    have V1 : Hid _ := v1
    have R1 : Hid _ := r1
    clear d1 v1 r1 b1 h0
    go_wp2_with fail
    refine (l1Write_any _ _ _ _ (by omega) hu).mono ?_
    rintro e w2 ⟨rfl, b2⟩
    replace g := Below.comp g b2
    replace c0 := cell_on c0 b2
    replace c1 := cell_on c1 b2
    replace c2 := cell_on c2 b2
    replace c3 := cell_on c3 b2
    have D2 : Hid _ := (b2.block _ (by omega)).trans D1.out
    have V2 : Hid _ := (b2.block _ (by omega)).trans V1.out
    have R2 : Hid _ := (b2.block _ (by omega)).trans R1.out
    have s2 := b2.size
    clear b2 D1 V1 R1
    go_wp2_with fail
    refine (l1Own_any a a' n m ca ca' S T U _ hn hm (ha.below g) (ha'.below g)).mono ?_
    rintro e w3 ⟨b3, x, cx, y, cy, rfl, hox, hoy⟩
    replace g := Below.comp g b3
    have d3 : w3.heap[w.heap.size]? = some (.cells #[.slice a n ca, .slice a' m ca'] 25 (0, 0)) := (b3.block _ (by omega)).trans D2.out
    have v3 : w3.heap[w.heap.size + 1]? = some (.cells #[.int .i64 t, .string u] 42 (0, 0)) := (b3.block _ (by omega)).trans V2.out
    have r3 : w3.heap[w.heap.size + 2]? = some (.cells #[.slice none 0 0, .slice none 0 0] 25 (0, 0)) := (b3.block _ (by omega)).trans R2.out
    replace c0 := cell_on c0 b3
    replace c1 := cell_on c1 b3
    replace c2 := cell_on c2 b3
    replace c3 := cell_on c3 b3
    have f0 := free_of_block (i := 0) d3
    have f1 := free_of_block (i := 1) d3
    have s3 := b3.size
    have s3' : w.heap.size + 1 < w3.heap.size := by omega
    have s3'' : w.heap.size < w3.heap.size := by omega
    have D3 : Hid _ := d3
    have V3 : Hid _ := v3
    have R3 : Hid _ := r3
    have OX : Hid _ := hox
    have OY : Hid _ := hoy
    clear b3 D2 V2 R2 d3 v3 r3 hox hoy
    go_wp2_with (at_builtin; (refine wpList_append_src rfl (.tmp 27) (.tmp 29) 23 rfl (w.heap.size + 3) 42 _ 2 24 Try.underlying23 info42 rfl (by decide) (.slice y m cy) m (wrtCells m T U) rfl (World.ownsRow.alloc (ownsRow_setCell_below (ownsRow_setCell_below (owns_mono OY.out (show w.heap.size + 3 ≤ w2.heap.size by omega)) (a := ⟨w.heap.size, 0, none⟩) (by simp <;> omega) _) (a := ⟨w.heap.size, 1, none⟩) (by simp <;> omega) _) _) (some ⟨w3.heap.size, 0, none⟩) 1 1 [.int .i64 t, .string u] rfl rfl (.inr ⟨_, rfl, by simpa using new_two ((w3.setCell ⟨w.heap.size, 0, none⟩ (.slice x n cx)).setCell ⟨w.heap.size, 1, none⟩ (.slice y m cy)) (.int .i64 t) (.string u) 42⟩) (by intro q hq; simp at hq; rcases hq with rfl | rfl <;> rfl) (by omega) (by omega) (by simp <;> omega) ?_); intro v4 w4 hown4 hgrow4; obtain ⟨y4, cy4, hv4⟩ := owns_form hown4; subst hv4; have d4 : w4.heap[w.heap.size]? = some (.cells #[.slice x n cx, .slice y m cy] 25 (0, 0)) := block_grown hgrow4 (block_old (block_set (block_set D3.out))) (owns_off OY.out (by omega)); have r4 : w4.heap[w.heap.size + 2]? = some (.cells #[.slice none 0 0, .slice none 0 0] 25 (0, 0)) := block_grown hgrow4 (block_old (block_else (by omega) (block_else (by omega) R3.out))) (owns_off OY.out (by omega)); have e0 : w4.cell? ⟨w.heap.size, 0, none⟩ = some (.slice x n cx) := cell_of_block d4 rfl; have e1 : w4.cell? ⟨w.heap.size, 1, none⟩ = some (.slice y m cy) := cell_of_block d4 rfl; have ef := free_of_block (i := 1) d4; have e2 : w4.cell? ⟨w.heap.size + 2, 0, none⟩ = some (.slice none 0 0) := cell_of_block r4 rfl; have e3 : w4.cell? ⟨w.heap.size + 2, 1, none⟩ = some (.slice none 0 0) := cell_of_block r4 rfl; have eg0 := free_of_block (i := 0) r4; have eg1 := free_of_block (i := 1) r4; have ox4 : Hid (w4.ownsRow (w.heap.size + 3) 9 1 (.slice x n cx) n (strCells n S)) := owns_keep (World.ownsRow.alloc (ownsRow_setCell_below (ownsRow_setCell_below (owns_mono OX.out (show w.heap.size + 3 ≤ w2.heap.size by omega)) (a := ⟨w.heap.size, 0, none⟩) (by simp <;> omega) _) (a := ⟨w.heap.size, 1, none⟩) (by simp <;> omega) _) _) hgrow4 (owns_apart (e := 9) (f := 42) (by decide) OX.out OY.out); have bl4 : Hid (Below (w.heap.size + 3) _ w4) := Grown.below hgrow4 (by simp <;> omega) (by intro k hk; have := (World.ownsRow.lt OY.out k hk).1; omega); clear d4 r4 hgrow4 c0 c1 c2 c3 f0 f1)
    have hb4 : Below w.heap.size w w4 := (((g.setCell (p := ⟨w.heap.size, 0, none⟩) (by simp) _).setCell (p := ⟨w.heap.size, 1, none⟩) (by simp) _).alloc (by simp <;> omega) _).trans (bl4.out.mono (by omega))
    refine bodyPost_ret (v := .tuple #[.agg #[.slice x n cx, .slice y4 (m + 1) cy4], .bool true]) (by simp [results, Try.results22, go_sem, e2, e3]) rfl ⟨?_, x, cx, y4, cy4, rfl, ?_, ?_⟩
    · refine ((hb4.setCell ?_ _).setCell ?_ _).setCell ?_ _ <;> simp <;> omega
    · have h3 := ownsRow_setCell_below (ownsRow_setCell_below (ownsRow_setCell_below ox4.out (a := ⟨w.heap.size, 1, none⟩) (by simp <;> omega) (.slice y4 (m + 1) cy4)) (a := ⟨w.heap.size + 2, 0, none⟩) (by simp) (.slice x n cx)) (a := ⟨w.heap.size + 2, 1, none⟩) (by simp) (.slice y4 (m + 1) cy4)
      exact owns_strs (owns_mono h3 (by omega))
    · have h3 := ownsRow_setCell_below (ownsRow_setCell_below (ownsRow_setCell_below hown4 (a := ⟨w.heap.size, 1, none⟩) (by simp <;> omega) (.slice y4 (m + 1) cy4)) (a := ⟨w.heap.size + 2, 0, none⟩) (by simp) (.slice x n cx)) (a := ⟨w.heap.size + 2, 1, none⟩) (by simp) (.slice y4 (m + 1) cy4)
      rw [wrtCells_set] at h3
      exact owns_wrts (owns_mono h3 (by omega))
end Go.Proofs.Ytjalhfpjiakhoaa
