import Derived.Test.YtjalhfpjiakhoaaW4
import Derived.Deep.DeepCutAuto
import Derived.Deep.RegionHeld3
namespace Go.Proofs.Ytjalhfpjiakhoaa
open Go.ChangeShapes Go.WideShapes Go.ChangeAt Go.RowKit
set_option linter.unusedVariables false

set_option maxHeartbeats 400000 in
theorem szDevice_le (a a' : Option Addr) (n m cap cap' : Nat) (S : Nat → ByteArray) (T : Nat → Int) (U : Nat → ByteArray) (left : Int) (w : World) (h0 : 0 ≤ left) (h1 : left ≤ 1048576)
    (hn : n ≤ 9223372036854775807) (hc : At w a n fun i => .string (S i)) (hs : ∀ i, i < n → (S i).size ≤ 9223372036854775807)
    (hn' : m ≤ 9223372036854775807) (hc' : At2 w a' m T U) (hs' : ∀ i, i < m → (U i).size ≤ 9223372036854775807) :
    Calls Try.prog 17 #[.agg #[.slice a n cap, .slice a' m cap'], .int .i64 left] w fun e w' => Below w.heap.size w w' ∧ ∃ r : Int, e = .returned (.int .i64 r) ∧ r ≤ left ∧ (0 ≤ r → (n : Int) ≤ left ∧ (m : Int) ≤ left) := by
  go_enter Try.func17, Try.ntmps17
  go_wp2_with fail
  refine (szStringS_any a n cap S left _ h0 h1 hn (hc.below ((Below.refl _ _).alloc (Nat.le_refl _) _)) hs).mono ?_
  rintro e w1 ⟨rfl, r, rfl, hr1, hr2, hr3⟩
  by_cases hr : r < 0
  · go_wp2
    go_ret
    exact ⟨(Below.refl _ _).alloc (Nat.le_refl _) _, -1, rfl, by omega, by omega⟩
  · go_wp2_with fail
    refine (szWriteS_any a' m cap' T U r _ (by omega) (by omega) hn' (hc'.below ((Below.refl _ _).alloc (Nat.le_refl _) _)) hs').mono ?_
    rintro e w1 ⟨hb1, r', rfl, hr1', hr2', hr3'⟩
    by_cases hr' : r' < 0
    · go_wp2
      go_ret
      exact ⟨((Below.refl _ _).alloc (Nat.le_refl _) _).trans (hb1.mono (by simp)), -1, rfl, by omega, by omega⟩
    · go_wp2
      go_ret
      exact ⟨((Below.refl _ _).alloc (Nat.le_refl _) _).trans (hb1.mono (by simp)), _, rfl, by omega, by omega⟩

theorem wrN_le {n m : Nat} {S : Nat → ByteArray} {T : Nat → Int} {U : Nat → ByteArray} {t : Int} {u : ByteArray} : wrN n m S T U t u ≤ n := by
  unfold wrN
  cases wrOK n m S T U t u <;> simp
theorem wrM_le {n m : Nat} {S : Nat → ByteArray} {T : Nat → Int} {U : Nat → ByteArray} {t : Int} {u : ByteArray} : wrM n m S T U t u ≤ m + 1 := by
  unfold wrM
  cases wrOK n m S T U t u <;> simp

/-- A device in a box of the law's own, and where it lies. -/
def Boxed (w : World) (B C b : Nat) (N M : Nat) (S : Nat → ByteArray) (T : Nat → Int) (U : Nat → ByteArray) : Prop :=
  ∃ x cx y cy, w.cell? ⟨b, 0, none⟩ = some (.slice x N cx) ∧ w.cell? ⟨b, 1, none⟩ = some (.slice y M cy) ∧ MineD w B C x y N M S T U

theorem box_alloc {w : World} {B N M : Nat} {S : Nat → ByteArray} {T : Nat → Int} {U : Nat → ByteArray} {x y : Option Addr} {cx cy : Nat} (mw : MineD w B w.heap.size x y N M S T U) : Boxed (w.alloc (.cells #[.slice x N cx, .slice y M cy] 25)) B w.heap.size w.heap.size N M S T U :=
  ⟨x, cx, y, cy, cell_new0 _ _ _ _, cell_new1 _ _ _ _, mw.below (below_alloc _ _)⟩
theorem box_store {w : World} {B C b N M : Nat} {S : Nat → ByteArray} {T : Nat → Int} {U : Nat → ByteArray} {x y : Option Addr} {cx cy : Nat} {p q : Value} (mw : MineD w B C x y N M S T U) (h0 : w.cell? ⟨b, 0, none⟩ = some p) (h1 : w.cell? ⟨b, 1, none⟩ = some q) (hd : b < B ∨ C ≤ b) :
    Boxed ((w.setCell ⟨b, 0, none⟩ (.slice x N cx)).setCell ⟨b, 1, none⟩ (.slice y M cy)) B C b N M S T U :=
  ⟨x, cx, y, cy, by simp [go_sem, h0], by simp [go_sem, h1], mw.out (((Out.refl b (b + 1) w).setCell (by omega) (by omega) _ _).setCell (by omega) (by omega) _ _) (by omega)⟩

set_option maxRecDepth 100000 in
set_option maxHeartbeats 4000000 in
theorem lawWrite (a a' : Option Addr) (n m ca ca' : Nat) (S : Nat → ByteArray) (T : Nat → Int) (U : Nat → ByteArray) (t : Int) (u : ByteArray) (w : World) (hn : n ≤ 9223372036854775807) (hm : m ≤ 9223372036854775807)
    (ha : At w a n fun i => .string (S i)) (ha' : At2 w a' m T U) (hs : ∀ i, i < n → (S i).size ≤ 9223372036854775807) (hs' : ∀ i, i < m → (U i).size ≤ 9223372036854775807) (hu : u.size ≤ 9223372036854775807) :
    Calls Try.prog 5 #[.agg #[.slice a n ca, .slice a' m ca'], .agg #[.int .i64 t, .string u]] w fun e w' => e = .returned (.bool true) ∧ Below w.heap.size w w' := by
  have h0 : ∀ o1 o2, Below w.heap.size w ((w.alloc o1).alloc o2) := fun o1 o2 => (below_alloc _ _).alloc (by simp) _
  have KS := specWrite_any (n := n) (m := m) (S := S) (T := T) (U := U) (t := t) (u := u)
  have KI := implWrite_any (n := n) (m := m) (S := S) (T := T) (U := U) (t := t) (u := u)
  have hNle : wrN n m S T U t u ≤ n := wrN_le
  have hMle : wrM n m S T U t u ≤ m + 1 := wrM_le
  generalize wrN n m S T U t u = N at KS KI hNle
  generalize wrM n m S T U t u = M at KS KI hMle
  generalize wrOK n m S T U t u = ok at KS KI
  generalize setT T m t = T' at KS KI
  generalize setU U m u = U' at KS KI
  have HS : Hid _ := KS
  have HI : Hid _ := KI
  clear KS KI
  go_enter Try.func5, Try.ntmps5
  go_wp2_with fail
  refine (szDevice_le a a' n m ca ca' S T U _ _ (by omega) (by omega) hn (ha.below (h0 _ _)) hs hm (ha'.below (h0 _ _)) hs').mono ?_
  rintro e w1 ⟨b1, r, rfl, hr0, hr⟩
  have g := Below.comp (h0 _ _) b1
  have y0 : w1.cell? ⟨w.heap.size, 0, none⟩ = some (.slice a n ca) := cell_on (hold_on (cell_new0 w _ _ _)) b1
  have y1 : w1.cell? ⟨w.heap.size, 1, none⟩ = some (.slice a' m ca') := cell_on (hold_on (cell_new1 w _ _ _)) b1
  have v0 : w1.cell? ⟨w.heap.size + 1, 0, none⟩ = some (.int .i64 t) := cell_on (by simp [go_sem]) b1
  have v1 : w1.cell? ⟨w.heap.size + 1, 1, none⟩ = some (.string u) := cell_on (by simp [go_sem]) b1
  have s1 : w.heap.size + 2 ≤ w1.heap.size := by have := b1.size; simpa using this
  clear b1 h0
  by_cases hneg : r < 0
  · go_wp2
    go_ret
    exact ⟨rfl, g⟩
  obtain ⟨hr1, hr2⟩ := hr (by omega)
  have hn' : n ≤ 1048576 := by omega
  have hm' : m ≤ 1048576 := by omega
  clear hr
  go_wp2_with fail
  refine (szWrite_any t u r _ (by omega) hr0 hu).mono ?_
  rintro e w2 ⟨b2, r2, rfl, hr3, hr4⟩
  replace g := Below.comp g b2
  replace y0 := cell_on y0 b2
  replace y1 := cell_on y1 b2
  replace v0 := cell_on v0 b2
  replace v1 := cell_on v1 b2
  have s2 : w1.heap.size ≤ w2.heap.size := b2.size
  clear b2
  by_cases hneg2 : r2 < 0
  · go_wp2
    go_ret
    exact ⟨rfl, g⟩
  have s2' : w.heap.size + 1 < w2.heap.size := by omega
  have s2'' : w.heap.size < w2.heap.size := by omega
  go_wp2
  go_cut [6, 7] (fun p q wx => ∃ B C b, p = .pointer (some ⟨b, 0, none⟩) ∧ q = .bool ok ∧ w2.heap.size ≤ B ∧ B ≤ C ∧ C ≤ wx.heap.size ∧ (b < B ∨ C ≤ b) ∧ w2.heap.size ≤ b ∧ b < wx.heap.size ∧ Boxed wx B C b N M S T' U' ∧ Below w2.heap.size w2 wx)
  case first =>
    have HS2 : Hid (∀ W, Below w2.heap.size w2 W → (W.cell? ⟨w.heap.size, 0, none⟩ = some (.slice a n ca) ∧ W.cell? ⟨w.heap.size, 1, none⟩ = some (.slice a' m ca') ∧ W.cell? ⟨w.heap.size + 1, 0, none⟩ = some (.int .i64 t) ∧ W.cell? ⟨w.heap.size + 1, 1, none⟩ = some (.string u) ∧ Below w2.heap.size w2 W)) := fun W hW => ⟨cell_on y0 hW, cell_on y1 hW, cell_on v0 hW, cell_on v1 hW, hW⟩
    go_region_held3 (fun W => W.cell? ⟨w.heap.size, 0, none⟩ = some (.slice a n ca) ∧ W.cell? ⟨w.heap.size, 1, none⟩ = some (.slice a' m ca') ∧ W.cell? ⟨w.heap.size + 1, 0, none⟩ = some (.int .i64 t) ∧ W.cell? ⟨w.heap.size + 1, 1, none⟩ = some (.string u) ∧ Below w2.heap.size w2 W)
      ((refine HS2.out _ ?_; first | assumption | exact Below.drew (Below.refl _ _) | exact Below.drew (below_alloc _ _) | exact Below.comp (by assumption) (below_alloc _ _) | exact Below.setCell (Below.setCell (by assumption) (by simp <;> omega) _) (by simp <;> omega) _ | exact Below.drew (Below.setCell (Below.setCell (by assumption) (by simp <;> omega) _) (by simp <;> omega) _)))
      (first
      | (go_at_call 19; obtain ⟨-, -, -, -, hw0⟩ := ‹_ ∧ _ ∧ _ ∧ _ ∧ Below w2.heap.size w2 _›; refine (toDevice_any a a' n m ca ca' S T U _ hn' hm' (ha.below (Below.comp g hw0)) (ha'.below (Below.comp g hw0))).mono ?_; rintro e w3 ⟨b3, x3, cx3, y3, cy3, rfl, mx3, my3⟩; have nb3 := Below.comp hw0 b3; have lo3 := nb3.size; obtain ⟨d3, f3⟩ := bcell b3; have z3 := b3.size; (try simp at z3); (try have zz3 : w2.heap.size < w3.heap.size := (by omega)); have mx3' : Mine w3 w2.heap.size w3.heap.size 9 n x3 (strs n S) := mx3.mono hw0.size (Nat.le_refl _); have my3' : Mine w3 w2.heap.size w3.heap.size 42 m y3 (wrts m T U) := my3.mono hw0.size (Nat.le_refl _); clear hw0)
      | (go_at_call 23; obtain ⟨-, -, -, -, hw0⟩ := ‹_ ∧ _ ∧ _ ∧ _ ∧ Below w2.heap.size w2 _›; refine (toWrite_any t u _).mono ?_; rintro e w4 ⟨b4, rfl⟩; have nb4 := Below.comp hw0 b4; have lo4 := nb4.size; obtain ⟨d4, f4⟩ := bcell b4; have z4 := b4.size; (try simp at z4); (try have zz4 : w2.heap.size < w4.heap.size := (by omega)); (try have zy4 : w3.heap.size < w4.heap.size := (by omega)); have mx4 : Mine w4 w2.heap.size w3.heap.size 9 n x3 (strs n S) := Mine.below (by first | exact mx3' | exact Mine.below mx3' (below_alloc _ _)) b4; have my4 : Mine w4 w2.heap.size w3.heap.size 42 m y3 (wrts m T U) := Mine.below (by first | exact my3' | exact Mine.below my3' (below_alloc _ _)) b4; clear hw0)
      | (go_at_call 22; obtain ⟨-, -, -, -, hw0⟩ := ‹_ ∧ _ ∧ _ ∧ _ ∧ Below w2.heap.size w2 _›; refine (HS.out x3 y3 cx3 cy3 _ hn' hm' (Mine.strs (B := w2.heap.size) (C := w3.heap.size) (e := 9) (by first | exact mx4 | exact Mine.below mx4 (below_alloc _ _))) (Mine.wrts (B := w2.heap.size) (C := w3.heap.size) (e := 42) (by first | exact my4 | exact Mine.below my4 (below_alloc _ _))) hs hs' hu).mono ?_; rintro e w5 ⟨b5, xw, cxw, yw, cyw, rfl, mw5⟩; have nb5 := Below.comp hw0 b5; have lo6 := nb5.size; obtain ⟨d5, f5⟩ := bcell b5; have z5 := b5.size; (try simp at z5); have lo5 := hw0.size; clear hw0))
    all_goals go_wp2_with fail
    all_goals go_meet
    · exact ⟨_, _, _, rfl, rfl, lo5, b5.size, by simp, .inr (Nat.le_refl _), by omega, by simp, box_alloc mw5, Below.comp nb5 (below_alloc _ _)⟩
    · exact ⟨_, _, _, rfl, rfl, lo5, b5.size, by simp, .inl (by simp), by omega, by simp; omega, box_store (p := .slice none 0 0) (q := .slice none 0 0) mw5 (by rw [d5 _ _ (by simp)]; simp [go_sem]) (by rw [d5 _ _ (by simp)]; simp [go_sem]) (.inl (by simp)), Below.setCell (Below.setCell nb5 (by simp <;> omega) _) (by simp <;> omega) _⟩
    · exact ⟨_, _, _, rfl, rfl, lo5, b5.size, by simp, .inl (by omega), by omega, by simp; omega, box_store (p := .slice none 0 0) (q := .slice none 0 0) mw5 (by rw [d5 _ _ (by omega), d4 _ _ (by simp)]; simp [go_sem]) (by rw [d5 _ _ (by omega), d4 _ _ (by simp)]; simp [go_sem]) (.inl (by omega)), Below.setCell (Below.setCell nb5 (by simp <;> omega) _) (by simp <;> omega) _⟩
    · exact ⟨_, _, _, rfl, rfl, lo5, b5.size, by simp, .inl (by omega), by omega, by simp; omega, box_store (p := .slice none 0 0) (q := .slice none 0 0) mw5 (by rw [d5 _ _ (by omega), d4 _ _ (by omega), d3 _ _ (by simp)]; simp [go_sem]) (by rw [d5 _ _ (by omega), d4 _ _ (by omega), d3 _ _ (by simp)]; simp [go_sem]) (.inl (by omega)), Below.setCell (Below.setCell nb5 (by simp <;> omega) _) (by simp <;> omega) _⟩
  obtain ⟨BW, CW, bW, rfl, rfl, hBW, hBCW, hCW, hDW, hEW, hFW, hGW, hHW⟩ := hcut
  obtain ⟨xW, cxW, yW, cyW, kW0, kW1, mW⟩ := hGW
  generalize wc = w3 at *
  replace y0 := cell_on y0 hHW
  replace y1 := cell_on y1 hHW
  replace v0 := cell_on v0 hHW
  replace v1 := cell_on v1 hHW
  replace g := Below.comp g hHW
  have s3 : w2.heap.size ≤ w3.heap.size := hHW.size
  clear hHW s2' s2''
  go_wp2_with fail
  refine (toDevice_any a a' n m ca ca' S T U _ hn' hm' (ha.below g) (ha'.below g)).mono ?_
  rintro e w4 ⟨b4, x, cx, y, cy, rfl, mx0, my0⟩
  replace y0 := cell_on y0 b4
  replace y1 := cell_on y1 b4
  replace v0 := cell_on v0 b4
  replace v1 := cell_on v1 b4
  replace kW0 := cell_on kW0 b4
  replace kW1 := cell_on kW1 b4
  replace mW := mW.below b4
  replace g := Below.comp g b4
  have s4 : w3.heap.size ≤ w4.heap.size := b4.size
  have mx : MineD w4 w3.heap.size w4.heap.size x y n m S T U := ⟨mx0, my0⟩
  obtain ⟨t1, t2, t3⟩ : w.heap.size < w4.heap.size ∧ w.heap.size + 1 < w4.heap.size ∧ bW < w4.heap.size := by omega
  clear b4 mx0 my0
  go_wp2
  obtain ⟨w5, hw5⟩ : ∃ w5, w5 = w4.alloc (.cells #[.slice x n cx, .slice y m cy] 25) := ⟨_, rfl⟩
  rw [← hw5]
  have q4 : Below w4.heap.size w4 w5 := by rw [hw5]; exact below_alloc _ _
  have l0 : w5.cell? ⟨w4.heap.size, 0, none⟩ = some (.slice x n cx) := by rw [hw5]; exact cell_new0 _ _ _ _
  have l1 : w5.cell? ⟨w4.heap.size, 1, none⟩ = some (.slice y m cy) := by rw [hw5]; exact cell_new1 _ _ _ _
  have s5 : w4.heap.size + 1 ≤ w5.heap.size := by rw [hw5]; simp
  replace y0 := cell_on y0 q4
  replace y1 := cell_on y1 q4
  replace v0 := cell_on v0 q4
  replace v1 := cell_on v1 q4
  replace kW0 := cell_on kW0 q4
  replace kW1 := cell_on kW1 q4
  replace mW := mW.below q4
  replace mx := mx.below q4
  replace g := Below.comp g q4
  clear hw5 q4 t1 t2 t3
  go_cut [9, 10] (fun p q wx => ∃ B C b, p = .pointer (some ⟨b, 0, none⟩) ∧ q = .bool ok ∧ w5.heap.size ≤ B ∧ B ≤ C ∧ C ≤ wx.heap.size ∧ (b < B ∨ C ≤ b) ∧ w5.heap.size ≤ b ∧ b < wx.heap.size ∧ Boxed wx B C b N M S T' U' ∧ Below w5.heap.size w5 wx)
  case first =>
    have HS2 : Hid (∀ W, Below w5.heap.size w5 W → (W.cell? ⟨w4.heap.size, 0, none⟩ = some (.slice x n cx) ∧ W.cell? ⟨w4.heap.size, 1, none⟩ = some (.slice y m cy) ∧ W.cell? ⟨w.heap.size + 1, 0, none⟩ = some (.int .i64 t) ∧ W.cell? ⟨w.heap.size + 1, 1, none⟩ = some (.string u) ∧ Below w5.heap.size w5 W)) := fun W hW => ⟨cell_on l0 hW, cell_on l1 hW, cell_on v0 hW, cell_on v1 hW, hW⟩
    go_region_held3 (fun W => W.cell? ⟨w4.heap.size, 0, none⟩ = some (.slice x n cx) ∧ W.cell? ⟨w4.heap.size, 1, none⟩ = some (.slice y m cy) ∧ W.cell? ⟨w.heap.size + 1, 0, none⟩ = some (.int .i64 t) ∧ W.cell? ⟨w.heap.size + 1, 1, none⟩ = some (.string u) ∧ Below w5.heap.size w5 W)
      ((refine HS2.out _ ?_; first | assumption | exact Below.drew (Below.refl _ _) | exact Below.drew (below_alloc _ _) | exact Below.comp (by assumption) (below_alloc _ _) | exact Below.setCell (Below.setCell (by assumption) (by simp <;> omega) _) (by simp <;> omega) _ | exact Below.drew (Below.setCell (Below.setCell (by assumption) (by simp <;> omega) _) (by simp <;> omega) _)))
      (first
      | (go_at_call 23; obtain ⟨-, -, -, -, hw0⟩ := ‹_ ∧ _ ∧ _ ∧ _ ∧ Below w5.heap.size w5 _›; refine (toWrite_any t u _).mono ?_; rintro e w4 ⟨b4, rfl⟩; have nb4 := Below.comp hw0 b4; have lo4 := nb4.size; obtain ⟨d4, f4⟩ := bcell b4; have z4 := b4.size; (try simp at z4); (try have zz4 : w5.heap.size < w4.heap.size := (by omega)); clear hw0)
      | (go_at_call 24; obtain ⟨-, -, -, -, hw0⟩ := ‹_ ∧ _ ∧ _ ∧ _ ∧ Below w5.heap.size w5 _›; refine (HI.out x y cx cy _ hn' hm' (mx.below hw0).1.strs (mx.below hw0).2.wrts hs hs' hu).mono ?_; rintro e w5 ⟨b5, xw, cxw, yw, cyw, rfl, mw5⟩; have nb5 := Below.comp hw0 b5; have lo6 := nb5.size; obtain ⟨d5, f5⟩ := bcell b5; have z5 := b5.size; (try simp at z5); have lo5 := hw0.size; clear hw0))
    all_goals go_wp2_with fail
    all_goals go_meet
    · exact ⟨_, _, _, rfl, rfl, lo5, b5.size, by simp, .inr (Nat.le_refl _), by omega, by simp, box_alloc mw5, Below.comp nb5 (below_alloc _ _)⟩
    · exact ⟨_, _, _, rfl, rfl, lo5, b5.size, by simp, .inl (by simp), by omega, by simp; omega, box_store (p := .slice none 0 0) (q := .slice none 0 0) mw5 (by rw [d5 _ _ (by simp)]; simp [go_sem]) (by rw [d5 _ _ (by simp)]; simp [go_sem]) (.inl (by simp)), Below.setCell (Below.setCell nb5 (by simp <;> omega) _) (by simp <;> omega) _⟩
    · exact ⟨_, _, _, rfl, rfl, lo5, b5.size, by simp, .inl (by omega), by omega, by simp; omega, box_store (p := .slice none 0 0) (q := .slice none 0 0) mw5 (by rw [d5 _ _ (by omega), d4 _ _ (by simp)]; simp [go_sem]) (by rw [d5 _ _ (by omega), d4 _ _ (by simp)]; simp [go_sem]) (.inl (by omega)), Below.setCell (Below.setCell nb5 (by simp <;> omega) _) (by simp <;> omega) _⟩
  obtain ⟨BG, CG, bG, rfl, rfl, hBG, hBCG, hCG, hDG, hEG, hFG, hGG, hHG⟩ := hcut
  obtain ⟨xG, cxG, yG, cyG, kG0, kG1, mG⟩ := hGG
  generalize wc = w6 at *
  replace y0 := cell_on y0 hHG
  replace y1 := cell_on y1 hHG
  replace v0 := cell_on v0 hHG
  replace v1 := cell_on v1 hHG
  replace kW0 := cell_on kW0 hHG
  replace kW1 := cell_on kW1 hHG
  replace l0 := cell_on l0 hHG
  replace l1 := cell_on l1 hHG
  replace mW := mW.below hHG
  replace mx := mx.below hHG
  replace g := Below.comp g hHG
  have s6 : w5.heap.size ≤ w6.heap.size := hHG.size
  clear hHG
  go_wp2_with fail
  refine (eqDevice_any xG yG xW yW N M cxG cyG cxW cyW S T' U' _ (by omega) (by omega) mG.1.strs mG.2.wrts mW.1.strs mW.2.wrts).mono ?_
  rintro e w7 ⟨rfl, b7⟩
  replace y0 := cell_on y0 b7
  replace y1 := cell_on y1 b7
  replace v0 := cell_on v0 b7
  replace v1 := cell_on v1 b7
  replace kW0 := cell_on kW0 b7
  replace kW1 := cell_on kW1 b7
  replace l0 := cell_on l0 b7
  replace l1 := cell_on l1 b7
  replace kG0 := cell_on kG0 b7
  replace kG1 := cell_on kG1 b7
  replace mW := mW.below b7
  replace mx := mx.below b7
  replace mG := mG.below b7
  replace g := Below.comp g b7
  have s7 : w6.heap.size ≤ w7.heap.size := b7.size
  clear b7
  go_wp2
  go_cut [56] (fun c wx => c = .bool false ∧ Below w7.heap.size w7 wx)
  case first =>
    go_region_with (first
      | (go_at_call 19; refine (toDevice_any a a' n m ca ca' S T U _ hn' hm' (ha.below g.drew) (ha'.below g.drew)).mono ?_; rintro e w8 ⟨b8, x2, cx2, y2, cy2, rfl, mx2, my2⟩; have l0' := cell_on (w := w7.drew) l0 b8; have l1' := cell_on (w := w7.drew) l1 b8; have mx' := MineD.below (w := w7.drew) mx b8)
      | (go_at_call 14; refine (eqDevice_any _ _ _ _ _ _ _ _ _ _ S T U _ hn hm mx'.1.strs mx'.2.wrts mx2.strs my2.wrts).mono ?_; rintro e w9 ⟨rfl, b9⟩; have b9' := Below.comp (b := w7.drew) (Below.drew (Below.refl w7.heap.size w7)) (Below.comp b8 b9)))
    all_goals go_wp2_with fail
    all_goals go_meet
    all_goals exact ⟨rfl, b9'⟩
  obtain ⟨rfl, b8⟩ := hcut
  generalize wc = w8 at *
  replace y0 := cell_on y0 b8
  replace y1 := cell_on y1 b8
  replace v0 := cell_on v0 b8
  replace v1 := cell_on v1 b8
  replace kW0 := cell_on kW0 b8
  replace kW1 := cell_on kW1 b8
  replace l0 := cell_on l0 b8
  replace l1 := cell_on l1 b8
  replace kG0 := cell_on kG0 b8
  replace kG1 := cell_on kG1 b8
  replace mW := mW.below b8
  replace mx := mx.below b8
  replace mG := mG.below b8
  replace g := Below.comp g b8
  have s8 : w7.heap.size ≤ w8.heap.size := b8.size
  clear b8
  go_wp2_with fail
  refine (markDevice_any w3.heap.size w4.heap.size x y n m cx cy S T U 1 _ (by omega) (by omega) (by omega) mx).mono ?_
  rintro e w9 ⟨rfl, o9, mx9⟩
  replace y0 := Out.cell o9 y0 (by omega)
  replace y1 := Out.cell o9 y1 (by omega)
  replace v0 := Out.cell o9 v0 (by omega)
  replace v1 := Out.cell o9 v1 (by omega)
  replace kW0 := Out.cell o9 kW0 (by omega)
  replace kW1 := Out.cell o9 kW1 (by omega)
  replace l0 := Out.cell o9 l0 (by omega)
  replace l1 := Out.cell o9 l1 (by omega)
  replace kG0 := Out.cell o9 kG0 (by omega)
  replace kG1 := Out.cell o9 kG1 (by omega)
  replace mW := mW.out o9 (by omega)
  replace mG := mG.out o9 (by omega)
  replace g := g.trans (Below.mono (Out.below o9 (by omega)) (by omega))
  have s9 : w8.heap.size ≤ w9.heap.size := o9.size
  clear o9 mx mx9
  have hk9 : decide (((1 + n + 2 * m : Nat) : Int) < 0) = false := by simp; omega
  go_wp2_with fail
  refine (eqDevice_any xG yG xW yW N M cxG cyG cxW cyW S T' U' _ (by omega) (by omega) mG.1.strs mG.2.wrts mW.1.strs mW.2.wrts).mono ?_
  rintro e w10 ⟨rfl, b10⟩
  replace y0 := cell_on y0 b10
  replace y1 := cell_on y1 b10
  replace v0 := cell_on v0 b10
  replace v1 := cell_on v1 b10
  replace kW0 := cell_on kW0 b10
  replace kW1 := cell_on kW1 b10
  replace l0 := cell_on l0 b10
  replace l1 := cell_on l1 b10
  replace kG0 := cell_on kG0 b10
  replace kG1 := cell_on kG1 b10
  replace mW := mW.below b10
  replace mG := mG.below b10
  replace g := Below.comp g b10
  have s10 : w9.heap.size ≤ w10.heap.size := b10.size
  clear b10 hk9
  go_wp2_with fail
  refine (markDevice_any BG CG xG yG N M cxG cyG S T' U' 1 _ (by omega) (by omega) (by omega) mG).mono ?_
  rintro e w11 ⟨rfl, o11, mg11⟩
  replace y0 := Out.cell o11 y0 (by omega)
  replace y1 := Out.cell o11 y1 (by omega)
  replace v0 := Out.cell o11 v0 (by omega)
  replace v1 := Out.cell o11 v1 (by omega)
  replace kW0 := Out.cell o11 kW0 (by omega)
  replace kW1 := Out.cell o11 kW1 (by omega)
  replace l0 := Out.cell o11 l0 (by omega)
  replace l1 := Out.cell o11 l1 (by omega)
  replace kG0 := Out.cell o11 kG0 (by omega)
  replace kG1 := Out.cell o11 kG1 (by omega)
  replace mW := mW.out o11 (by omega)
  replace g := g.trans (Below.mono (Out.below o11 (by omega)) (by omega))
  have s11 : w10.heap.size ≤ w11.heap.size := o11.size
  clear o11 mG
  go_wp2_with fail
  refine (heldDevice_any xG yG N M cxG cyG 1 _ (by omega) (by omega) mg11.1.strs mg11.2.wrts).mono ?_
  rintro e w12 ⟨rfl, b12⟩
  replace y0 := cell_on y0 b12
  replace y1 := cell_on y1 b12
  replace v0 := cell_on v0 b12
  replace v1 := cell_on v1 b12
  replace kW0 := cell_on kW0 b12
  replace kW1 := cell_on kW1 b12
  replace l0 := cell_on l0 b12
  replace l1 := cell_on l1 b12
  replace kG0 := cell_on kG0 b12
  replace kG1 := cell_on kG1 b12
  replace mW := mW.below b12
  replace mg11 := mg11.below b12
  replace g := Below.comp g b12
  have s12 : w11.heap.size ≤ w12.heap.size := b12.size
  have hk12 : ¬ (((1 + N + 2 * M : Nat) : Int) < 0) := by omega
  clear b12
  go_wp2
  go_cut [14, 15] (fun p q wx => ∃ B C b, p = .pointer (some ⟨b, 0, none⟩) ∧ q = .bool ok ∧ w12.heap.size ≤ B ∧ B ≤ C ∧ C ≤ wx.heap.size ∧ (b < B ∨ C ≤ b) ∧ w12.heap.size ≤ b ∧ b < wx.heap.size ∧ Boxed wx B C b N M S T' U' ∧ Below w12.heap.size w12 wx)
  case first =>
    have HS2 : Hid (∀ W, Below w12.heap.size w12 W → (W.cell? ⟨w.heap.size, 0, none⟩ = some (.slice a n ca) ∧ W.cell? ⟨w.heap.size, 1, none⟩ = some (.slice a' m ca') ∧ W.cell? ⟨w.heap.size + 1, 0, none⟩ = some (.int .i64 t) ∧ W.cell? ⟨w.heap.size + 1, 1, none⟩ = some (.string u) ∧ Below w12.heap.size w12 W)) := fun W hW => ⟨cell_on y0 hW, cell_on y1 hW, cell_on v0 hW, cell_on v1 hW, hW⟩
    go_region_held3 (fun W => W.cell? ⟨w.heap.size, 0, none⟩ = some (.slice a n ca) ∧ W.cell? ⟨w.heap.size, 1, none⟩ = some (.slice a' m ca') ∧ W.cell? ⟨w.heap.size + 1, 0, none⟩ = some (.int .i64 t) ∧ W.cell? ⟨w.heap.size + 1, 1, none⟩ = some (.string u) ∧ Below w12.heap.size w12 W)
      ((refine HS2.out _ ?_; first | assumption | exact Below.drew (Below.refl _ _) | exact Below.drew (below_alloc _ _) | exact Below.comp (by assumption) (below_alloc _ _) | exact Below.setCell (Below.setCell (by assumption) (by simp <;> omega) _) (by simp <;> omega) _ | exact Below.drew (Below.setCell (Below.setCell (by assumption) (by simp <;> omega) _) (by simp <;> omega) _)))
      (first
      | (go_at_call 19; obtain ⟨-, -, -, -, hw0⟩ := ‹_ ∧ _ ∧ _ ∧ _ ∧ Below w12.heap.size w12 _›; refine (toDevice_any a a' n m ca ca' S T U _ hn' hm' (ha.below (Below.comp g hw0)) (ha'.below (Below.comp g hw0))).mono ?_; rintro e w3 ⟨b3, x3, cx3, y3, cy3, rfl, mx3, my3⟩; have nb3 := Below.comp hw0 b3; have lo3 := nb3.size; obtain ⟨d3, f3⟩ := bcell b3; have z3 := b3.size; (try simp at z3); (try have zz3 : w12.heap.size < w3.heap.size := (by omega)); have mx3' : Mine w3 w12.heap.size w3.heap.size 9 n x3 (strs n S) := mx3.mono hw0.size (Nat.le_refl _); have my3' : Mine w3 w12.heap.size w3.heap.size 42 m y3 (wrts m T U) := my3.mono hw0.size (Nat.le_refl _); clear hw0)
      | (go_at_call 23; obtain ⟨-, -, -, -, hw0⟩ := ‹_ ∧ _ ∧ _ ∧ _ ∧ Below w12.heap.size w12 _›; refine (toWrite_any t u _).mono ?_; rintro e w4 ⟨b4, rfl⟩; have nb4 := Below.comp hw0 b4; have lo4 := nb4.size; obtain ⟨d4, f4⟩ := bcell b4; have z4 := b4.size; (try simp at z4); (try have zz4 : w12.heap.size < w4.heap.size := (by omega)); (try have zy4 : w3.heap.size < w4.heap.size := (by omega)); have mx4 : Mine w4 w12.heap.size w3.heap.size 9 n x3 (strs n S) := Mine.below (by first | exact mx3' | exact Mine.below mx3' (below_alloc _ _)) b4; have my4 : Mine w4 w12.heap.size w3.heap.size 42 m y3 (wrts m T U) := Mine.below (by first | exact my3' | exact Mine.below my3' (below_alloc _ _)) b4; clear hw0)
      | (go_at_call 24; obtain ⟨-, -, -, -, hw0⟩ := ‹_ ∧ _ ∧ _ ∧ _ ∧ Below w12.heap.size w12 _›; refine (HI.out x3 y3 cx3 cy3 _ hn' hm' (Mine.strs (B := w12.heap.size) (C := w3.heap.size) (e := 9) (by first | exact mx4 | exact Mine.below mx4 (below_alloc _ _))) (Mine.wrts (B := w12.heap.size) (C := w3.heap.size) (e := 42) (by first | exact my4 | exact Mine.below my4 (below_alloc _ _))) hs hs' hu).mono ?_; rintro e w5 ⟨b5, xw, cxw, yw, cyw, rfl, mw5⟩; have nb5 := Below.comp hw0 b5; have lo6 := nb5.size; obtain ⟨d5, f5⟩ := bcell b5; have z5 := b5.size; (try simp at z5); have lo5 := hw0.size; clear hw0))
    all_goals go_wp2_with fail
    all_goals go_meet
    · exact ⟨_, _, _, rfl, rfl, lo5, b5.size, by simp, .inr (Nat.le_refl _), by omega, by simp, box_alloc mw5, Below.comp nb5 (below_alloc _ _)⟩
    · exact ⟨_, _, _, rfl, rfl, lo5, b5.size, by simp, .inl (by simp), by omega, by simp; omega, box_store (p := .slice none 0 0) (q := .slice none 0 0) mw5 (by rw [d5 _ _ (by simp)]; simp [go_sem]) (by rw [d5 _ _ (by simp)]; simp [go_sem]) (.inl (by simp)), Below.setCell (Below.setCell nb5 (by simp <;> omega) _) (by simp <;> omega) _⟩
    · exact ⟨_, _, _, rfl, rfl, lo5, b5.size, by simp, .inl (by omega), by omega, by simp; omega, box_store (p := .slice none 0 0) (q := .slice none 0 0) mw5 (by rw [d5 _ _ (by omega), d4 _ _ (by simp)]; simp [go_sem]) (by rw [d5 _ _ (by omega), d4 _ _ (by simp)]; simp [go_sem]) (.inl (by omega)), Below.setCell (Below.setCell nb5 (by simp <;> omega) _) (by simp <;> omega) _⟩
    · exact ⟨_, _, _, rfl, rfl, lo5, b5.size, by simp, .inl (by omega), by omega, by simp; omega, box_store (p := .slice none 0 0) (q := .slice none 0 0) mw5 (by rw [d5 _ _ (by omega), d4 _ _ (by omega), d3 _ _ (by simp)]; simp [go_sem]) (by rw [d5 _ _ (by omega), d4 _ _ (by omega), d3 _ _ (by simp)]; simp [go_sem]) (.inl (by omega)), Below.setCell (Below.setCell nb5 (by simp <;> omega) _) (by simp <;> omega) _⟩
  obtain ⟨BH, CH, bH, rfl, rfl, hBH, hBCH, hCH, hDH, hEH, hFH, hGH, hHH⟩ := hcut
  obtain ⟨xH, cxH, yH, cyH, kH0, kH1, mH⟩ := hGH
  generalize wc = w13 at *
  replace y0 := cell_on y0 hHH
  replace y1 := cell_on y1 hHH
  replace v0 := cell_on v0 hHH
  replace v1 := cell_on v1 hHH
  replace kW0 := cell_on kW0 hHH
  replace kW1 := cell_on kW1 hHH
  replace l0 := cell_on l0 hHH
  replace l1 := cell_on l1 hHH
  replace kG0 := cell_on kG0 hHH
  replace kG1 := cell_on kG1 hHH
  replace mW := mW.below hHH
  replace mg11 := mg11.below hHH
  replace g := Below.comp g hHH
  have s13 : w12.heap.size ≤ w13.heap.size := hHH.size
  clear hHH
  go_wp2_with fail
  refine (eqDevice_any xH yH xW yW N M cxH cyH cxW cyW S T' U' _ (by omega) (by omega) mH.1.strs mH.2.wrts mW.1.strs mW.2.wrts).mono ?_
  rintro e w15 ⟨rfl, b15⟩
  replace y0 := cell_on y0 b15
  replace y1 := cell_on y1 b15
  replace v0 := cell_on v0 b15
  replace v1 := cell_on v1 b15
  replace kW0 := cell_on kW0 b15
  replace kW1 := cell_on kW1 b15
  replace l0 := cell_on l0 b15
  replace l1 := cell_on l1 b15
  replace kG0 := cell_on kG0 b15
  replace kG1 := cell_on kG1 b15
  replace kH0 := cell_on kH0 b15
  replace kH1 := cell_on kH1 b15
  replace mW := mW.below b15
  replace mg11 := mg11.below b15
  replace mH := mH.below b15
  replace g := Below.comp g b15
  clear b15
  go_wp2_with fail
  refine (heldDevice_any xG yG N M cxG cyG 1 _ (by omega) (by omega) mg11.1.strs mg11.2.wrts).mono ?_
  rintro e w16 ⟨rfl, b16⟩
  replace y0 := cell_on y0 b16
  replace y1 := cell_on y1 b16
  replace v0 := cell_on v0 b16
  replace v1 := cell_on v1 b16
  replace kW0 := cell_on kW0 b16
  replace kW1 := cell_on kW1 b16
  replace l0 := cell_on l0 b16
  replace l1 := cell_on l1 b16
  replace kG0 := cell_on kG0 b16
  replace kG1 := cell_on kG1 b16
  replace kH0 := cell_on kH0 b16
  replace kH1 := cell_on kH1 b16
  replace mW := mW.below b16
  replace mg11 := mg11.below b16
  replace mH := mH.below b16
  replace g := Below.comp g b16
  go_wp2
  go_ret
  exact ⟨rfl, g⟩
end Go.Proofs.Ytjalhfpjiakhoaa
