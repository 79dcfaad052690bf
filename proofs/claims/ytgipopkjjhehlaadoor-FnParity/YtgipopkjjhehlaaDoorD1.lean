import Derived.Test.YtgipopkjjhehlaaDoorJ2
import Derived.Test.YtgipopkjjhehlaaDoorX6
import Derived.OwnWalk
namespace Go.Proofs.YtgipopkjjhehlaaDoor
open Go.ChangeShapes Go.WideShapes Go.ChangeAt Go.RowKit
set_option linter.unusedVariables false
open GF

theorem Out.grown {B C : Nat} {w wr w2 : World} {row : Option Nat} (h : Out B C w wr) (hg : wr.grownBy w2 row) (hr : ∀ k, row = some k → w.heap.size ≤ k) : Out B C w w2 := by
  have hb : Below w.heap.size wr w2 := (Below.refl _ _).grown hg h.size hr
  exact ⟨hb.os.trans h.os, hb.tape.trans h.tape, hb.output.trans h.output, Nat.le_trans h.size hb.size, fun i hi hd => (hb.block i hi).trans (h.block i hi hd)⟩
theorem strCells_snoc (k : Nat) (S : Nat → ByteArray) (u : ByteArray) : strCells k S ++ [.string u] = strCells (k + 1) (upD S k u) := by
  unfold strCells
  rw [List.range_succ, List.map_append]
  congr 1
  · exact List.map_congr_left fun i hi => by
      have := List.mem_range.1 hi
      unfold upD; rw [if_neg (by omega)]
  · simp [upD]
theorem owns_block {w : World} {B : Nat} {v : Value} {n : Nat} {xs : List Value} {e : TypeId} (h : w.ownsRow B e 1 v n xs) : ∀ k, v.ownBlock = some k → B ≤ k := by
  intro k hk
  rcases h.2 with ⟨rfl, _⟩ | ⟨g, cap, cur, rfl, q2, q3, q4⟩
  · cases hk
  · simp [Value.ownBlock] at hk; omega
theorem owns_on {w w' : World} {B B' C' : Nat} {v : Value} {n : Nat} {xs : List Value} {e : TypeId} (h : w.ownsRow B e 1 v n xs) (hb : Out B' C' w w') (hd : C' ≤ B) : w'.ownsRow B e 1 v n xs := by
  refine ⟨h.1, ?_⟩
  rcases h.2 with q | ⟨g, cap, cur, q1, q2, q3, q4⟩
  · exact .inl q
  · exact .inr ⟨g, cap, cur, q1, q2, (hb.block g (Array.getElem?_eq_some_iff.1 q3).1 (by omega)).trans q3, q4⟩
theorem news1s (w : World) (a : Value) (t : TypeId) : ∀ j u, ([a] : List Value)[j]? = some u → (w.alloc (.cells #[a] t)).cell? ((⟨w.heap.size, 0, none⟩ : Addr).add j) = some u := by
  intro j u h
  have hj : j < 1 := by rcases Nat.lt_or_ge j 1 with q | q; exact q; simp [List.getElem?_eq_none (l := [a]) (i := j) (by simpa using q)] at h
  obtain rfl : j = 0 := by omega
  simp at h; subst h
  exact cell_of_block (heap_alloc_new w _) rfl
theorem one1s (u : ByteArray) : ∀ v ∈ ([.string u] : List Value), v.oneCell' = true := by intro v hu; simp at hu; subst hu; rfl
/-- A row of texts of its own, or nil. -/
theorem owns_texts {w : World} {B : Nat} {v : Value} {n : Nat} {S : Nat → ByteArray} (h : w.ownsRow B 9 1 v n (strCells n S)) :
    ∃ (x : Option Addr) (cx : Nat), v = .slice x n cx ∧ (n ≠ 0 → ∃ g cur, x = some ⟨g, 0, none⟩ ∧ B ≤ g ∧ w.heap[g]? = some (.cells cur 9 (0, 0)) ∧ strs n S cur) := by
  rcases h.2 with ⟨rfl, rfl⟩ | ⟨g, cap, cur, rfl, q2, q3, q4, q5, q6, q7⟩
  · exact ⟨none, 0, rfl, fun h => absurd rfl h⟩
  · refine ⟨_, _, rfl, fun _ => ⟨g, cur, rfl, q2, q3, fun i hi => ?_⟩⟩
    have : (cur.toList.take (n * 1))[i]? = some (.string (S i)) := by rw [q7]; exact strCells_at n S hi
    rw [List.getElem?_take_of_lt (by omega)] at this
    simpa using this
def xText : ByteArray := ⟨#[120]⟩
theorem app_size (u : ByteArray) : (u ++ xText).size = u.size + 1 := by simp [ByteArray.size_append, xText]; rfl

set_option maxRecDepth 100000 in
set_option maxHeartbeats 2000000 in
theorem data_any (D : Nat) (a : Option Addr) (n cap : Nat) (w : World) (hn : n ≤ 9223372036854775807) (h : Cur w D a n cap 0) :
    Calls Tryd.prog 23 #[.pointer (some ⟨D, 0, none⟩)] w fun e w' => ∃ (x : Option Addr) (N cx : Nat) (S : Nat → ByteArray), e = .returned (.slice x N cx) ∧ N ≤ 17 ∧ (∀ i, i < N → (S i).size ≤ 42) ∧ At w' x N (fun i => .string (S i)) ∧ Out D (D + 1) w w' ∧ Cur w' D a n cap 5000 := by
  obtain ⟨i0, hi, hz0, hz1, hz2⟩ := info_parts info9
  have hDw := h.lt
  go_enter Tryd.func23, Tryd.ntmps23
  go_wp2_with fail
  refine (pick_any 6 D a n cap 0 _ (by omega) (by omega) hn (by omega) h).mono ?_
  rintro e w1 ⟨s0, rfl, hs0, o1, c1⟩
  clear h
  go_wp2_with fail
  refine (one_any 20 D a n cap 2 _ (by omega) (by omega) hn (by omega) c1).mono ?_
  rintro e w2 ⟨rb, rfl, o2, c2⟩
  have o12 := o1.trans o2
  clear o1 o2 c1
  go_upto_if 9 with (fail)
  go_cut [3] (fun s wx => ∃ sz : Nat, sz ≤ 41 ∧ s = .int .i64 (sz : Int) ∧ Out D (D + 1) w wx ∧ Cur wx D a n cap 10)
  case first =>
    cases rb
    · go_wp2
      go_meet
      exact ⟨s0, by omega, rfl, o12, c2.mono (by omega)⟩
    · go_wp2_with fail
      refine (pick_any 2 D a n cap 4 _ (by omega) (by omega) hn (by omega) c2).mono ?_
      rintro e w3 ⟨q, rfl, hq, o3, c3⟩
      go_wp2
      go_meet
      exact ⟨40 + q, by omega, by simp, o12.trans o3, c3.mono (by omega)⟩
  obtain ⟨sz, hsz, rfl, o3, c3⟩ := hcut
  generalize wc = w3 at *
  clear o12 c2 hs0
  go_wp2_with fail
  refine (pick_any 5 D a n cap 10 _ (by omega) (by omega) hn (by omega) c3).mono ?_
  rintro e w4 ⟨n0, rfl, hn0, o4, c4⟩
  go_wp2_with fail
  refine (one_any 20 D a n cap 12 _ (by omega) (by omega) hn (by omega) c4).mono ?_
  rintro e w5 ⟨rb2, rfl, o5, c5⟩
  have o35 := (o3.trans o4).trans o5
  clear o3 o4 o5 c3 c4
  go_upto_if 17 with (fail)
  go_cut [5] (fun s wx => ∃ m : Nat, m ≤ 17 ∧ s = .int .i64 (m : Int) ∧ Out D (D + 1) w wx ∧ Cur wx D a n cap 20)
  case first =>
    cases rb2
    · go_wp2
      go_meet
      exact ⟨1 + n0, by omega, by simp, o35, c5.mono (by omega)⟩
    · have hD5 := c5.lt
      go_wp2_with fail
      refine (among_any 3 D w5.heap.size (fun i => ([0, 16, 17] : List Int).getD i 0) a n cap 14 3 _ (by omega) (by omega) hn (by omega) (by omega) ?_ (c5.below (below_alloc _ _))).mono ?_
      · intro i hi
        refine cell_of_block (heap_alloc_new w5 _) ?_
        rcases (by omega : i = 0 ∨ i = 1 ∨ i = 2) with rfl | rfl | rfl <;> rfl
      rintro e w6 ⟨r2, rfl, hr2, o6, c6⟩
      have hb : ∃ q : Nat, ([0, 16, 17] : List Int).getD r2 0 = (q : Int) ∧ q ≤ 17 := by
        rcases (by omega : r2 = 0 ∨ r2 = 1 ∨ r2 = 2) with rfl | rfl | rfl
        · exact ⟨0, rfl, by omega⟩
        · exact ⟨16, rfl, by omega⟩
        · exact ⟨17, rfl, by omega⟩
      obtain ⟨q, hq, hq2⟩ := hb
      simp only [hq]
      go_wp2
      go_meet
      exact ⟨q, hq2, rfl, (o35.trans (Out.of_below (below_alloc _ _))).trans o6, c6.mono (by omega)⟩
  obtain ⟨m0, hm0, rfl, o6, c6⟩ := hcut
  generalize wc = w6 at *
  clear o35 c5 hn0
  go_wp2
  go_loopw [4, 5] (fun v i wr => ∃ (m k : Nat) (S : Nat → ByteArray), k + m ≤ 17 ∧ i = .int .i64 (m : Int) ∧ wr.ownsRow w.heap.size 9 1 v k (strCells k S) ∧ Hid (∀ i, i < k → (S i).size ≤ 41) ∧ Out D (D + 1) w wr ∧ Cur wr D a n cap (20 + 100 * k)) (fun _ i _ => (intOf i).toNat)
  case atStart => exact ⟨m0, 0, fun _ => ⟨#[]⟩, by omega, rfl, World.ownsRow_nil _ _ _ _, fun i hi => absurd hi (by omega), o6, c6⟩
  case round =>
    obtain ⟨m, k, S, hmk, rfl, hown, HS, ho, hcu⟩ := hrel
    clear o6 c6
    by_cases hgo : 0 < m
    · have hm' : (0 : Int) < (m : Int) := by omega
      go_wp2_with fail
      refine (text_any sz D a n cap (20 + 100 * k) _ (by omega) hn (by omega) hcu).mono ?_
      rintro e w7 ⟨u, rfl, hu, o7, c7⟩
      have hown7 := owns_on hown o7 (by omega)
      have o8 := ho.trans o7
      have hz8 := o8.size
      have HN : Hid _ := strCells_snoc k S u
      have HS' : Hid (∀ i, i < k + 1 → (upD S k u i).size ≤ 41) := fun i hi' => by
        unfold upD; split
        · omega
        · exact HS.out i (by omega)
      clear hown ho hcu o7 HS
      go_wp2_with (at_builtin; refine wpList_append_own _ rfl _ _ 23 rfl w.heap.size 9 i0 _ 1 16 Tryd.underlying23 hi hz0 hz1 hz2 rfl (by decide) u4 k (strCells k S) rfl (hown7.alloc _) ⟨w7.heap.size, 0, none⟩ 1 1 [.string u] rfl rfl (news1s _ _ _) (one1s _) (by unfold maxLen; omega) (by omega) (by simp; omega) ?_; intro v' w8 hown8 hgrow _)
      rw [HN.out] at hown8
      have o9 := (o8.alloc (.cells #[.string u] 9)).grown hgrow (owns_block hown7)
      have c9 : Cur w8 D a n cap (20 + 100 * (k + 1)) := ((c7.below (below_alloc _ _)).low ((Below.refl _ _).grown hgrow (by simp; omega) (fun q e => by have := owns_block hown7 q e; omega))).mono (by omega)
      go_roundw
      case rel => exact ⟨m - 1, k + 1, upD S k u, by omega, by congr 1; omega, hown8, HS', o9, c9⟩
      case measure => simp [intOf]; omega
    · obtain rfl : m = 0 := by omega
      obtain ⟨x, cx, rfl, hx⟩ := owns_texts hown
      clear hown hgo
      by_cases hk0 : k = 0
      · subst hk0
        clear hx
        go_wp2
        go_ret
        exact ⟨x, 0, cx, S, rfl, by omega, fun i hi => absurd hi (by omega), fun h => absurd rfl h, ho, hcu.mono (by omega)⟩
      · have hk' : (0 : Int) < (k : Int) := by omega
        obtain ⟨g, cur, rfl, hBg, hg, hst⟩ := hx hk0
        clear hx
        go_wp2_with fail
        refine (one_any 30 D a n cap (20 + 100 * k) _ (by omega) (by omega) hn (by omega) hcu).mono ?_
        rintro e w9 ⟨rb3, rfl, o9, c9⟩
        have hg9 : w9.heap[g]? = some (.cells cur 9 (0, 0)) := box_out hg o9 (.inr (by omega))
        have o10 := ho.trans o9
        clear hg o9 ho hcu
        cases rb3
        · have hat : At w9 (some ⟨g, 0, none⟩) k (fun i => .string (S i)) := fun _ => ⟨g, 0, rfl, fun i hi => by rw [Nat.zero_add]; exact cell_of_block hg9 (hst i hi)⟩
          go_wp2
          go_ret
          exact ⟨_, k, cx, S, rfl, by omega, fun i hi => by have := HS.out i hi; omega, hat, o10, c9.mono (by omega)⟩
        · have hc0 := cell_of_block hg9 (hst 0 (by omega))
          have hf0 := free_of_block (i := 0) hg9
          have HG : Hid _ := hg9
          clear hg9
          have hS0 := HS.out 0 (by omega)
          go_wp2
          go_ret
          refine ⟨_, k, cx, upD S 0 (S 0 ++ xText), rfl, by omega, fun i hi => ?_, fun _ => ⟨g, 0, rfl, fun i hi => ?_⟩, o10.setNew hBg _ _, (c9.low ((Below.refl _ _).setCell (show D + 1 ≤ g by omega) _)).mono (by omega)⟩
          · unfold upD; split
            · rw [app_size]; have := HS.out 0 (by omega); omega
            · have := HS.out i hi; omega
          · rw [Nat.zero_add]
            refine cell_of_block (block_set HG.out) ?_
            by_cases e : i = 0
            · subst e; rw [set_at (Array.getElem?_eq_some_iff.1 (hst 0 hi)).1]; simp [upD]; rfl
            · rw [set_ne e, hst i hi]; simp [upD, e]
end Go.Proofs.YtgipopkjjhehlaaDoor
