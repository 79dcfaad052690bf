import Derived.Test.YtjalhfpjiakhoaaX1
import Derived.Deep.RegionHeld3
namespace Go.Proofs.Ytjalhfpjiakhoaa
open Go.ChangeShapes Go.WideShapes Go.ChangeAt Go.RowKit
set_option linter.unusedVariables false

def crOK (n m nk : Nat) (S : Nat → ByteArray) (T : Nat → Int) (U : Nat → ByteArray) : Bool := decide (goodB n m S T U = true ∧ nk = m)
def crN (n m nk : Nat) (S : Nat → ByteArray) (T : Nat → Int) (U : Nat → ByteArray) : Nat := bif crOK n m nk S T U then n else 0
def crS (m : Nat) (S : Nat → ByteArray) (T : Nat → Int) (U : Nat → ByteArray) (K : Nat → Bool) : Nat → ByteArray := doneS S (kT K m T) (kU K m U) (kidx K m).length

set_option maxHeartbeats 1600000 in
theorem specCrash_any (a a' ak : Option Addr) (n m nk ca ca' ck : Nat) (S : Nat → ByteArray) (T : Nat → Int) (U : Nat → ByteArray) (K : Nat → Bool) (w : World) (hn : n ≤ 1048576) (hm : m ≤ 1048576) (hnk : nk ≤ 1048576)
    (ha : At w a n fun i => .string (S i)) (ha' : At2 w a' m T U) (hk : At w ak nk fun i => .bool (K i)) (hs : ∀ i, i < n → (S i).size ≤ 9223372036854775807) (hs' : ∀ i, i < m → (U i).size ≤ 9223372036854775807) :
    Calls Try.prog 29 #[.agg #[.slice a n ca, .slice a' m ca'], .slice ak nk ck] w fun e w' => DevRes w w' e (crN n m nk S T U) 0 (crOK n m nk S T U) (crS m S T U K) T U := by
  have h0 : ∀ o1 o2, Below w.heap.size w ((w.alloc o1).alloc o2) := fun o1 o2 => (below_alloc _ _).alloc (by simp) _
  cases hok : crOK n m nk S T U
  · have e1 : crN n m nk S T U = 0 := by simp [crN, hok]
    rw [e1]
    have hno := of_decide_eq_false hok
    clear hok e1
    cases hg : goodB n m S T U
    · go_enter Try.func29, Try.ntmps29
      go_wp2_with (go_at_call 18; refine (specGood_any a a' n m ca ca' S T U _ hn hm (ha.below (h0 _ _)) (ha'.below (h0 _ _)) hs hs').mono ?_; rintro e w1 ⟨rfl, b1⟩; obtain ⟨c1, f1⟩ := bcell b1)
      refine bodyPost_ret (v := .tuple #[.agg #[.slice none 0 0, .slice none 0 0], .bool false]) (by simp [results, Try.results29, go_sem, c1]) rfl (DevRes.none ?_ _ _ _)
      refine ((Below.comp (h0 _ _) b1).setCell ?_ _).setCell ?_ _ <;> simp
    · have hne : ((nk : Int) != (m : Int)) = true := by
        have : nk ≠ m := fun h => hno ⟨hg, h⟩
        simp; omega
      go_enter Try.func29, Try.ntmps29
      go_wp2_with (go_at_call 18; refine (specGood_any a a' n m ca ca' S T U _ hn hm (ha.below (h0 _ _)) (ha'.below (h0 _ _)) hs hs').mono ?_; rintro e w1 ⟨rfl, b1⟩; obtain ⟨c1, f1⟩ := bcell b1)
      refine bodyPost_ret (v := .tuple #[.agg #[.slice none 0 0, .slice none 0 0], .bool false]) (by simp [results, Try.results29, go_sem, c1]) rfl (DevRes.none ?_ _ _ _)
      refine ((Below.comp (h0 _ _) b1).setCell ?_ _).setCell ?_ _ <;> simp
  · have e1 : crN n m nk S T U = n := by simp [crN, hok]
    rw [e1]
    obtain ⟨hg, hnm⟩ := of_decide_eq_true hok
    subst hnm
    obtain ⟨q1, q2, q3, q4, q5⟩ := goodB_spec hg
    have Q5 : Hid _ := q5
    have hne : ((nk : Int) != (nk : Int)) = false := by simp
    clear hok e1 q4 q5
    go_enter Try.func29, Try.ntmps29
    go_wp2_with fail
    refine (specGood_any a a' n nk ca ca' S T U _ hn hm (ha.below (h0 _ _)) (ha'.below (h0 _ _)) hs hs').mono ?_
    rintro e w1 ⟨rfl, b1⟩
    have g := Below.comp (h0 _ _) b1
    have c0 : w1.cell? ⟨w.heap.size, 0, none⟩ = some (.slice a n ca) := cell_on (hold_on (cell_new0 w _ _ _)) b1
    have c1 : w1.cell? ⟨w.heap.size, 1, none⟩ = some (.slice a' nk ca') := cell_on (hold_on (cell_new1 w _ _ _)) b1
    have hr1 : w1.heap[w.heap.size + 1]? = some (.cells #[.slice none 0 0, .slice none 0 0] 25 (0, 0)) := (b1.block _ (by simp)).trans (block_new (by simp))
    have HR1 : Hid _ := hr1
    have s1 : w.heap.size + 2 ≤ w1.heap.size := by have := b1.size; simpa using this
    clear b1 h0 hr1
    go_wp2
    go_region_held3 (fun W => W.cell? ⟨w.heap.size, 0, none⟩ = some (.slice a n ca) ∧ W.cell? ⟨w.heap.size, 1, none⟩ = some (.slice a' nk ca'))
      ((first | exact ⟨c0, c1⟩ | exact ⟨nd0, nd1⟩ | exact ⟨nc0, nc1⟩ | exact ⟨Out.cell (Out.setCell (out_setCell w4 (w.heap.size + 1) 0 _) (Nat.le_refl _) (Nat.lt_succ_self _) 1 _) nd0 (.inl (Nat.lt_succ_self _)), Out.cell (Out.setCell (out_setCell w4 (w.heap.size + 1) 0 _) (Nat.le_refl _) (Nat.lt_succ_self _) 1 _) nd1 (.inl (Nat.lt_succ_self _))⟩))
      (first
      | (go_at_call 61; refine (l1Kept_any a' ak nk ca' ck T U K _ q3 (ha'.below g.drew) (hk.below g.drew)).mono ?_; rintro e w3 ⟨b3, x3, cx3, rfl, mx3⟩; have nc0 := cell_on (w := w1.drew) c0 b3; have nc1 := cell_on (w := w1.drew) c1 b3)
      | (go_at_call 59; refine (l1Done_any a x3 n (kidx K nk).length ca cx3 S (kT K nk T) (kU K nk U) _ q1 q2 (Nat.le_trans (kidx_len K nk) q3) (ha.below (Below.comp g.drew b3)) mx3.wrts (kept_fits Q5.out)).mono ?_; rintro e w4 ⟨b4, x, cx, rfl, mx⟩; have nd0 := cell_on nc0 b4; have nd1 := cell_on nc1 b4; have hr4 : w4.heap[w.heap.size + 1]? = some (.cells #[.slice none 0 0, .slice none 0 0] 25 (0, 0)) := (b4.block _ (by have := b3.size; simp at this; omega)).trans ((b3.block _ (by simp; omega)).trans HR1.out); have e2 : w4.cell? ⟨w.heap.size + 1, 0, none⟩ = some (.slice none 0 0) := cell_of_block hr4 rfl; have e3 : w4.cell? ⟨w.heap.size + 1, 1, none⟩ = some (.slice none 0 0) := cell_of_block hr4 rfl; have eg0 := free_of_block (i := 0) hr4; have eg1 := free_of_block (i := 1) hr4; clear hr4))
    go_wp2
    have g4 := Below.comp (Below.comp g.drew b3) b4
    have s4 : w1.heap.size ≤ w3.heap.size := b3.size
    refine bodyPost_ret (v := .tuple #[.agg #[.slice x n cx, .slice none 0 0], .bool true]) (by simp [results, Try.results29, go_sem, e2, e3]) rfl ⟨?_, x, cx, none, 0, rfl, ?_, mine_none _ _ _ _ _ _⟩
    · refine (g4.setCell ?_ _).setCell ?_ _ <;> simp
    · exact (mx.out (((Out.refl (w.heap.size + 1) (w.heap.size + 2) w4).setCell (by omega) (by omega) _ _).setCell (by omega) (by omega) _ _) (.inr (by omega))).mono (by omega) (by simp)

set_option maxHeartbeats 1600000 in
theorem implCrash_any (a a' ak : Option Addr) (n m nk ca ca' ck : Nat) (S : Nat → ByteArray) (T : Nat → Int) (U : Nat → ByteArray) (K : Nat → Bool) (w : World) (hn : n ≤ 1048576) (hm : m ≤ 1048576) (hnk : nk ≤ 1048576)
    (ha : At w a n fun i => .string (S i)) (ha' : At2 w a' m T U) (hk : At w ak nk fun i => .bool (K i)) (hs : ∀ i, i < n → (S i).size ≤ 9223372036854775807) (hs' : ∀ i, i < m → (U i).size ≤ 9223372036854775807) :
    Calls Try.prog 31 #[.agg #[.slice a n ca, .slice a' m ca'], .slice ak nk ck] w fun e w' => DevRes w w' e (crN n m nk S T U) 0 (crOK n m nk S T U) (crS m S T U K) T U := by
  have h0 : ∀ o1 o2, Below w.heap.size w ((w.alloc o1).alloc o2) := fun o1 o2 => (below_alloc _ _).alloc (by simp) _
  cases hok : crOK n m nk S T U
  · have e1 : crN n m nk S T U = 0 := by simp [crN, hok]
    rw [e1]
    have hno := of_decide_eq_false hok
    clear hok e1
    cases hg : goodB n m S T U
    · go_enter Try.func31, Try.ntmps31
      go_wp2_with (go_at_call 20; refine (implGood_any a a' n m ca ca' S T U _ hn hm (ha.below (h0 _ _)) (ha'.below (h0 _ _)) hs hs').mono ?_; rintro e w1 ⟨rfl, b1⟩; obtain ⟨c1, f1⟩ := bcell b1)
      refine bodyPost_ret (v := .tuple #[.agg #[.slice none 0 0, .slice none 0 0], .bool false]) (by simp [results, Try.results31, go_sem, c1]) rfl (DevRes.none ?_ _ _ _)
      refine ((Below.comp (h0 _ _) b1).setCell ?_ _).setCell ?_ _ <;> simp
    · have hne : ((nk : Int) != (m : Int)) = true := by
        have : nk ≠ m := fun h => hno ⟨hg, h⟩
        simp; omega
      go_enter Try.func31, Try.ntmps31
      go_wp2_with (go_at_call 20; refine (implGood_any a a' n m ca ca' S T U _ hn hm (ha.below (h0 _ _)) (ha'.below (h0 _ _)) hs hs').mono ?_; rintro e w1 ⟨rfl, b1⟩; obtain ⟨c1, f1⟩ := bcell b1)
      refine bodyPost_ret (v := .tuple #[.agg #[.slice none 0 0, .slice none 0 0], .bool false]) (by simp [results, Try.results31, go_sem, c1]) rfl (DevRes.none ?_ _ _ _)
      refine ((Below.comp (h0 _ _) b1).setCell ?_ _).setCell ?_ _ <;> simp
  · have e1 : crN n m nk S T U = n := by simp [crN, hok]
    rw [e1]
    obtain ⟨hg, hnm⟩ := of_decide_eq_true hok
    subst hnm
    obtain ⟨q1, q2, q3, q4, q5⟩ := goodB_spec hg
    have Q5 : Hid _ := q5
    have hne : ((nk : Int) != (nk : Int)) = false := by simp
    have Q4 : Hid _ := q4
    clear hok e1 q4 q5
    go_enter Try.func31, Try.ntmps31
    go_wp2_with fail
    refine (implGood_any a a' n nk ca ca' S T U _ hn hm (ha.below (h0 _ _)) (ha'.below (h0 _ _)) hs hs').mono ?_
    rintro e w1 ⟨rfl, b1⟩
    have g := Below.comp (h0 _ _) b1
    have c0 : w1.cell? ⟨w.heap.size, 0, none⟩ = some (.slice a n ca) := cell_on (hold_on (cell_new0 w _ _ _)) b1
    have c1 : w1.cell? ⟨w.heap.size, 1, none⟩ = some (.slice a' nk ca') := cell_on (hold_on (cell_new1 w _ _ _)) b1
    have hr1 : w1.heap[w.heap.size + 1]? = some (.cells #[.slice none 0 0, .slice none 0 0] 25 (0, 0)) := (b1.block _ (by simp)).trans (block_new (by simp))
    have HR1 : Hid _ := hr1
    have s1 : w.heap.size + 2 ≤ w1.heap.size := by have := b1.size; simpa using this
    clear b1 h0 hr1
    go_wp2
    go_loopw [6, 24] (fun v i wr => ∃ (k : Nat), k ≤ nk ∧ i = .int .i64 k ∧ wr.ownsRow w1.heap.size 42 2 v (kidx K k).length (wrtL (kidx K k) T U) ∧ Below w1.heap.size w1 wr) (fun _ i _ => nk - (intOf i).toNat)
    case atStart => exact ⟨0, Nat.zero_le _, rfl, World.ownsRow_nil _ _ _ _, Below.refl _ _⟩
    case round =>
      obtain ⟨k, hkm, rfl, hown, hb⟩ := hrel
      obtain ⟨x, cx, hv⟩ := owns_form hown
      subst hv
      replace c0 := cell_on c0 hb
      replace c1 := cell_on c1 hb
      by_cases hlt : k < nk
      · obtain ⟨b, off, rfl, hcell⟩ := (ha'.below (Below.comp g hb)) (by omega)
        obtain ⟨hck, hck2⟩ := hcell k hlt
        obtain ⟨b', off', rfl, hcell'⟩ := (hk.below (Below.comp g hb)) (by omega)
        have hkk : wr.cell? ⟨b', off' + k, none⟩ = some (.bool (K k)) := hcell' k hlt
        have hlt' : (k : Int) < (nk : Int) := by omega
        have hlen := kidx_len K k
        have hbl := lt_of_cell hkk
        have HO : Hid _ := hown
        clear hcell hcell' hown
        cases hK : K k
        · rw [hK] at hkk
          go_wp2
          go_roundw
          case rel => exact ⟨k + 1, by omega, by go_num, by rw [kidx_same K k hK]; exact World.ownsRow.alloc HO.out _, Below.comp hb (below_alloc _ _)⟩
          case measure => simp [intOf]; omega
        · rw [hK] at hkk
          have HK : Hid _ := hK
          clear hK
          have hsz := hb.size
          go_wp2_with (at_builtin; (refine wpList_append_src rfl (.tmp 33) (.tmp 35) 23 rfl w1.heap.size 42 _ 2 24 Try.underlying23 info42 rfl (by decide) (.slice x (kidx K k).length cx) (kidx K k).length (wrtL (kidx K k) T U) rfl (World.ownsRow.alloc (World.ownsRow.alloc HO.out _) _) (some ⟨wr.heap.size + 1, 0, none⟩) 1 1 [.int .i64 (T k), .string (U k)] rfl rfl (.inr ⟨_, rfl, by simpa using new_two (wr.alloc (.cells #[.int .i64 (T k), .string (U k)] 42)) (.int .i64 (T k)) (.string (U k)) 42⟩) (by intro q hq; simp at hq; rcases hq with rfl | rfl <;> rfl) (by omega) (by omega) (by simp <;> omega) ?_); intro v2 w2 hown2 hgrow2; have bl2 : Below w1.heap.size ((wr.alloc (.cells #[.int .i64 (T k), .string (U k)] 42)).alloc (.cells #[.int .i64 (T k), .string (U k)] 42)) w2 := Grown.below hgrow2 (by simp <;> omega) (fun q hq => (World.ownsRow.lt HO.out q hq).1))
          go_roundw
          case rel => exact ⟨k + 1, by omega, by go_num, by rw [kidx_more K k HK.out, ← wrtL_succ K k T U HK.out]; exact hown2, ((hb.alloc hsz _).alloc (by simp <;> omega) _).trans bl2⟩
          case measure => simp [intOf]; omega
      · have hkn : k = nk := by omega
        subst hkn
        have hr1 : wr.heap[w.heap.size + 1]? = some (.cells #[.slice none 0 0, .slice none 0 0] 25 (0, 0)) := (hb.block _ (by omega)).trans HR1.out
        have HR2 : Hid _ := hr1
        have s2 := hb.size
        clear hr1
        rw [wrtL_cells] at hown
        have mk := owns_wrts hown
        go_wp2_with fail
        refine (settle_any a a' x n (kidx K k).length k ca ca' cx S (kT K k T) (kU K k U) _ q1 q2 (Nat.le_trans (kidx_len K k) q3) (ha.below (Below.comp g hb)) mk.wrts Q4.out (kept_fits Q5.out)).mono ?_
        rintro e w4 ⟨b4, y, cy, rfl, mx⟩
        have hr4 : w4.heap[w.heap.size + 1]? = some (.cells #[.slice none 0 0, .slice none 0 0] 25 (0, 0)) := (b4.block _ (by omega)).trans HR2.out
        have e2 : w4.cell? ⟨w.heap.size + 1, 0, none⟩ = some (.slice none 0 0) := cell_of_block hr4 rfl
        have e3 : w4.cell? ⟨w.heap.size + 1, 1, none⟩ = some (.slice none 0 0) := cell_of_block hr4 rfl
        have eg0 := free_of_block (i := 0) hr4
        have eg1 := free_of_block (i := 1) hr4
        clear hr4 c0 c1
        have g4 := Below.comp (Below.comp g hb) b4
        go_wp2
        refine bodyPost_ret (v := .tuple #[.agg #[.slice y n cy, .slice none 0 0], .bool true]) (by simp [results, Try.results31, go_sem, e2, e3]) rfl ⟨?_, y, cy, none, 0, rfl, ?_, mine_none _ _ _ _ _ _⟩
        · refine (g4.setCell ?_ _).setCell ?_ _ <;> simp
        · exact (mx.out (((Out.refl (w.heap.size + 1) (w.heap.size + 2) w4).setCell (by omega) (by omega) _ _).setCell (by omega) (by omega) _ _) (.inr (by omega))).mono (by omega) (by simp)
end Go.Proofs.Ytjalhfpjiakhoaa
