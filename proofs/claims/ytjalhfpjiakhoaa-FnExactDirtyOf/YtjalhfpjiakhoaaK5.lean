import Derived.Test.YtjalhfpjiakhoaaK4
import Derived.Test.YtjalhfpjiakhoaaD1
import Derived.RegionTactic
import Derived.Laws.IdiomStrings
namespace Go.Proofs.Ytjalhfpjiakhoaa
open Go.ChangeShapes Go.WideShapes Go.ChangeAt Go.RowKit
set_option linter.unusedVariables false

def byte8 (u : ByteArray) (i : Nat) : Int := (((u.data[i]?).getD 0).toNat : Int)
theorem cells8 (b0 b1 b2 b3 b4 b5 b6 b7 : UInt8) : ∀ i, i < 8 → (#[.int .u8 b0.toNat, .int .u8 b1.toNat, .int .u8 b2.toNat, .int .u8 b3.toNat, .int .u8 b4.toNat, .int .u8 b5.toNat, .int .u8 b6.toNat, .int .u8 b7.toNat] : Array Value)[i]? = some (.int .u8 (byte8 ⟨#[b0, b1, b2, b3, b4, b5, b6, b7]⟩ i)) := by
  intro i hi
  match i, hi with
  | 0, _ => rfl
  | 1, _ => rfl
  | 2, _ => rfl
  | 3, _ => rfl
  | 4, _ => rfl
  | 5, _ => rfl
  | 6, _ => rfl
  | 7, _ => rfl
theorem same8_self (u : ByteArray) : sameIn (byte8 u) (byte8 u) 0 8 = true := by simp [sameIn]
theorem u8_of {a b : UInt8} (h : (a.toNat : Int) = b.toNat) : a = b := UInt8.toNat_inj.1 (by omega)
theorem same8_eq {u v : ByteArray} (hu : u.size = 8) (hv : v.size = 8) (h : sameIn (byte8 u) (byte8 v) 0 8 = true) : u = v := by
  obtain ⟨b0, b1, b2, b3, b4, b5, b6, b7, rfl⟩ := bytes8 hu
  obtain ⟨c0, c1, c2, c3, c4, c5, c6, c7, rfl⟩ := bytes8 hv
  simp [sameIn, byte8, List.range'] at h
  obtain ⟨h0, h1, h2, h3, h4, h5, h6, h7⟩ := h
  simp [u8_of h0, u8_of h1, u8_of h2, u8_of h3, u8_of h4, u8_of h5, u8_of h6, u8_of h7]

theorem doneS_size {n m : Nat} {S : Nat → ByteArray} {T : Nat → Int} {U : Nat → ByteArray} (hs : ∀ i, i < n → (S i).size = 8) (hf : ∀ i, i < m → fitB n (T i) (U i) = true) : ∀ k, k ≤ m → ∀ i, i < n → (doneS S T U k i).size = 8
  | 0, _, i, hi => hs i hi
  | k + 1, hk, i, hi => by
    show (upd (doneS S T U k) (T k) (U k) i).size = 8
    unfold upd
    split
    · exact (fitB_spec (hf k (by omega))).2.2
    · exact doneS_size hs hf k (by omega) i hi

theorem strs_size {n : Nat} {S : Nat → ByteArray} {c : Array Value} (h : strs n S c) : n ≤ c.size := by
  by_cases h0 : n = 0
  · omega
  · have := (Array.getElem?_eq_some_iff.1 (h (n - 1) (by omega))).1
    omega

theorem hold_on {w : World} {b o : Nat} {v : Value} {x : Obj} (h : w.cell? ⟨b, o, none⟩ = some v) : (w.alloc x).cell? ⟨b, o, none⟩ = some v := cell_on h (below_alloc _ _)

set_option maxHeartbeats 1600000 in
theorem settle_any (a a1 a' : Option Addr) (n m m1 ca ca1 ca' : Nat) (S : Nat → ByteArray) (T : Nat → Int) (U : Nat → ByteArray) (w : World) (hn0 : 1 ≤ n) (hn : n ≤ 32) (hm : m ≤ 60)
    (ha : At w a n fun i => .string (S i)) (ha' : At2 w a' m T U) (hs : ∀ i, i < n → (S i).size = 8) (hf : ∀ i, i < m → fitB n (T i) (U i) = true) :
    Calls Try.prog 60 #[.agg #[.slice a n ca, .slice a1 m1 ca1], .slice a' m ca'] w fun e w' => Below w.heap.size w w' ∧ ∃ x cx, e = .returned (.agg #[.slice x n cx, .slice none 0 0]) ∧ Mine w' w.heap.size w'.heap.size 9 n x (strs n (doneS S T U m)) := by
  have h0 : ∀ o1 o2, Below w.heap.size w ((w.alloc o1).alloc o2) := fun o1 o2 => (below_alloc _ _).alloc (by simp) _
  have Hf : Hid _ := hf
  have Hs : Hid _ := hs
  clear hf hs
  go_enter Try.func60, Try.ntmps60
  go_wp2_with fail
  refine (copyList_any a n ca S _ (by omega) (ha.below (h0 _ _))).mono ?_
  rintro e w1 ⟨b1, x, cx, rfl, mx⟩
  rcases mx with mx | ⟨g, cur, hg0, hg1, rfl, hg2, hst0⟩
  · omega
  have g1 := Below.comp (h0 _ _) b1
  have hg0' : w.heap.size + 2 ≤ g := by simp at hg0; omega
  have k0 : w1.cell? ⟨w.heap.size + 1, 0, none⟩ = some (.slice none 0 0) := cell_on (by simp [go_sem]) b1
  have k1 : w1.cell? ⟨w.heap.size + 1, 1, none⟩ = some (.slice none 0 0) := cell_on (by simp [go_sem]) b1
  have kf : ∀ o, w1.frozen? ⟨w.heap.size + 1, o, none⟩ = false := fun o => by rw [b1.frozen (p := ⟨w.heap.size + 1, o, none⟩) (by simp)]; simp [go_sem]
  have Hg : Hid _ := hg2
  clear b1 hg2 ha h0
  go_wp2
  go_loopw [14] (fun i wr => ∃ (k : Nat) (c : Array Value), k ≤ m ∧ i = .int .i64 k ∧ wr.heap[g]? = some (.cells c 9 (0, 0)) ∧ strs n (doneS S T U k) c ∧ Below w.heap.size w wr ∧ Below (w.heap.size + 2) w1 wr) (fun i _ => m - (intOf i).toNat)
  case atStart => exact ⟨0, cur, Nat.zero_le _, rfl, Hg.out, hst0, g1, Below.refl _ _⟩
  case round =>
    obtain ⟨k, c, hk, rfl, hB, hst, hb, hb1⟩ := hrel
    by_cases hlt : k < m
    · obtain ⟨b', off', rfl, hcell⟩ := (ha'.below hb) (by omega)
      obtain ⟨hck, hck2⟩ := hcell k hlt
      obtain ⟨ht0, ht1, ht2⟩ := fitB_spec (Hf.out k hlt)
      obtain ⟨t, ht⟩ : ∃ t : Nat, T k = t := ⟨(T k).toNat, by omega⟩
      have htn : t < n := by omega
      have hold8 := doneS_size Hs.out Hf.out k hk t htn
      have hx0 := hst t htn
      have hold := cell_of_block hB hx0
      have hfree := free_of_block (i := t) hB
      have hgl := lt_of_cell hold
      have HT : Hid (T k = t) := ht
      have HB : Hid _ := hB
      rw [ht] at hck
      clear ht hB hcell ht0 ht1 hx0 ha'
      have hcd : strs n (upd (doneS S T U k) t (U k)) c → strs n (doneS S T U (k + 1)) c := fun h => by show strs n (upd (doneS S T U k) (T k) (U k)) c; rw [HT.out]; exact h
      by_cases heq : U k = doneS S T U k t
      · obtain ⟨b0, b1, b2, b3, b4, b5, b6, b7, hu⟩ := bytes8 ht2
        have hv : doneS S T U k t = ⟨#[b0, b1, b2, b3, b4, b5, b6, b7]⟩ := by rw [← heq]; exact hu
        have hne : ∀ w, (binOp .neq 69 (.agg #[.int .u8 b0.toNat, .int .u8 b1.toNat, .int .u8 b2.toNat, .int .u8 b3.toNat, .int .u8 b4.toNat, .int .u8 b5.toNat, .int .u8 b6.toNat, .int .u8 b7.toNat]) (.agg #[.int .u8 b0.toNat, .int .u8 b1.toNat, .int .u8 b2.toNat, .int .u8 b3.toNat, .int .u8 b4.toNat, .int .u8 b5.toNat, .int .u8 b6.toNat, .int .u8 b7.toNat])).run Try.prog w = .ok (.bool false) w := by
          intro w
          rw [run_arr_neq Try.underlying69 Try.underlying5 size5 _ _ (byte8 (U k)) (byte8 (doneS S T U k t)) (fun i hi => by rw [hu, hv]; exact ⟨cells8 _ _ _ _ _ _ _ _ i hi, cells8 _ _ _ _ _ _ _ _ i hi⟩) w, ← heq, same8_self]
          rfl
        have HU : Hid _ := hu
        rw [hu] at hck2
        rw [hv] at hold
        have HE : Hid _ := heq
        clear heq hu hv ht2 hold8
        go_wp2_with fail
        refine (bos_any b0 b1 b2 b3 b4 b5 b6 b7 _).mono ?_
        rintro e w2 ⟨rfl, b2'⟩
        have j0 := cell_on (cell_new0 wr _ _ _) b2'
        have j1 := cell_on (cell_new1 wr _ _ _) b2'
        have jo := cell_on (hold_on hold) b2'
        have jf : w2.frozen? ⟨g, t, none⟩ = false := by rw [b2'.frozen (p := ⟨g, t, none⟩) (by simp; omega), (below_alloc wr _).frozen (p := ⟨g, t, none⟩) hgl]; exact hfree
        have z2 : wr.heap.size < w2.heap.size := lt_of_cell j0
        have z3 : g < w2.heap.size := by omega
        go_wp2
        obtain ⟨w3, hw3⟩ : ∃ w3, w3 = w2.alloc (.cells #[.int .u8 b0.toNat, .int .u8 b1.toNat, .int .u8 b2.toNat, .int .u8 b3.toNat, .int .u8 b4.toNat, .int .u8 b5.toNat, .int .u8 b6.toNat, .int .u8 b7.toNat] 69) := ⟨_, rfl⟩
        rw [← hw3]
        have b3' : Below wr.heap.size wr w3 := by rw [hw3]; exact Below.comp (Below.comp (below_alloc _ _) b2') (below_alloc _ _)
        have n0 : w3.cell? ⟨w2.heap.size, 0, none⟩ = some (.int .u8 b0.toNat) := by rw [hw3]; simp [go_sem]
        have n1 : w3.cell? ⟨w2.heap.size, 1, none⟩ = some (.int .u8 b1.toNat) := by rw [hw3]; simp [go_sem]
        have n2 : w3.cell? ⟨w2.heap.size, 2, none⟩ = some (.int .u8 b2.toNat) := by rw [hw3]; simp [go_sem]
        have n3 : w3.cell? ⟨w2.heap.size, 3, none⟩ = some (.int .u8 b3.toNat) := by rw [hw3]; simp [go_sem]
        have n4 : w3.cell? ⟨w2.heap.size, 4, none⟩ = some (.int .u8 b4.toNat) := by rw [hw3]; simp [go_sem]
        have n5 : w3.cell? ⟨w2.heap.size, 5, none⟩ = some (.int .u8 b5.toNat) := by rw [hw3]; simp [go_sem]
        have n6 : w3.cell? ⟨w2.heap.size, 6, none⟩ = some (.int .u8 b6.toNat) := by rw [hw3]; simp [go_sem]
        have n7 : w3.cell? ⟨w2.heap.size, 7, none⟩ = some (.int .u8 b7.toNat) := by rw [hw3]; simp [go_sem]
        have j0' : w3.cell? ⟨wr.heap.size, 0, none⟩ = some (.int .i64 t) := by rw [hw3]; exact hold_on j0
        have jo' : w3.cell? ⟨g, t, none⟩ = some (.string ⟨#[b0, b1, b2, b3, b4, b5, b6, b7]⟩) := by rw [hw3]; exact hold_on jo
        have jf' : w3.frozen? ⟨g, t, none⟩ = false := by rw [hw3, (below_alloc w2 _).frozen (p := ⟨g, t, none⟩) z3]; exact jf
        clear hw3 j0 j1 jo jf hck hck2 hold hfree b2'
        have htn' : (t : Int) < (n : Int) := by omega
        have r0 := cell_regrown n0
        have r1 := cell_regrown n1
        have r2 := cell_regrown n2
        have r3 := cell_regrown n3
        have r4 := cell_regrown n4
        have r5 := cell_regrown n5
        have r6 := cell_regrown n6
        have r7 := cell_regrown n7
        have r8 := cell_regrown j0'
        have r9 := cell_regrown jo'
        refine wp_region_quiet_below (by kernel_rfl) (by kernel_rfl) ?_
        repeat (quiet_step (exact Calls.regrown_of (bos_any b0 b1 b2 b3 b4 b5 b6 b7 _)))
        refine wpQuiet_nil ?_
        intro _ hw'
        obtain ⟨⟨dq, osq⟩, hw''⟩ := hw'
        subst hw''
        have b4' := below_regrown w3 dq osq
        generalize Go.Sort.grow (redrawn w3 dq) osq = w4 at b4' ⊢
        clear r0 r1 r2 r3 r4 r5 r6 r7 r8 r9
        replace n0 := cell_on n0 b4'
        replace n1 := cell_on n1 b4'
        replace n2 := cell_on n2 b4'
        replace n3 := cell_on n3 b4'
        replace n4 := cell_on n4 b4'
        replace n5 := cell_on n5 b4'
        replace n6 := cell_on n6 b4'
        replace n7 := cell_on n7 b4'
        replace jf' := (b4'.frozen (p := ⟨g, t, none⟩) (lt_of_cell jo')).trans jf'
        replace j0' := cell_on j0' b4'
        replace jo' := cell_on jo' b4'
        have b5' := Below.comp b3' b4'
        clear b3' b4' hne n0 n1 n2 n3 n4 n5 n6 n7
        go_wp2
        go_roundw
        case rel =>
          refine ⟨k + 1, c, by omega, by go_num, (b5'.block _ hgl).trans HB.out, ?_, Below.comp hb b5', hb1.trans (b5'.mono (by have := hb1.size; have := g1.size; omega))⟩
          apply hcd
          rw [HE.out]
          intro i hi
          have := hst i hi
          unfold upd
          split
          · have e : i = t := by omega
            rw [e] at this
            rw [e]; exact this
          · exact this
        case measure => simp [intOf]; omega
      · have hns : sameIn (byte8 (U k)) (byte8 (doneS S T U k t)) 0 8 = false := by
          cases hq : sameIn (byte8 (U k)) (byte8 (doneS S T U k t)) 0 8
          · rfl
          · exact absurd (same8_eq ht2 hold8 hq) heq
        obtain ⟨b0, b1, b2, b3, b4, b5, b6, b7, hu⟩ := bytes8 ht2
        obtain ⟨c0, c1, c2, c3, c4, c5, c6, c7, hv⟩ := bytes8 hold8
        have hne : ∀ w, (binOp .neq 69 (.agg #[.int .u8 b0.toNat, .int .u8 b1.toNat, .int .u8 b2.toNat, .int .u8 b3.toNat, .int .u8 b4.toNat, .int .u8 b5.toNat, .int .u8 b6.toNat, .int .u8 b7.toNat]) (.agg #[.int .u8 c0.toNat, .int .u8 c1.toNat, .int .u8 c2.toNat, .int .u8 c3.toNat, .int .u8 c4.toNat, .int .u8 c5.toNat, .int .u8 c6.toNat, .int .u8 c7.toNat])).run Try.prog w = .ok (.bool true) w := by
          intro w
          rw [run_arr_neq Try.underlying69 Try.underlying5 size5 _ _ (byte8 (U k)) (byte8 (doneS S T U k t)) (fun i hi => by rw [hu, hv]; exact ⟨cells8 _ _ _ _ _ _ _ _ i hi, cells8 _ _ _ _ _ _ _ _ i hi⟩) w, hns]
          rfl
        have HU : Hid _ := hu
        rw [hu] at hck2
        rw [hv] at hold
        clear hns heq hu hv ht2 hold8
        go_wp2_with fail
        refine (bos_any b0 b1 b2 b3 b4 b5 b6 b7 _).mono ?_
        rintro e w2 ⟨rfl, b2'⟩
        have j0 := cell_on (cell_new0 wr _ _ _) b2'
        have j1 := cell_on (cell_new1 wr _ _ _) b2'
        have jo := cell_on (hold_on hold) b2'
        have jf : w2.frozen? ⟨g, t, none⟩ = false := by rw [b2'.frozen (p := ⟨g, t, none⟩) (by simp; omega), (below_alloc wr _).frozen (p := ⟨g, t, none⟩) hgl]; exact hfree
        have z2 : wr.heap.size < w2.heap.size := lt_of_cell j0
        have z3 : g < w2.heap.size := by omega
        go_wp2
        obtain ⟨w3, hw3⟩ : ∃ w3, w3 = w2.alloc (.cells #[.int .u8 b0.toNat, .int .u8 b1.toNat, .int .u8 b2.toNat, .int .u8 b3.toNat, .int .u8 b4.toNat, .int .u8 b5.toNat, .int .u8 b6.toNat, .int .u8 b7.toNat] 69) := ⟨_, rfl⟩
        rw [← hw3]
        have b3' : Below wr.heap.size wr w3 := by rw [hw3]; exact Below.comp (Below.comp (below_alloc _ _) b2') (below_alloc _ _)
        have n0 : w3.cell? ⟨w2.heap.size, 0, none⟩ = some (.int .u8 b0.toNat) := by rw [hw3]; simp [go_sem]
        have n1 : w3.cell? ⟨w2.heap.size, 1, none⟩ = some (.int .u8 b1.toNat) := by rw [hw3]; simp [go_sem]
        have n2 : w3.cell? ⟨w2.heap.size, 2, none⟩ = some (.int .u8 b2.toNat) := by rw [hw3]; simp [go_sem]
        have n3 : w3.cell? ⟨w2.heap.size, 3, none⟩ = some (.int .u8 b3.toNat) := by rw [hw3]; simp [go_sem]
        have n4 : w3.cell? ⟨w2.heap.size, 4, none⟩ = some (.int .u8 b4.toNat) := by rw [hw3]; simp [go_sem]
        have n5 : w3.cell? ⟨w2.heap.size, 5, none⟩ = some (.int .u8 b5.toNat) := by rw [hw3]; simp [go_sem]
        have n6 : w3.cell? ⟨w2.heap.size, 6, none⟩ = some (.int .u8 b6.toNat) := by rw [hw3]; simp [go_sem]
        have n7 : w3.cell? ⟨w2.heap.size, 7, none⟩ = some (.int .u8 b7.toNat) := by rw [hw3]; simp [go_sem]
        have j0' : w3.cell? ⟨wr.heap.size, 0, none⟩ = some (.int .i64 t) := by rw [hw3]; exact hold_on j0
        have jo' : w3.cell? ⟨g, t, none⟩ = some (.string ⟨#[c0, c1, c2, c3, c4, c5, c6, c7]⟩) := by rw [hw3]; exact hold_on jo
        have jf' : w3.frozen? ⟨g, t, none⟩ = false := by rw [hw3, (below_alloc w2 _).frozen (p := ⟨g, t, none⟩) z3]; exact jf
        clear hw3 j0 j1 jo jf hck hck2 hold hfree b2'
        have htn' : (t : Int) < (n : Int) := by omega
        have r0 := cell_regrown n0
        have r1 := cell_regrown n1
        have r2 := cell_regrown n2
        have r3 := cell_regrown n3
        have r4 := cell_regrown n4
        have r5 := cell_regrown n5
        have r6 := cell_regrown n6
        have r7 := cell_regrown n7
        have r8 := cell_regrown j0'
        have r9 := cell_regrown jo'
        refine wp_region_quiet_below (by kernel_rfl) (by kernel_rfl) ?_
        repeat (quiet_step (exact Calls.regrown_of (bos_any c0 c1 c2 c3 c4 c5 c6 c7 _)))
        refine wpQuiet_nil ?_
        intro _ hw'
        obtain ⟨⟨dq, osq⟩, hw''⟩ := hw'
        subst hw''
        have b4' := below_regrown w3 dq osq
        generalize Go.Sort.grow (redrawn w3 dq) osq = w4 at b4' ⊢
        clear r0 r1 r2 r3 r4 r5 r6 r7 r8 r9
        replace n0 := cell_on n0 b4'
        replace n1 := cell_on n1 b4'
        replace n2 := cell_on n2 b4'
        replace n3 := cell_on n3 b4'
        replace n4 := cell_on n4 b4'
        replace n5 := cell_on n5 b4'
        replace n6 := cell_on n6 b4'
        replace n7 := cell_on n7 b4'
        replace jf' := (b4'.frozen (p := ⟨g, t, none⟩) (lt_of_cell jo')).trans jf'
        replace j0' := cell_on j0' b4'
        replace jo' := cell_on jo' b4'
        have b5' := Below.comp b3' b4'
        have hconv : (convert 70 9 (.slice (some ⟨w2.heap.size, 0, none⟩) 8 8)).run Try.prog w4.drew = .ok (.string ⟨#[b0, b1, b2, b3, b4, b5, b6, b7]⟩) w4.drew :=
          run_convert_bytes_back (P := Try.prog) w4.drew 70 9 5 ⟨w2.heap.size, 0, none⟩ 8 [b0, b1, b2, b3, b4, b5, b6, b7] Try.underlying70 Try.underlying5 Try.underlying9 (fun j hj => by
            match j, hj with
            | 0, _ => exact n0
            | 1, _ => exact n1
            | 2, _ => exact n2
            | 3, _ => exact n3
            | 4, _ => exact n4
            | 5, _ => exact n5
            | 6, _ => exact n6
            | 7, _ => exact n7)
        clear b3' b4' hne n0 n1 n2 n3 n4 n5 n6 n7
        go_wp2
        go_region
        go_wp2
        go_roundw
        case rel =>
          refine ⟨k + 1, c.setIfInBounds t (.string ⟨#[b0, b1, b2, b3, b4, b5, b6, b7]⟩), by omega, by go_num, block_set ((b5'.block _ hgl).trans HB.out), ?_, ((Below.comp hb b5').setCell (p := ⟨g, t, none⟩) (by simp; omega) _).drew, ((hb1.trans (b5'.mono (by have := hb1.size; have := g1.size; omega))).setCell (p := ⟨g, t, none⟩) hg0' _).drew⟩
          show strs n (upd (doneS S T U k) (T k) (U k)) _
          rw [HT.out, HU.out]
          exact strs_set hst (strs_size hst) htn _
        case measure => simp [intOf]; omega
    · have q0 := (hb1.cell (p := ⟨w.heap.size + 1, 0, none⟩) (by simp)).trans k0
      have q1 := (hb1.cell (p := ⟨w.heap.size + 1, 1, none⟩) (by simp)).trans k1
      have qf0 := (hb1.frozen (p := ⟨w.heap.size + 1, 0, none⟩) (by simp)).trans (kf 0)
      have qf1 := (hb1.frozen (p := ⟨w.heap.size + 1, 1, none⟩) (by simp)).trans (kf 1)
      have HB : Hid _ := hB
      clear k0 k1 kf hB
      have hkn : k = m := by omega
      subst hkn
      go_wp2
      refine bodyPost_ret (v := .agg #[.slice (some ⟨g, 0, none⟩) n cx, .slice none 0 0]) (by simp [results, Try.results60, go_sem, q0, q1]) rfl ⟨?_, _, _, rfl, ?_⟩
      · exact (hb.setCell (p := ⟨w.heap.size + 1, 0, none⟩) (by simp) _).setCell (p := ⟨w.heap.size + 1, 1, none⟩) (by simp) _
      · exact .inr ⟨g, c, by omega, by have := (Array.getElem?_eq_some_iff.1 HB.out).1; simpa using this, rfl, (((Out.refl (w.heap.size + 1) (w.heap.size + 2) wr).setCell (by omega) (by omega) _ _).setCell (by omega) (by omega) _ _).block g (Array.getElem?_eq_some_iff.1 HB.out).1 (by omega) |>.trans HB.out, hst⟩
end Go.Proofs.Ytjalhfpjiakhoaa
