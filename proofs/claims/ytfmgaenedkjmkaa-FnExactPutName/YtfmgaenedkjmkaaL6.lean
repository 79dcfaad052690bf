import Derived.Test.YtfmgaenedkjmkaaL5
import Derived.Test.YtfmgaenedkjmkaaL4
import Derived.Laws.IdiomStrings
/- What the laws do with rows of names: mark and hold. -/
namespace Go.Proofs.Ytfmgaenedkjmkaa
open Go.ChangeShapes Go.WideShapes Go.ChangeAt Go.RowKit
set_option linter.unusedVariables false
open Hd

def dgs : Nat → Nat → List UInt8 → List UInt8
  | 0, _, acc => acc
  | f + 1, k, acc => if k = 0 then acc else dgs f (k / 10) ((48 + UInt8.ofNat (k % 10)) :: acc)
def mkText (k : Nat) : ByteArray := ⟨(109 :: dgs k k []).toArray⟩

theorem str_cons (d : UInt8) (l : List UInt8) : ((⟨#[d]⟩ : ByteArray) ++ ⟨l.toArray⟩) = ⟨(d :: l).toArray⟩ := by
  apply ByteArray.ext
  simp

set_option maxHeartbeats 400000 in
theorem markText_any (K : Nat) (w : World) (h0 : 1 ≤ K) (h1 : K ≤ 1000000000) :
    Calls Try.prog 55 #[.int .i64 K] w fun e w' => e = .returned (.string (mkText K)) ∧ Below w.heap.size w w' := by
  have HM : Hid (mkText K = ⟨(109 :: dgs K K []).toArray⟩) := rfl
  generalize mkText K = r at HM ⊢
  go_enter Try.func55, Try.ntmps55
  go_wp2
  go_loopw [0, 3] (fun i o wr => ∃ (k f : Nat) (l : List UInt8), i = .int .i64 k ∧ o = .string ⟨l.toArray⟩ ∧ k ≤ f ∧ k ≤ K ∧ l.length + f ≤ K ∧ dgs f k l = dgs K K [] ∧ Below w.heap.size w wr) (fun i _ _ => (intOf i).toNat)
  case atStart => exact ⟨K, K, [], rfl, rfl, Nat.le_refl _, Nat.le_refl _, by simp, rfl, Below.refl _ _⟩
  case round =>
    obtain ⟨k, f, l, rfl, rfl, hf, hkK, hl, hd, hb⟩ := hrel
    have HD : Hid _ := hd
    clear hd
    by_cases hk : 0 < k
    · have hk' : (0 : Int) < (k : Int) := by omega
      have hconv : ∀ (wx : World), (convert 100 9 (.slice (some ⟨wx.heap.size, 0, none⟩) 1 1)).run Try.prog (wx.alloc (.cells #[.int .u8 (48 + (k : Int) % 10)] 5)) = .ok (.string ⟨#[UInt8.ofNat (48 + k % 10)]⟩) (wx.alloc (.cells #[.int .u8 (48 + (k : Int) % 10)] 5)) := fun wx =>
        run_convert_bytes_back (P := Try.prog) (wx.alloc (.cells #[.int .u8 (48 + (k : Int) % 10)] 5)) 100 9 5 ⟨wx.heap.size, 0, none⟩ 1 [UInt8.ofNat (48 + k % 10)] Try.underlying100 Try.underlying5 Try.underlying9 (fun j hj => by
          have hj0 : j = 0 := by simp at hj; omega
          subst hj0
          simp [go_sem, Addr.add]
          omega)
      have hl' : l.length ≤ 1000000000 := by omega
      go_wp2
      go_roundw
      case rel =>
        refine ⟨k / 10, f - 1, (48 + UInt8.ofNat (k % 10)) :: l, by go_num, congrArg Value.string (str_cons _ _), by omega, by omega, by simp; omega, ?_, Below.comp hb (below_alloc _ _)⟩
        have hd := HD.out
        obtain ⟨f', rfl⟩ : ∃ f', f = f' + 1 := ⟨f - 1, by omega⟩
        rw [← hd]
        show _ = dgs (f' + 1) k l
        rw [dgs, if_neg (by omega)]
        rfl
      case measure => simp [intOf]; omega
    · have hk0 : k = 0 := by omega
      subst hk0
      have hd : l = dgs K K [] := by
        rw [← HD.out]
        cases f with
        | zero => rfl
        | succ f => rw [dgs, if_pos rfl]
      have hl' : l.length ≤ 1000000000 := by omega
      have HD' : Hid _ := hd
      clear hd HD
      go_wp2
      go_ret
      refine ⟨?_, hb⟩
      rw [HM.out, ← HD'.out]
      exact congrArg (fun x => Ending.returned (Value.string x)) (str_cons _ _)

/-- Marked names. -/
def mkN (k n : Nat) : List Nm := (List.range n).map fun i => ⟨mkText (k + 2 * i), ((k + 2 * i + 1 : Nat) : Int)⟩
theorem mkN_len (k n : Nat) : (mkN k n).length = n := by simp [mkN]
theorem mkN_at {k n i : Nat} (h : i < n) : gm (mkN k n) i = ⟨mkText (k + 2 * i), ((k + 2 * i + 1 : Nat) : Int)⟩ := by simp [mkN, gm, h]
set_option maxHeartbeats 1000000 in
theorem markNameS_any (B C g : Nat) (a : Option Addr) (cap : Nat) (l : List Nm) (k : Nat) (w : World) (hk1 : 1 ≤ k) (hk : k + 2 * l.length ≤ 100000000) (h : NB w B C (.slice a l.length cap) l g) :
    Calls Try.prog 23 #[.slice a l.length cap, .int .i64 k] w fun e w' => e = .returned (.int .i64 ((k + 2 * l.length : Nat) : Int)) ∧ (if l = [] then w' = w else Out g (g + 1) w w') ∧ NB w' B C (.slice a l.length cap) (mkN k l.length) g := by
  obtain ⟨a1, c1, e1, hc1, hr⟩ := id h
  simp only [Value.slice.injEq, true_and] at e1
  obtain ⟨rfl, rfl⟩ := e1
  by_cases hz : l = []
  · subst hz
    simp only [if_true, List.length_nil]
    go_enter Try.func23, Try.ntmps23
    go_wp2
    refine wp_loop_rounds 1 ?_
    rw [rounds_succ]
    go_wp2
    go_ret
    exact ⟨rfl, rfl, h⟩
  · simp only [hz, if_false]
    obtain ⟨rfl, hg1, hg2, c0, hB0, hS0⟩ := hr hz
    obtain ⟨n, hn⟩ : ∃ n, l.length = n := ⟨_, rfl⟩
    have hn0 : n ≠ 0 := by rw [← hn]; intro h0; exact hz (List.eq_nil_of_length_eq_zero h0)
    have hsz : n * 2 ≤ c0.size := by
      have := (Array.getElem?_eq_some_iff.1 (hS0 (n - 1) (by omega)).2).1
      omega
    rw [hn] at hk hc1 ⊢
    clear hn hr h hS0
    have HB0 : Hid _ := hB0
    clear hB0
    go_enter Try.func23, Try.ntmps23
    go_wp2
    go_loopw [1, 5] (fun kk i wr => ∃ (q : Nat) (c : Array Value), q ≤ n ∧ kk = .int .i64 ((k + 2 * q : Nat) : Int) ∧ i = .int .i64 q ∧ Hid (wr.heap[g]? = some (.cells c 36 (0, 0))) ∧ n * 2 ≤ c.size ∧ namesN q (mkN k n) c ∧ Out g (g + 1) w wr) (fun _ i _ => n - (intOf i).toNat)
    case atStart => exact ⟨0, c0, Nat.zero_le _, rfl, rfl, HB0, hsz, fun i hi => absurd hi (by omega), Out.refl _ _ _⟩
    case round =>
      obtain ⟨q, c, hq, rfl, rfl, hB, hcs, hst, ho⟩ := hrel
      by_cases hlt : q < n
      · have cT := fun W => markText_any (k + 2 * q) W (by omega) (by omega)
        have e1 : IntKind.i64.wrap (((k + 2 * q : Nat) : Int) + 1) = ((k + 2 * q + 1 : Nat) : Int) := by rw [wrapI (by omega) (by omega)]; omega
        have e2 : IntKind.i64.wrap (((k + 2 * q + 1 : Nat) : Int) + 1) = ((k + 2 * (q + 1) : Nat) : Int) := by rw [wrapI (by omega) (by omega)]; omega
        have HMq := mkN_at (k := k) hlt
        have HM : Hid (gm (mkN k n) q = ⟨mkText (k + 2 * q), ((k + 2 * q + 1 : Nat) : Int)⟩) := HMq
        clear HMq
        generalize hk0 : ((k + 2 * q : Nat) : Int) = K0 at *
        generalize hk1 : ((k + 2 * q + 1 : Nat) : Int) = K1 at *
        generalize hk2 : ((k + 2 * (q + 1) : Nat) : Int) = K2 at *
        generalize mkText (k + 2 * q) = T at *
        have H2 : Hid _ := hk2
        clear hk0 hk1 hk2
        obtain ⟨x0, hx0⟩ : ∃ v, c[q * 2]? = some v := ⟨c[q * 2]'(by omega), by simp⟩
        obtain ⟨x1, hx1⟩ : ∃ v, (c.setIfInBounds (q * 2) (.string T))[q * 2 + 1]? = some v := ⟨c[q * 2 + 1]'(by omega), by rw [set_ne (by omega)]; simp⟩
        have HX0 : Hid _ := hx0
        have HX1 : Hid _ := hx1
        clear hx0 hx1
        go_wp2_with fail
        refine (cT _).mono ?_
        rintro e w1 ⟨rfl, hb1⟩
        have HB1 : Hid (w1.heap[g]? = some (.cells c 36 (0, 0))) := box_on hB.out hb1
        have g0 := cell_of_block HB1.out HX0.out
        have f0 := free_of_block (i := q * 2) HB1.out
        obtain ⟨W2, hW2⟩ : ∃ W2, w1.setCell ⟨g, q * 2, none⟩ (.string T) = W2 := ⟨_, rfl⟩
        have HB2 : Hid (W2.heap[g]? = some (.cells (c.setIfInBounds (q * 2) (.string T)) 36 (0, 0))) := by subst hW2; exact block_set HB1.out
        have o2 : Out g (g + 1) w1 W2 := by subst hW2; exact out_setCell _ _ _ _
        have g1 := cell_of_block HB2.out HX1.out
        have f1 := free_of_block (i := q * 2 + 1) HB2.out
        go_wp2
        go_roundw
        case rel =>
          refine ⟨q + 1, _, by omega, by rw [H2.out], by go_num, block_set HB2.out, by simpa using hcs, ?_, ((ho.trans (Out.of_below hb1)).trans o2).setCell (Nat.le_refl _) (Nat.lt_succ_self _) _ _⟩
          intro i hi
          by_cases e : i = q
          · subst e
            rw [HM.out]
            exact ⟨by rw [set_ne (by omega)]; exact set_at (by omega) _, set_at (by simp; omega) _⟩
          · rw [set_ne (by omega), set_ne (by omega), set_ne (by omega), set_ne (by omega)]; exact hst i (by omega)
        case measure => simp [intOf]; omega
      · have hqn : q = n := by omega
        subst hqn
        go_wp2
        go_ret
        refine ⟨rfl, ho, some ⟨g, 0, none⟩, cap, by rw [mkN_len], by rw [mkN_len]; exact hc1, fun _ => ⟨rfl, hg1, hg2, c, hB.out, by rw [mkN_len]; exact hst⟩⟩
set_option maxHeartbeats 1000000 in
theorem heldNameS_any (a : Option Addr) (cap n k : Nat) (w : World) (hk1 : 1 ≤ k) (hk : k + 2 * n ≤ 100000000) (h : Nms w a (mkN k n)) :
    Calls Try.prog 75 #[.slice a n cap, .int .i64 k] w fun e w' => e = .returned (.int .i64 ((k + 2 * n : Nat) : Int)) ∧ Below w.heap.size w w' := by
  unfold Nms at h
  rw [mkN_len] at h
  have Hc : Hid _ := h
  clear h
  go_enter Try.func75, Try.ntmps75
  go_wp2
  go_loopw [1, 5] (fun kk i wr => ∃ (q : Nat), q ≤ n ∧ kk = .int .i64 ((k + 2 * q : Nat) : Int) ∧ i = .int .i64 q ∧ Below w.heap.size w wr) (fun _ i _ => n - (intOf i).toNat)
  case atStart => exact ⟨0, Nat.zero_le _, rfl, rfl, Below.refl _ _⟩
  case round =>
    obtain ⟨q, hq, rfl, rfl, hb⟩ := hrel
    by_cases hlt : q < n
    · obtain ⟨b, off, rfl, hcell⟩ := Hc.out (by omega)
      obtain ⟨h0, h1⟩ := (hcell q hlt).below hb
      rw [mkN_at hlt] at h0 h1
      simp only at h0 h1
      have cT := fun W => markText_any (k + 2 * q) W (by omega) (by omega)
      have e1 : IntKind.i64.wrap (((k + 2 * q : Nat) : Int) + 1) = ((k + 2 * q + 1 : Nat) : Int) := by rw [wrapI (by omega) (by omega)]; omega
      have e2 : IntKind.i64.wrap (((k + 2 * q + 1 : Nat) : Int) + 1) = ((k + 2 * (q + 1) : Nat) : Int) := by rw [wrapI (by omega) (by omega)]; omega
      have hlt' : (q : Int) < (n : Int) := by omega
      clear hcell Hc
      generalize hk0 : ((k + 2 * q : Nat) : Int) = K0 at *
      generalize hk1 : ((k + 2 * q + 1 : Nat) : Int) = K1 at *
      generalize hk2 : ((k + 2 * (q + 1) : Nat) : Int) = K2 at *
      generalize mkText (k + 2 * q) = T at *
      have H2 : Hid _ := hk2
      clear hk0 hk1 hk2
      have g0 : ∀ d os, (Go.Sort.grow (redrawn wr d) os).cell? ⟨b, off + q * 2, none⟩ = some (.string T) := cell_regrown h0
      have c1 : ∀ d os, Calls Try.prog 55 #[.int .i64 K0] (Go.Sort.grow (redrawn wr d) os) fun e w'' => e = .returned (.string T) ∧ ∃ p : Regrown, w'' = Go.Sort.grow (redrawn wr p.d) p.os := fun d os => Calls.regrown_of (cT _)
      have eT : (!(T.toList == T.toList)) = false := by simp
      have eK : (K1 != K1) = false := by simp
      clear h0
      go_wp2
      refine wp_region_quiet_below (by kernel_rfl) (by kernel_rfl) ?_
      repeat (go_big_quiet_step (with_reducible exact c1 _ _))
      refine wpQuiet_nil ?_
      intro _ hw'
      obtain ⟨⟨dq', osq⟩, hw''⟩ := hw'
      subst hw''
      have b8 := below_regrown wr dq' osq
      have h1' := cell_on h1 b8
      clear c1 g0 cT h1
      generalize Go.Sort.grow (redrawn wr dq') osq = w8 at *
      go_wp2
      go_roundw
      case rel => exact ⟨q + 1, by omega, by rw [H2.out], by go_num, Below.comp hb b8⟩
      case measure => simp [intOf]; omega
    · have hqn : q = n := by omega
      subst hqn
      go_wp2
      go_ret
      exact ⟨rfl, hb⟩
end Go.Proofs.Ytfmgaenedkjmkaa
