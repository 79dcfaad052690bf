import Derived.Test.YtapkaeamiplhgaaDoorJ2
namespace Go.Proofs.YtapkaeamiplhgaaDoor
open Go.ChangeShapes Go.WideShapes Go.ChangeAt Go.RowKit
set_option linter.unusedVariables false
open Ham

theorem xor4 (a b c d : Nat) : (a ^^^ b) ^^^ (c ^^^ d) = (a ^^^ c) ^^^ (b ^^^ d) := by
  rw [Nat.xor_assoc, Nat.xor_assoc, ← Nat.xor_assoc b c d, Nat.xor_comm b c, Nat.xor_assoc]
theorem synF_xor (a b : Nat) : ∀ k, synF (a ^^^ b) k = synF a k ^^^ synF b k
  | 0 => by simp [synF]
  | k + 1 => by
    simp only [synF, synF_xor a b k, Nat.testBit_xor]
    cases a.testBit k <;> cases b.testBit k <;> simp
    · rw [Nat.xor_assoc]
    · rw [Nat.xor_assoc, Nat.xor_assoc, Nat.xor_comm k]
    · rw [xor4, Nat.xor_self, Nat.xor_zero]
theorem oddF_xor (a b : Nat) : ∀ k, oddF (a ^^^ b) k = (oddF a k != oddF b k)
  | 0 => rfl
  | k + 1 => by
    simp only [oddF, oddF_xor a b k, Nat.testBit_xor]
    cases a.testBit k <;> cases b.testBit k <;> cases oddF a k <;> cases oddF b k <;> rfl
theorem syn_xor (a b : Nat) : syn (a ^^^ b) = syn a ^^^ syn b := synF_xor a b 13
theorem odd_xor (a b : Nat) : odd (a ^^^ b) = (odd a != odd b) := oddF_xor a b 13
theorem one_all : allB (fun i => syn (2 ^ i) == i && odd (2 ^ i)) 13 = true := by decide +kernel
theorem enc_all : allB (fun n => syn (enc n) == 0 && !odd (enc n)) 256 = true := by decide +kernel
set_option maxRecDepth 100000 in
theorem far_all : allB (fun x => !(syn x == 0 && !odd x && decide (wt x < 4)) || x == 0) 8192 = true := by decide +kernel
theorem one_of {i : Nat} (h : i < 13) : syn (2 ^ i) = i ∧ odd (2 ^ i) = true := by
  have := allB_of one_all h
  simpa using this
theorem enc_of {n : Nat} (h : n < 256) : syn (enc n) = 0 ∧ odd (enc n) = false := by
  have := allB_of enc_all h
  simpa using this
theorem back2 {n i j : Nat} (h : n < 256) (hi : i < 13) (hj : j < i) : decN (enc n ^^^ 2 ^ i ^^^ 2 ^ j) = 0 ∧ decC (enc n ^^^ 2 ^ i ^^^ 2 ^ j) = 2 := by
  have hs : syn (enc n ^^^ 2 ^ i ^^^ 2 ^ j) = i ^^^ j := by
    rw [syn_xor, syn_xor, (enc_of h).1, (one_of hi).1, (one_of (Nat.lt_trans hj hi)).1, Nat.zero_xor]
  have ho : odd (enc n ^^^ 2 ^ i ^^^ 2 ^ j) = false := by
    rw [odd_xor, odd_xor, (enc_of h).2, (one_of hi).2, (one_of (Nat.lt_trans hj hi)).2]; rfl
  have hne : i ^^^ j ≠ 0 := fun e => by
    have : i = j := by
      have := congrArg (fun z => z ^^^ j) e
      simp only [Nat.xor_assoc, Nat.xor_self, Nat.xor_zero, Nat.zero_xor] at this
      exact this
    omega
  exact dec_two (fun q => hne (by rw [← hs]; exact q.1)) (fun q => by rw [ho] at q; cases q.1)
theorem dist_enc {a b : Nat} (ha : a < 256) (hb : b < 256) : (wt (enc a ^^^ enc b) < 4 → a = b) ∧ (a = b → wt (enc a ^^^ enc b) = 0) := by
  refine ⟨fun hw => ?_, fun e => by rw [e, Nat.xor_self]; rfl⟩
  have hl : enc a ^^^ enc b < 8192 := Nat.xor_lt_two_pow (n := 13) (enc_lt a) (enc_lt b)
  have h1 : syn (enc a ^^^ enc b) = 0 := by rw [syn_xor, (enc_of ha).1, (enc_of hb).1]; rfl
  have h2 : odd (enc a ^^^ enc b) = false := by rw [odd_xor, (enc_of ha).2, (enc_of hb).2]; rfl
  have h3 := allB_of far_all hl
  rw [h1, h2, decide_eq_true hw] at h3
  have h4 : enc a ^^^ enc b = 0 := by simpa using h3
  have h5 : enc a = enc b := by
    have := congrArg (fun z => z ^^^ enc b) h4
    simp only [Nat.xor_assoc, Nat.xor_self, Nat.xor_zero, Nat.zero_xor] at this
    exact this
  have := (back ha).1
  rw [h5, (back hb).1] at this
  exact this.symm

/-- The number of a list of bytes. -/
def numF (S : Nat → Nat) : Nat → Nat
  | 0 => 0
  | k + 1 => (31 * numF S k + S k) % 1000003
theorem numF_lt (S : Nat → Nat) : ∀ k, numF S k < 1000003
  | 0 => by simp [numF]
  | k + 1 => Nat.mod_lt _ (by omega)
set_option maxHeartbeats 400000 in
theorem number_any (a : Option Addr) (n cap : Nat) (S : Nat → Nat) (w : World) (hn : n ≤ 9223372036854775807) (hS : ∀ i, S i < 256) (hc : At w a n (by' S)) :
    Calls Tryd.prog 8 #[.slice a n cap] w fun e w' => e = .returned (.int .i64 (numF S n : Nat)) ∧ w' = w := by
  have HS : Hid _ := hS
  have HC : Hid _ := hc
  clear hS hc
  go_enter Tryd.func8, Tryd.ntmps8
  go_wp2
  go_loop [3, 8] (fun x i => ∃ k : Nat, k ≤ n ∧ i = .int .i64 k ∧ x = .int .i64 (numF S k : Nat)) (fun _ i => n - (intOf i).toNat)
  case atStart => exact ⟨0, Nat.zero_le _, rfl, rfl⟩
  case round =>
    obtain ⟨k, hk, rfl, rfl⟩ := hrel
    by_cases hlt : k < n
    · obtain ⟨b, off, rfl, hcell⟩ := HC.out (by omega)
      have hck := hcell k hlt
      unfold by' at hck
      have hlt' : (k : Int) < (n : Int) := by omega
      have hsk := HS.out k
      have hst : numF S (k + 1) = (31 * numF S k + S k) % 1000003 := rfl
      have hl := numF_lt S k
      have HST : Hid _ := hst
      clear hcell hst HS HC
      generalize hx : S k = x at *
      generalize hy : numF S k = y at *
      go_wp2
      go_round
      case rel => exact ⟨k + 1, by omega, by go_num, by rw [HST.out]; simp⟩
      case measure => simp [intOf]; omega
    · obtain rfl : k = n := by omega
      have hlt' : ¬ (k : Int) < (k : Int) := by omega
      clear HS HC
      go_wp2
      go_ret
      exact ⟨rfl, rfl⟩
theorem drawEnc_any (a : Option Addr) (n cap : Nat) (S : Nat → Nat) (w : World) (hn : n ≤ 9223372036854775807) (hS : ∀ i, S i < 256) (h : At w a n (by' S)) :
    Calls Tryd.prog 4 #[.slice a n cap] w fun e w' => ∃ r : Nat, e = .returned (.int .i64 ((r : Int) - 2)) ∧ r < 260 ∧ Below w.heap.size w w' := by
  obtain ⟨W0, hW0⟩ : ∃ W0, w.alloc (.cells #[.slice a n cap, .int .i64 0, .int .u64 0] 34) = W0 := ⟨_, rfl⟩
  have c0 : Cur W0 w.heap.size a n cap 0 := by rw [← hW0]; exact Cur.new hS h
  have b0 : Below w.heap.size w W0 := by rw [← hW0]; exact below_alloc _ _
  have hz0 := b0.size
  clear h
  go_enter Tryd.func4, Tryd.ntmps4
  go_wp2_with fail
  refine (pick_any 260 w.heap.size a n cap 0 _ (by omega) (by omega) hn (by omega) c0).mono ?_
  rintro e w1 ⟨r, rfl, hr, o1, c1⟩
  clear hW0
  go_wp2
  go_ret
  exact ⟨r, rfl, hr, b0.trans (o1.below hz0)⟩
set_option maxHeartbeats 800000 in
theorem word_any (D : Nat) (a : Option Addr) (n cap : Nat) (w : World) (hn : n ≤ 9223372036854775807) (h : Cur w D a n cap 0) :
    Calls Tryd.prog 24 #[.pointer (some ⟨D, 0, none⟩)] w fun e w' => ∃ v : Int, e = .returned (.int .i64 v) ∧ Out D (D + 1) w w' := by
  go_enter Tryd.func24, Tryd.ntmps24
  go_wp2_with fail
  refine (pick_any 256 D a n cap 0 _ (by omega) (by omega) hn (by omega) h).mono ?_
  rintro e w1 ⟨r, rfl, hr, o1, c1⟩
  clear h
  go_wp2_with fail
  refine (l4Encode_any r _ hr).mono ?_
  rintro e w2 ⟨rfl, b2⟩
  have c2 := c1.below b2
  have o2 := o1.trans (Out.of_below b2)
  clear c1 o1 b2
  go_wp2_with fail
  refine (pick_any 4 D a n cap 2 _ (by omega) (by omega) hn (by omega) c2).mono ?_
  rintro e w3 ⟨q, rfl, hq, o3, c3⟩
  have o4 := o2.trans o3
  clear c2 o2 o3
  have hel := enc_lt r
  generalize enc r = x0 at *
  go_wp2
  go_loopw [3, 4] (fun x i wr => ∃ (m y : Nat), m ≤ 3 ∧ y < 8192 ∧ i = .int .i64 m ∧ x = .int .i64 (y : Int) ∧ Out D (D + 1) w wr ∧ Cur wr D a n cap (100 - 10 * m)) (fun _ i _ => (intOf i).toNat)
  case atStart => exact ⟨q, x0, by omega, hel, rfl, rfl, o4, c3.mono (by omega)⟩
  case round =>
    obtain ⟨m, y, hm, hy, rfl, rfl, ho, hcu⟩ := hrel
    clear o4 c3
    by_cases hgo : 0 < m
    · have hm' : (0 : Int) < (m : Int) := by omega
      go_wp2_with fail
      refine (pick_any 13 D a n cap (100 - 10 * m) _ (by omega) (by omega) hn (by omega) hcu).mono ?_
      rintro e w5 ⟨z, rfl, hz, o5, c5⟩
      have hp : 2 ^ z ≤ 4096 := Nat.pow_le_pow_right (n := 2) (j := 12) (by omega) (by omega)
      have hxo : bits .xor .i64 (y : Int) ((2 : Int) ^ z) = ((y ^^^ 2 ^ z : Nat) : Int) := by
        have := bits_i64_xor (a := y) (b := 2 ^ z) (by omega) (by omega)
        simpa using this
      have hxl : y ^^^ 2 ^ z < 8192 := Nat.xor_lt_two_pow (n := 13) hy (by omega)
      have hsh := shl_one (k := z) (by omega)
      go_wp2
      go_roundw
      case rel => exact ⟨m - 1, y ^^^ 2 ^ z, by omega, hxl, by congr 1; omega, by rw [← hxo], ho.trans o5, c5.mono (by omega)⟩
      case measure => simp [intOf]; omega
    · obtain rfl : m = 0 := by omega
      go_wp2_with fail
      refine (one_any 30 D a n cap 100 _ (by omega) (by omega) hn (by omega) hcu).mono ?_
      rintro e w6 ⟨rb, rfl, o6, c6⟩
      have o7 := ho.trans o6
      clear ho o6 hcu
      cases rb
      · go_wp2
        go_ret
        exact ⟨_, rfl, o7⟩
      · have hD := (show D < w6.heap.size by obtain ⟨S, t, s, h1, h2, h3, h4, h5, h6⟩ := c6; exact (Array.getElem?_eq_some_iff.1 h6).1)
        go_wp2_with fail
        refine (among_any 3 D w6.heap.size (fun i => ([-1, 8191, 8192] : List Int).getD i 0) a n cap 102 3 _ (by omega) (by omega) hn (by omega) (by omega) ?_ (c6.below (below_alloc _ _))).mono ?_
        · intro i hi
          refine cell_of_block (heap_alloc_new w6 _) ?_
          rcases (by omega : i = 0 ∨ i = 1 ∨ i = 2) with rfl | rfl | rfl <;> rfl
        rintro e w7 ⟨r2, rfl, hr2, o8, c8⟩
        generalize ([-1, 8191, 8192] : List Int).getD r2 0 = vv
        go_wp2
        go_ret
        exact ⟨_, rfl, (o7.trans (Out.of_below (below_alloc _ _))).trans o8⟩
theorem drawDec_any (a : Option Addr) (n cap : Nat) (S : Nat → Nat) (w : World) (hn : n ≤ 9223372036854775807) (hS : ∀ i, S i < 256) (h : At w a n (by' S)) :
    Calls Tryd.prog 10 #[.slice a n cap] w fun e w' => ∃ v : Int, e = .returned (.int .i64 v) ∧ Below w.heap.size w w' := by
  obtain ⟨W0, hW0⟩ : ∃ W0, w.alloc (.cells #[.slice a n cap, .int .i64 0, .int .u64 0] 34) = W0 := ⟨_, rfl⟩
  have c0 : Cur W0 w.heap.size a n cap 0 := by rw [← hW0]; exact Cur.new hS h
  have b0 : Below w.heap.size w W0 := by rw [← hW0]; exact below_alloc _ _
  have hz0 := b0.size
  clear h
  go_enter Tryd.func10, Tryd.ntmps10
  go_wp2_with fail
  refine (word_any w.heap.size a n cap _ hn c0).mono ?_
  rintro e w1 ⟨v, rfl, o1⟩
  clear hW0
  go_wp2
  go_ret
  exact ⟨v, rfl, b0.trans (o1.below hz0)⟩
end Go.Proofs.YtapkaeamiplhgaaDoor
