import Derived.Test.YtmijalmihfgolaaDoorO1
import Derived.Deep.QuietTactic
import Derived.BigQuiet
import Derived.Lib.QuietBelow
import Derived.Deep.RegionWith
import Derived.WalkSmall
import Derived.Laws.CopyOwn
import Derived.RegionTactic
import Derived.Laws.IdiomStrings
import Derived.Deep.RegionLaw
import Derived.Deep.RegionHeld3
namespace Go.Proofs.YtmijalmihfgolaaDoor
open Go.ChangeShapes Go.WideShapes Go.ChangeAt Go.RowKit
set_option linter.unusedVariables false
open Tx

attribute [local go_sem] Oper.semAt_some

/- QA2c -/
def At2 (w : World) (a : Option Addr) (n : Nat) (T : Nat → Int) (U : Nat → ByteArray) : Prop :=
  n ≠ 0 → ∃ b off, a = some ⟨b, off, none⟩ ∧ ∀ i, i < n → w.cell? ⟨b, off + i * 2, none⟩ = some (.int .i64 (T i)) ∧ w.cell? ⟨b, off + i * 2 + 1, none⟩ = some (.string (U i))

theorem At2.below {w w' : World} {a : Option Addr} {n : Nat} {T : Nat → Int} {U : Nat → ByteArray} (h : At2 w a n T U) (hb : Below w.heap.size w w') : At2 w' a n T U := by
  intro hn
  obtain ⟨b, off, rfl, hc⟩ := h hn
  refine ⟨b, off, rfl, fun i hi => ?_⟩
  obtain ⟨h1, h2⟩ := hc i hi
  rw [hb.cell (p := ⟨b, off + i * 2, none⟩) (lt_of_cell h1), hb.cell (p := ⟨b, off + i * 2 + 1, none⟩) (lt_of_cell h1)]; exact ⟨h1, h2⟩

set_option maxHeartbeats 400000 in
theorem szWrite_any (t : Int) (u : ByteArray) (left : Int) (w : World) (h0 : 0 ≤ left) (h1 : left ≤ 1048576) (hs : u.size ≤ 9223372036854775807) :
    Calls Tryd.prog 52 #[.agg #[.int .i64 t, .string u], .int .i64 left] w fun e w' => Below w.heap.size w w' ∧ ∃ r : Int, e = .returned (.int .i64 r) ∧ -1 ≤ r ∧ r ≤ left := by
  by_cases hl : left - u.size < 0
  · go_enter Tryd.func52, Tryd.ntmps52
    go_wp2
    go_ret
    exact ⟨(Below.refl _ _).alloc (Nat.le_refl _) _, -1, rfl, by omega, by omega⟩
  · have hl' : 0 ≤ left - u.size := by omega
    go_enter Tryd.func52, Tryd.ntmps52
    go_wp2
    go_ret
    exact ⟨(Below.refl _ _).alloc (Nat.le_refl _) _, _, rfl, by omega, by omega⟩

set_option maxHeartbeats 400000 in
theorem szWriteS_any (a : Option Addr) (n cap : Nat) (T : Nat → Int) (U : Nat → ByteArray) (left : Int) (w : World) (h0 : 0 ≤ left) (h1 : left ≤ 1048576)
    (hn : n ≤ 9223372036854775807) (hc : At2 w a n T U) (hs : ∀ i, i < n → (U i).size ≤ 9223372036854775807) :
    Calls Tryd.prog 16 #[.slice a n cap, .int .i64 left] w fun e w' => Below w.heap.size w w' ∧ ∃ r : Int, e = .returned (.int .i64 r) ∧ -1 ≤ r ∧ r ≤ left ∧ (0 ≤ r → (n : Int) ≤ left) := by
  by_cases hl : left - n < 0
  · go_enter Tryd.func16, Tryd.ntmps16
    go_wp2
    go_ret
    exact ⟨Below.refl _ _, -1, rfl, by omega, by omega, by omega⟩
  · have hl' : 0 ≤ left - n := by omega
    go_enter Tryd.func16, Tryd.ntmps16
    go_wp2
    go_loopw [1, 5] (fun l i wr => ∃ (k : Nat) (q : Int), k ≤ n ∧ i = .int .i64 k ∧ l = .int .i64 q ∧ 0 ≤ q ∧ q ≤ left - n ∧ Below w.heap.size w wr) (fun _ i _ => n - (intOf i).toNat)
    case atStart => exact ⟨0, _, Nat.zero_le _, rfl, rfl, hl', by omega, Below.refl _ _⟩
    case round =>
      obtain ⟨k, q, hk, rfl, rfl, hq, hq', hb⟩ := hrel
      by_cases hlt : k < n
      · obtain ⟨b, off, rfl, hcell⟩ := (hc.below hb) (by omega)
        obtain ⟨hck, hck2⟩ := hcell k hlt
        have hsk := hs k hlt
        clear hcell hs hc
        go_wp2_with (go_at_call 52; refine (szWrite_any _ _ _ _ (by omega) (by omega) hsk).mono ?_; rintro e w1 ⟨hb1, r, rfl, hr1, hr2⟩)
        · go_ret
          exact ⟨hb.trans (hb1.mono hb.size), -1, rfl, by omega, by omega, by omega⟩
        · go_roundw
          case rel => exact ⟨k + 1, _, by omega, by go_num, rfl, by omega, by omega, hb.trans (hb1.mono hb.size)⟩
          case measure => simp [intOf]; omega
      · go_wp2
        go_ret
        exact ⟨hb, q, rfl, by omega, by omega, by omega⟩
/- QB1c -/
def strs (n : Nat) (S : Nat → ByteArray) (c : Array Value) : Prop := ∀ i, i < n → c[i]? = some (.string (S i))
def wrts (n : Nat) (T : Nat → Int) (U : Nat → ByteArray) (c : Array Value) : Prop := ∀ i, i < n → c[i * 2]? = some (.int .i64 (T i)) ∧ c[i * 2 + 1]? = some (.string (U i))

theorem Mine.strs {w : World} {B C : Nat} {e : TypeId} {n : Nat} {a : Option Addr} {S : Nat → ByteArray} (h : Mine w B C e n a (strs n S)) : At w a n fun i => .string (S i) := by
  intro hn
  rcases h with h | ⟨b, c, g1, g2, h3, h4, h5⟩
  · exact absurd h hn
  · exact ⟨b, 0, h3, fun i hi => by simp [World.cell?, h4, h5 i hi]⟩
theorem Mine.wrts {w : World} {B C : Nat} {e : TypeId} {n : Nat} {a : Option Addr} {T : Nat → Int} {U : Nat → ByteArray} (h : Mine w B C e n a (wrts n T U)) : At2 w a n T U := by
  intro hn
  rcases h with h | ⟨b, c, g1, g2, h3, h4, h5⟩
  · exact absurd h hn
  · exact ⟨b, 0, h3, fun i hi => by have := h5 i hi; simp [World.cell?, h4, this]⟩

theorem info9 : (Tryd.prog.info? 9).map (fun i => (i.zero, i.size, i.bytes)) = some (some (.string ⟨#[]⟩), 1, 16) := by kernel_rfl
theorem info42 : (Tryd.prog.info? 63).map (fun i => (i.zero, i.size, i.bytes)) = some (some (.agg #[.int .i64 0, .string ⟨#[]⟩]), 2, 24) := by kernel_rfl
/- QB2c -/
set_option maxHeartbeats 400000 in
theorem toWrite_any (t : Int) (u : ByteArray) (w : World) :
    Calls Tryd.prog 56 #[.agg #[.int .i64 t, .string u]] w fun e w' => Below w.heap.size w w' ∧ e = .returned (.agg #[.int .i64 t, .string u]) := by
  go_enter Tryd.func56, Tryd.ntmps56
  go_wp2
  refine bodyPost_ret (v := .agg #[.int .i64 t, .string u]) (by simp [results, Tryd.results56, go_sem]) rfl ⟨?_, rfl⟩
  exact (((Below.refl _ _).alloc (Nat.le_refl _) _).alloc (by simp) _).alloc (by simp; omega) _

set_option maxHeartbeats 400000 in
theorem toWriteS_any (a : Option Addr) (n cap : Nat) (T : Nat → Int) (U : Nat → ByteArray) (w : World) (hn : n ≤ 1048576) (hc : At2 w a n T U) :
    Calls Tryd.prog 18 #[.slice a n cap] w fun e w' => Below w.heap.size w w' ∧ ∃ a' c', e = .returned (.slice a' n c') ∧ Mine w' w.heap.size w'.heap.size 63 n a' (wrts n T U) := by
  have hmk := make_any (P := Tryd.prog) 30 63 _ 2 24 Tryd.underlying30 info42 .i64 .i64 n (by omega) (by omega)
  go_enter Tryd.func18, Tryd.ntmps18
  go_wp2
  go_loopw [4] (fun i wr => ∃ (k : Nat) (c : Array Value), k ≤ n ∧ i = .int .i64 k ∧ wr.heap[w.heap.size]? = some (.cells c 63 (0, 0)) ∧ c.size = n * 2 ∧ wrts k T U c ∧ Below w.heap.size w wr) (fun i _ => n - (intOf i).toNat)
  case atStart => exact ⟨0, _, Nat.zero_le _, rfl, heap_alloc_new w _, by simp [size_made], fun i hi => absurd hi (by omega), below_alloc _ _⟩
  case round =>
    obtain ⟨k, c, hk, rfl, hB, hcs, hst, hb⟩ := hrel
    by_cases hlt : k < n
    · obtain ⟨b, off, rfl, hcell⟩ := (hc.below hb) (by omega)
      obtain ⟨hck, hck2⟩ := hcell k hlt
      clear hcell hc
      have HB : Hid (wr.heap[w.heap.size]? = some (.cells c 63 (0, 0))) := hB
      clear hB
      obtain ⟨x0, hx0⟩ : ∃ v, c[k * 2]? = some v := ⟨c[k * 2]'(by omega), by simp⟩
      obtain ⟨x1, hx1⟩ : ∃ v, c[k * 2 + 1]? = some v := ⟨c[k * 2 + 1]'(by omega), by simp⟩
      go_wp2_with fail
      refine (toWrite_any _ _ _).mono ?_
      rintro e w1 ⟨hb1, rfl⟩
      have HB1 : Hid (w1.heap[w.heap.size]? = some (.cells c 63 (0, 0))) := ((hb1.block _ (Array.getElem?_eq_some_iff.1 HB.out).1).trans HB.out)
      have g0 := cell_of_block HB1.out hx0
      have g1 := cell_of_block HB1.out hx1
      have f0 := free_of_block (i := k * 2) HB1.out
      have f1 := free_of_block (i := k * 2 + 1) HB1.out
      clear hx0 hx1 hck hck2
      go_wp2
      go_roundw
      case rel =>
        refine ⟨k + 1, _, by omega, by go_num, block_set (block_set HB1.out), by simpa using hcs, ?_, ((Below.comp hb hb1).setCell (Nat.le_refl _) _).setCell (Nat.le_refl _) _⟩
        intro i hi
        by_cases e : i = k
        · subst e
          exact ⟨by rw [set_ne (by omega)]; exact set_at (by omega) _, set_at (by simp; omega) _⟩
        · have := hst i (by omega)
          rw [set_ne (by omega), set_ne (by omega), set_ne (by omega), set_ne (by omega)]; exact this
      case measure => simp [intOf]; omega
    · go_wp2
      go_ret
      have hkn : k = n := by omega
      subst hkn
      exact ⟨hb, _, _, rfl, .inr ⟨_, c, Nat.le_refl _, (Array.getElem?_eq_some_iff.1 hB).1, rfl, hB, hst⟩⟩

set_option maxHeartbeats 400000 in
theorem eqStringS_any (a a' : Option Addr) (n cap cap' : Nat) (S : Nat → ByteArray) (w : World) (hn : n ≤ 9223372036854775807) (hc : At w a n fun i => .string (S i)) (hc' : At w a' n fun i => .string (S i)) :
    Calls Tryd.prog 39 #[.slice a n cap, .slice a' n cap'] w fun e w' => e = .returned (.bool true) ∧ Below w.heap.size w w' := by
  go_enter Tryd.func39, Tryd.ntmps39
  go_wp2
  go_loopw [5] (fun i wr => ∃ (k : Nat), k ≤ n ∧ i = .int .i64 k ∧ Below w.heap.size w wr) (fun i _ => n - (intOf i).toNat)
  case atStart => exact ⟨0, Nat.zero_le _, rfl, Below.refl _ _⟩
  case round =>
    obtain ⟨k, hk, rfl, hb⟩ := hrel
    by_cases hlt : k < n
    · obtain ⟨b, off, rfl, hcell⟩ := (hc.below hb) (by omega)
      obtain ⟨b', off', rfl, hcell'⟩ := (hc'.below hb) (by omega)
      have hck := hcell k hlt
      have hck' := hcell' k hlt
      have hlt' : (k : Int) < (n : Int) := by omega
      clear hcell hc hcell' hc'
      go_wp2
      go_quiet (fail)
      go_wp2
      go_roundw
      case rel => exact ⟨k + 1, by omega, by go_num, below_drewN hb _⟩
      case measure => simp [intOf]; omega
    · go_wp2
      go_ret
      exact ⟨rfl, hb⟩

set_option maxHeartbeats 400000 in
theorem eqWrite_any (t : Int) (u : ByteArray) (w : World) :
    Calls Tryd.prog 60 #[.agg #[.int .i64 t, .string u], .agg #[.int .i64 t, .string u]] w fun e w' => e = .returned (.bool true) ∧ Below w.heap.size w w' := by
  go_enter Tryd.func60, Tryd.ntmps60
  go_wp2
  go_ret
  exact ⟨rfl, ((Below.refl _ _).alloc (Nat.le_refl _) _).alloc (by simp) _⟩
/- QB3c -/
set_option maxHeartbeats 400000 in
theorem eqWriteS_any (a a' : Option Addr) (n cap cap' : Nat) (T : Nat → Int) (U : Nat → ByteArray) (w : World) (hn : n ≤ 9223372036854775807) (hc : At2 w a n T U) (hc' : At2 w a' n T U) :
    Calls Tryd.prog 20 #[.slice a n cap, .slice a' n cap'] w fun e w' => e = .returned (.bool true) ∧ Below w.heap.size w w' := by
  go_enter Tryd.func20, Tryd.ntmps20
  go_wp2
  go_loopw [5] (fun i wr => ∃ (k : Nat), k ≤ n ∧ i = .int .i64 k ∧ Below w.heap.size w wr) (fun i _ => n - (intOf i).toNat)
  case atStart => exact ⟨0, Nat.zero_le _, rfl, Below.refl _ _⟩
  case round =>
    obtain ⟨k, hk, rfl, hb⟩ := hrel
    by_cases hlt : k < n
    · obtain ⟨b, off, rfl, hcell⟩ := (hc.below hb) (by omega)
      obtain ⟨b', off', rfl, hcell'⟩ := (hc'.below hb) (by omega)
      have h1 := cell_regrown (hcell k hlt).1
      have h2 := cell_regrown (hcell k hlt).2
      have h3 := cell_regrown (hcell' k hlt).1
      have h4 := cell_regrown (hcell' k hlt).2
      have hlt' : (k : Int) < (n : Int) := by omega
      clear hcell hc hcell' hc'
      go_wp2
      refine wp_region_quiet_below (by kernel_rfl) (by kernel_rfl) ?_
      repeat (quiet_step (exact Calls.regrown_of (eqWrite_any _ _ _)))
      refine wpQuiet_nil ?_
      intro _ hw'
      obtain ⟨⟨dq, osq⟩, hw''⟩ := hw'
      subst hw''
      clear h1 h2 h3 h4
      go_wp2
      go_roundw
      case rel => exact ⟨k + 1, by omega, by go_num, Below.comp hb (below_regrown _ _ _)⟩
      case measure => simp [intOf]; omega
    · go_wp2
      go_ret
      exact ⟨rfl, hb⟩

set_option maxHeartbeats 400000 in
theorem eqDevice_any (a a' b b' : Option Addr) (n m ca ca' cb cb' : Nat) (S : Nat → ByteArray) (T : Nat → Int) (U : Nat → ByteArray) (w : World) (hn : n ≤ 9223372036854775807) (hm : m ≤ 9223372036854775807)
    (ha : At w a n fun i => .string (S i)) (ha' : At2 w a' m T U) (hb : At w b n fun i => .string (S i)) (hb' : At2 w b' m T U) :
    Calls Tryd.prog 51 #[.agg #[.slice a n ca, .slice a' m ca'], .agg #[.slice b n cb, .slice b' m cb']] w fun e w' => e = .returned (.bool true) ∧ Below w.heap.size w w' := by
  have h0 : ∀ o1 o2, Below w.heap.size w ((w.alloc o1).alloc o2) := fun o1 o2 => (below_alloc _ _).alloc (by simp) _
  go_enter Tryd.func51, Tryd.ntmps51
  go_wp2_with fail
  refine (eqStringS_any a b n ca cb S _ hn (ha.below (h0 _ _)) (hb.below (h0 _ _))).mono ?_
  rintro e w1 ⟨rfl, b1⟩
  obtain ⟨c1, f1⟩ := bcell b1
  have g1 := Below.comp (h0 _ _) b1
  go_wp2_with fail
  refine (eqWriteS_any a' b' m ca' cb' T U _ hm (ha'.below g1) (hb'.below g1)).mono ?_
  rintro e w2 ⟨rfl, b2⟩
  have g2 := Below.comp g1 b2
  clear c1 f1
  go_wp2
  go_ret
  exact ⟨rfl, g2⟩
/- QC1c -/
def inB (x lo hi : Int) : Bool := decide (lo ≤ x ∧ x ≤ hi)
def fitB (n : Nat) (t : Int) (u : ByteArray) : Bool := decide (0 ≤ t ∧ t < n ∧ u.size = 8)
def goodB (n m : Nat) (S : Nat → ByteArray) (T : Nat → Int) (U : Nat → ByteArray) : Bool :=
  decide (1 ≤ n ∧ n ≤ 32 ∧ m ≤ 60 ∧ (∀ i, i < n → (S i).size = 8) ∧ ∀ i, i < m → fitB n (T i) (U i) = true)

theorem inB_true {x lo hi : Int} (h : lo ≤ x ∧ x ≤ hi) : inB x lo hi = true := by simp [inB, h]
theorem inB_false {x lo hi : Int} (h : ¬ (lo ≤ x ∧ x ≤ hi)) : inB x lo hi = false := decide_eq_false h
theorem ret_bool {a b : Bool} (h : a = b) : Ending.returned (.bool a) = .returned (.bool b) := by rw [h]

set_option maxHeartbeats 400000 in
theorem l1In_any (x lo hi : Int) (w : World) :
    Calls Tryd.prog 45 #[.int .i64 x, .int .i64 lo, .int .i64 hi] w fun e w' => e = .returned (.bool (inB x lo hi)) ∧ w' = w := by
  by_cases h1 : lo ≤ x
  · have d1 : decide (lo ≤ x) = true := by simpa using h1
    by_cases h2 : x ≤ hi
    · rw [inB_true ⟨h1, h2⟩]
      go_enter Tryd.func45, Tryd.ntmps45
      go_wp2
      go_ret
      exact ⟨rfl, rfl⟩
    · rw [inB_false (by omega)]
      go_enter Tryd.func45, Tryd.ntmps45
      go_wp2
      go_ret
      exact ⟨rfl, rfl⟩
  · rw [inB_false (by omega)]
    have d1 : decide (lo ≤ x) = false := by simpa using h1
    go_enter Tryd.func45, Tryd.ntmps45
    go_wp2
    go_ret
    exact ⟨rfl, rfl⟩

set_option maxHeartbeats 400000 in
theorem l1Write_any (n : Nat) (t : Int) (u : ByteArray) (w : World) (hn : n ≤ 9223372036854775807) (hu : u.size ≤ 9223372036854775807) :
    Calls Tryd.prog 82 #[.agg #[.int .i64 t, .string u], .int .i64 n] w fun e w' => e = .returned (.bool (fitB n t u)) ∧ Below w.heap.size w w' := by
  by_cases h1 : 0 ≤ t ∧ t < n
  · have d1 : inB t 0 ((n : Int) - 1) = true := inB_true (by omega)
    by_cases h2 : u.size = 8
    · have e2 : fitB n t u = true := by simp [fitB, h1, h2]
      have h3 : ((u.size : Int) == 8) = true := by simp; omega
      rw [e2]
      clear h2 e2
      go_enter Tryd.func82, Tryd.ntmps82
      go_wp2_with (go_at_call 45; refine (l1In_any _ _ _ _).mono ?_; rintro e w1 ⟨rfl, rfl⟩)
      go_ret
      exact ⟨rfl, below_alloc _ _⟩
    · have e2 : fitB n t u = false := by simp [fitB, h2]
      have h3 : ((u.size : Int) == 8) = false := by simp; omega
      rw [e2]
      clear h2 e2
      go_enter Tryd.func82, Tryd.ntmps82
      go_wp2_with (go_at_call 45; refine (l1In_any _ _ _ _).mono ?_; rintro e w1 ⟨rfl, rfl⟩)
      go_ret
      exact ⟨rfl, below_alloc _ _⟩
  · have d1 : inB t 0 ((n : Int) - 1) = false := inB_false (by omega)
    have e2 : fitB n t u = false := decide_eq_false (by omega)
    rw [e2]
    clear e2
    go_enter Tryd.func82, Tryd.ntmps82
    go_wp2_with (go_at_call 45; refine (l1In_any _ _ _ _).mono ?_; rintro e w1 ⟨rfl, rfl⟩)
    go_ret
    exact ⟨rfl, below_alloc _ _⟩

set_option maxHeartbeats 400000 in
theorem fits_any (n : Nat) (t : Int) (u : ByteArray) (w : World) (hn : n ≤ 9223372036854775807) (hu : u.size ≤ 9223372036854775807) :
    Calls Tryd.prog 88 #[.agg #[.int .i64 t, .string u], .int .i64 n] w fun e w' => e = .returned (.bool (fitB n t u)) ∧ Below w.heap.size w w' := by
  by_cases h1 : 0 ≤ t
  · have d1 : decide (0 ≤ t) = true := by simpa using h1
    by_cases h2 : t < n
    · have d2 : decide (t < n) = true := by simpa using h2
      by_cases h3 : u.size = 8
      · have e2 : fitB n t u = true := by simp [fitB, h1, h2, h3]
        have h3 : ((u.size : Int) == 8) = true := by simp; omega
        rw [e2]
        clear e2
        go_enter Tryd.func88, Tryd.ntmps88
        go_wp2
        go_ret
        exact ⟨rfl, below_alloc _ _⟩
      · have e2 : fitB n t u = false := by simp [fitB, h3]
        have h3 : ((u.size : Int) == 8) = false := by simp; omega
        rw [e2]
        clear e2
        go_enter Tryd.func88, Tryd.ntmps88
        go_wp2
        go_ret
        exact ⟨rfl, below_alloc _ _⟩
    · have d2 : decide (t < n) = false := by simpa using h2
      have e2 : fitB n t u = false := decide_eq_false (by omega)
      rw [e2]
      clear e2
      go_enter Tryd.func88, Tryd.ntmps88
      go_wp2
      go_ret
      exact ⟨rfl, below_alloc _ _⟩
  · have d1 : decide (0 ≤ t) = false := by simpa using h1
    have e2 : fitB n t u = false := decide_eq_false (by omega)
    rw [e2]
    clear e2
    go_enter Tryd.func88, Tryd.ntmps88
    go_wp2
    go_ret
    exact ⟨rfl, below_alloc _ _⟩
/- QC2c -/
/-- What SafeSector answers. -/
def safeV (n m : Nat) (S : Nat → ByteArray) (T : Nat → Int) (U : Nat → ByteArray) (s : Int) : Value :=
  if goodB n m S T U = true ∧ 0 ≤ s ∧ s < n then .tuple #[.string (S s.toNat), .bool true] else .tuple #[.string ⟨#[]⟩, .bool false]
theorem safeV_yes {n m : Nat} {S : Nat → ByteArray} {T : Nat → Int} {U : Nat → ByteArray} {s : Int} (h : goodB n m S T U = true) (h0 : 0 ≤ s) (h1 : s < n) : safeV n m S T U s = .tuple #[.string (S s.toNat), .bool true] := if_pos ⟨h, h0, h1⟩
theorem safeV_no {n m : Nat} {S : Nat → ByteArray} {T : Nat → Int} {U : Nat → ByteArray} {s : Int} (h : ¬ (goodB n m S T U = true ∧ 0 ≤ s ∧ s < n)) : safeV n m S T U s = .tuple #[.string ⟨#[]⟩, .bool false] := if_neg h
/- QD1c -/
theorem cell_new0 (w : World) (v0 v1 : Value) (t : TypeId) : (w.alloc (.cells #[v0, v1] t)).cell? ⟨w.heap.size, 0, none⟩ = some v0 := by simp [go_sem]
theorem cell_new1 (w : World) (v0 v1 : Value) (t : TypeId) : (w.alloc (.cells #[v0, v1] t)).cell? ⟨w.heap.size, 1, none⟩ = some v1 := by simp [go_sem]
/- QK1c -/
/-- .. from a string, all of it. -/
theorem run_copy_str {P : Program} (w : World) (dT sT ty elem : TypeId) (g dl dcap : Nat) (s : ByteArray) (cur : Array Value) (t : TypeId)
    (hu : P.underlying dT = some (.slice elem)) (hs : (P.info? elem).map (·.size) = some 1) (hg : w.heap[g]? = some (.cells cur t (0, 0))) (hn : s.size = dl) (hfit : dl = cur.size) :
    (Builtin.copy_ #[dT, sT] ty #[.slice (some ⟨g, 0, none⟩) dl dcap, .string s]).run P w = .ok (goInt dl) (w.setRow g (s.data.map fun b => .int .u8 b.toNat)) := by
  subst hn
  have hlen : (s.data.toList.map fun b => Value.int .u8 b.toNat).length = s.size := by rw [List.length_map, Array.length_toList]; rfl
  have hst := run_storeCells_at P g 0 t (s.data.toList.map fun b => Value.int .u8 b.toNat) 0 cur w hg (by rw [hlen]; omega) (by intro v hv; rw [List.mem_map] at hv; obtain ⟨b, _, rfl⟩ := hv; rfl)
  rw [hlen] at hst
  have e2 : cur.toList.drop (0 + 0 + s.size) = [] := by apply List.drop_eq_nil_of_le; rw [Array.length_toList]; omega
  have e3 : List.take s.size (s.data.toList.map fun b => Value.int .u8 b.toNat) = s.data.toList.map fun b => Value.int .u8 b.toNat := List.take_of_length_le (by rw [hlen]; omega)
  have e4 : (s.data.toList.map fun b => Value.int .u8 b.toNat).toArray = s.data.map fun b => .int .u8 b.toNat := by rw [← List.map_toArray, Array.toArray_toList]
  rw [e2] at hst
  simp only [Nat.zero_add, List.take_zero, List.nil_append, List.append_nil] at hst
  rw [e4] at hst
  cases hq : P.info? elem with
  | none => simp [hq] at hs
  | some i => simp [Builtin.copy_, run_underlying hu, Builtin.lenOf, Builtin.firstCells, sizeOf, typeInfo, hq, e3, hst]
/- QK2c -/
def upd (S : Nat → ByteArray) (t : Int) (u : ByteArray) : Nat → ByteArray := fun j => if (j : Int) = t then u else S j
def doneS (S : Nat → ByteArray) (T : Nat → Int) (U : Nat → ByteArray) : Nat → Nat → ByteArray
  | 0 => S
  | k + 1 => upd (doneS S T U k) (T k) (U k)

theorem fitB_spec {n : Nat} {t : Int} {u : ByteArray} (h : fitB n t u = true) : 0 ≤ t ∧ t < n ∧ u.size = 8 := of_decide_eq_true h
theorem goodB_spec {n m : Nat} {S : Nat → ByteArray} {T : Nat → Int} {U : Nat → ByteArray} (h : goodB n m S T U = true) :
    1 ≤ n ∧ n ≤ 32 ∧ m ≤ 60 ∧ (∀ i, i < n → (S i).size = 8) ∧ ∀ i, i < m → fitB n (T i) (U i) = true := of_decide_eq_true h

theorem strs_set {n : Nat} {S : Nat → ByteArray} {c : Array Value} (h : strs n S c) (hc : n ≤ c.size) {t : Nat} (ht : t < n) (u : ByteArray) : strs n (upd S t u) (c.setIfInBounds t (.string u)) := by
  intro i hi
  by_cases e : i = t
  · subst e; rw [set_at (by omega)]; simp [upd]
  · rw [set_ne e, h i hi]; simp [upd]; omega

/-- The cells of n strings, as a list. -/
def strCells (n : Nat) (S : Nat → ByteArray) : List Value := (List.range n).map fun i => .string (S i)
theorem strCells_len (n : Nat) (S : Nat → ByteArray) : (strCells n S).length = n := by simp [strCells]
theorem strCells_at (n : Nat) (S : Nat → ByteArray) {i : Nat} (h : i < n) : (strCells n S)[i]? = some (.string (S i)) := by simp [strCells, h]
theorem strCells_one (n : Nat) (S : Nat → ByteArray) : ∀ v ∈ strCells n S, v.oneCell' = true := by intro v hv; rw [strCells, List.mem_map] at hv; obtain ⟨i, _, rfl⟩ := hv; rfl
theorem strCells_src {w : World} {b off n : Nat} {S : Nat → ByteArray} (h : ∀ i, i < n → w.cell? ⟨b, off + i, none⟩ = some (.string (S i))) : ∀ j v, (strCells n S)[j]? = some v → w.cell? ((⟨b, off, none⟩ : Addr).add j) = some v := by
  intro j v hj
  have hlt : j < n := by have := (List.getElem?_eq_some_iff.1 hj).1; rw [strCells_len] at this; exact this
  rw [strCells_at n S hlt] at hj
  have e : (⟨b, off, none⟩ : Addr).add j = ⟨b, off + j, none⟩ := by unfold Addr.add; split <;> simp_all
  rw [e, h j hlt]; exact hj
/- QK3c -/
theorem run_part_int {P : Program} {e : TypeId} {k : IntKind} (he : P.underlying e = some (.int k)) {cs : Array Value} {off : Nat} {v : Value} (h : cs[off]? = some v) (w : World) : (part e cs off).run P w = .ok v w := by
  simp [part, isAgg, run_underlying he, h]

def sameIn (X Y : Nat → Int) (j n : Nat) : Bool := (List.range' j n).all fun i => X i == Y i

theorem run_loop_eq {P : Program} {e : TypeId} {k : IntKind} (he : P.underlying e = some (.int k)) (d : Nat) (cs ds : Array Value) (X Y : Nat → Int) (w : World) : ∀ (n j : Nat), (∀ i, i < j + n → cs[i]? = some (.int k (X i)) ∧ ds[i]? = some (.int k (Y i))) →
    Sem.run P (forIn (List.range' j n) ((none, ()) : Option Bool × Unit) fun i __s => do
            let a ← part e cs i
            let b ← part e ds i
            let r ← Op.equalIn (d + 1) e a b
            if r = false then pure (ForInStep.done (some false, ())) else pure (ForInStep.yield (none, ()))) w = .ok (bif sameIn X Y j n then (none, ()) else (some false, ())) w
  | 0, j, h => by simp [sameIn]
  | n + 1, j, h => by
    have ih := run_loop_eq he d cs ds X Y w n (j + 1) (fun i hi => h i (by omega))
    obtain ⟨h1, h2⟩ := h j (by omega)
    have es : sameIn X Y j (n + 1) = ((X j == Y j) && sameIn X Y (j + 1) n) := by simp [sameIn, List.range'_succ]
    rw [List.range'_succ, List.forIn_cons, es]
    simp only [Sem.run_bind, run_part_int he h1, run_part_int he h2, Result.andThen_ok, run_equalIn_int w d e k k (X j) (Y j) he]
    cases e1 : (X j == Y j)
    · simp
    · simp only [Bool.true_eq_false, if_false, Sem.run_pure, Result.andThen_ok, ih, Bool.true_and]

/-- Two arrays of integers, held against each other. -/
theorem run_arr_neq {P : Program} {t e : TypeId} {k : IntKind} {n : Nat} (ht : P.underlying t = some (.array n e)) (he : P.underlying e = some (.int k)) (hs : (P.info? e).map (·.size) = some 1) (cs ds : Array Value) (X Y : Nat → Int)
    (h : ∀ i, i < n → cs[i]? = some (.int k (X i)) ∧ ds[i]? = some (.int k (Y i))) (w : World) :
    (binOp .neq t (.agg cs) (.agg ds)).run P w = .ok (.bool (!sameIn X Y 0 n)) w := by
  have hl := run_loop_eq he 9998 cs ds X Y w n 0 (fun i hi => h i (by omega))
  rw [run_neq_struct]
  obtain ⟨i0, hi, hz⟩ := Option.map_eq_some_iff.1 hs
  unfold Op.equalIn
  simp only [Nat.reduceAdd] at hl
  cases hall : sameIn X Y 0 n
  · rw [hall] at hl
    simp [run_underlying ht, sizeOf, typeInfo, hi, hz, hl]
  · rw [hall] at hl
    simp [run_underlying ht, sizeOf, typeInfo, hi, hz, hl]
/- QK4c -/
theorem size5 : (Tryd.prog.info? 5).map (·.size) = some 1 := by kernel_rfl
theorem size9 : (Tryd.prog.info? 9).map (·.size) = some 1 := by kernel_rfl
theorem size42 : (Tryd.prog.info? 63).map (·.size) = some 2 := by kernel_rfl
theorem setRow_alloc (w : World) (c c' : Array Value) (t : TypeId) : (w.alloc (.cells c t)).setRow w.heap.size c' = w.alloc (.cells c' t) := by
  have key : ∀ f : Obj → Obj, f (.cells c t) = .cells c' t → (w.heap.push (.cells c t)).modify w.heap.size f = w.heap.push (.cells c' t) := by
    intro f hf
    apply Array.ext
    · simp
    · intro i h1 h2
      simp only [Array.getElem_modify, Array.getElem_push]
      by_cases h3 : w.heap.size = i
      · subst h3; simp [hf]
      · have h4 : i < w.heap.size := by simp at h2; omega
        simp [h3, h4]
  have h1 : (w.alloc (.cells c t)).heap = w.heap.push (.cells c t) := rfl
  unfold World.setRow
  rw [h1, key _ rfl]
  rfl

theorem bytes8 {u : ByteArray} (h : u.size = 8) : ∃ b0 b1 b2 b3 b4 b5 b6 b7 : UInt8, u = ⟨#[b0, b1, b2, b3, b4, b5, b6, b7]⟩ := by
  obtain ⟨⟨l⟩⟩ := u
  have h : l.length = 8 := h
  match l, h with
  | [b0, b1, b2, b3, b4, b5, b6, b7], _ => exact ⟨b0, b1, b2, b3, b4, b5, b6, b7, rfl⟩
/- QK5c -/
def byte8 (u : ByteArray) (i : Nat) : Int := (((u.data[i]?).getD 0).toNat : Int)
theorem cells8 (b0 b1 b2 b3 b4 b5 b6 b7 : UInt8) : ∀ i, i < 8 → (#[.int .u8 b0.toNat, .int .u8 b1.toNat, .int .u8 b2.toNat, .int .u8 b3.toNat, .int .u8 b4.toNat, .int .u8 b5.toNat, .int .u8 b6.toNat, .int .u8 b7.toNat] : Array Value)[i]? = some (.int .u8 (byte8 ⟨#[b0, b1, b2, b3, b4, b5, b6, b7]⟩ i)) := by
  intro i hi
  match i, hi with
  | 0, _ => rfl
  | 1, _ => rfl
  | 2, _ => rfl
  | 3, _ => rfl
  | 4, _ => rfl
  | 5, _ => rfl
  | 6, _ => rfl
  | 7, _ => rfl
theorem same8_self (u : ByteArray) : sameIn (byte8 u) (byte8 u) 0 8 = true := by simp [sameIn]
theorem u8_of {a b : UInt8} (h : (a.toNat : Int) = b.toNat) : a = b := UInt8.toNat_inj.1 (by omega)
theorem same8_eq {u v : ByteArray} (hu : u.size = 8) (hv : v.size = 8) (h : sameIn (byte8 u) (byte8 v) 0 8 = true) : u = v := by
  obtain ⟨b0, b1, b2, b3, b4, b5, b6, b7, rfl⟩ := bytes8 hu
  obtain ⟨c0, c1, c2, c3, c4, c5, c6, c7, rfl⟩ := bytes8 hv
  simp [sameIn, byte8, List.range'] at h
  obtain ⟨h0, h1, h2, h3, h4, h5, h6, h7⟩ := h
  simp [u8_of h0, u8_of h1, u8_of h2, u8_of h3, u8_of h4, u8_of h5, u8_of h6, u8_of h7]

theorem doneS_size {n m : Nat} {S : Nat → ByteArray} {T : Nat → Int} {U : Nat → ByteArray} (hs : ∀ i, i < n → (S i).size = 8) (hf : ∀ i, i < m → fitB n (T i) (U i) = true) : ∀ k, k ≤ m → ∀ i, i < n → (doneS S T U k i).size = 8
  | 0, _, i, hi => hs i hi
  | k + 1, hk, i, hi => by
    show (upd (doneS S T U k) (T k) (U k) i).size = 8
    unfold upd
    split
    · exact (fitB_spec (hf k (by omega))).2.2
    · exact doneS_size hs hf k (by omega) i hi

theorem strs_size {n : Nat} {S : Nat → ByteArray} {c : Array Value} (h : strs n S c) : n ≤ c.size := by
  by_cases h0 : n = 0
  · omega
  · have := (Array.getElem?_eq_some_iff.1 (h (n - 1) (by omega))).1
    omega

theorem hold_on {w : World} {b o : Nat} {v : Value} {x : Obj} (h : w.cell? ⟨b, o, none⟩ = some v) : (w.alloc x).cell? ⟨b, o, none⟩ = some v := cell_on h (below_alloc _ _)
/- QK6c -/
theorem mine_none (w : World) (B C : Nat) (e : TypeId) (a : Option Addr) (p : Array Value → Prop) : Mine w B C e 0 a p := .inl rfl

/-- A device of one's own: both its slices in rows of their own. -/
def MineD (w : World) (B C : Nat) (x y : Option Addr) (N M : Nat) (S : Nat → ByteArray) (T : Nat → Int) (U : Nat → ByteArray) : Prop :=
  Mine w B C 9 N x (strs N S) ∧ Mine w B C 63 M y (wrts M T U)
theorem MineD.below {w w' : World} {B C : Nat} {x y : Option Addr} {N M : Nat} {S : Nat → ByteArray} {T : Nat → Int} {U : Nat → ByteArray} (h : MineD w B C x y N M S T U) (hb : Below w.heap.size w w') : MineD w' B C x y N M S T U := ⟨h.1.below hb, h.2.below hb⟩
theorem MineD.mono {w : World} {B C B' C' : Nat} {x y : Option Addr} {N M : Nat} {S : Nat → ByteArray} {T : Nat → Int} {U : Nat → ByteArray} (h : MineD w B C x y N M S T U) (h1 : B' ≤ B) (h2 : C ≤ C') : MineD w B' C' x y N M S T U := ⟨h.1.mono h1 h2, h.2.mono h1 h2⟩
theorem MineD.out {w w' : World} {B C B' C' : Nat} {x y : Option Addr} {N M : Nat} {S : Nat → ByteArray} {T : Nat → Int} {U : Nat → ByteArray} (h : MineD w B C x y N M S T U) (ho : Out B' C' w w') (hd : C ≤ B' ∨ C' ≤ B) : MineD w' B C x y N M S T U := ⟨h.1.out ho hd, h.2.out ho hd⟩

def flushN (n m : Nat) (S : Nat → ByteArray) (T : Nat → Int) (U : Nat → ByteArray) : Nat := bif goodB n m S T U then n else 0
/- QM1c -/
def dgs : Nat → Nat → List UInt8 → List UInt8
  | 0, _, acc => acc
  | f + 1, k, acc => if k = 0 then acc else dgs f (k / 10) ((48 + UInt8.ofNat (k % 10)) :: acc)
def mkText (k : Nat) : ByteArray := ⟨(109 :: dgs k k []).toArray⟩

theorem str_cons (d : UInt8) (l : List UInt8) : ((⟨#[d]⟩ : ByteArray) ++ ⟨l.toArray⟩) = ⟨(d :: l).toArray⟩ := by
  apply ByteArray.ext
  simp

set_option maxHeartbeats 400000 in
theorem markText_any (K : Nat) (w : World) (h0 : 1 ≤ K) (h1 : K ≤ 1000000000) :
    Calls Tryd.prog 62 #[.int .i64 K] w fun e w' => e = .returned (.string (mkText K)) ∧ Below w.heap.size w w' := by
  have HM : Hid (mkText K = ⟨(109 :: dgs K K []).toArray⟩) := rfl
  generalize mkText K = r at HM ⊢
  go_enter Tryd.func62, Tryd.ntmps62
  go_wp2
  go_loopw [0, 3] (fun i o wr => ∃ (k f : Nat) (l : List UInt8), i = .int .i64 k ∧ o = .string ⟨l.toArray⟩ ∧ k ≤ f ∧ k ≤ K ∧ l.length + f ≤ K ∧ dgs f k l = dgs K K [] ∧ Below w.heap.size w wr) (fun i _ _ => (intOf i).toNat)
  case atStart => exact ⟨K, K, [], rfl, rfl, Nat.le_refl _, Nat.le_refl _, by simp, rfl, Below.refl _ _⟩
  case round =>
    obtain ⟨k, f, l, rfl, rfl, hf, hkK, hl, hd, hb⟩ := hrel
    have HD : Hid _ := hd
    clear hd
    by_cases hk : 0 < k
    · have hk' : (0 : Int) < (k : Int) := by omega
      have hconv : ∀ (wx : World), (convert 98 9 (.slice (some ⟨wx.heap.size, 0, none⟩) 1 1)).run Tryd.prog (wx.alloc (.cells #[.int .u8 (48 + (k : Int) % 10)] 5)) = .ok (.string ⟨#[UInt8.ofNat (48 + k % 10)]⟩) (wx.alloc (.cells #[.int .u8 (48 + (k : Int) % 10)] 5)) := fun wx =>
        run_convert_bytes_back (P := Tryd.prog) (wx.alloc (.cells #[.int .u8 (48 + (k : Int) % 10)] 5)) 98 9 5 ⟨wx.heap.size, 0, none⟩ 1 [UInt8.ofNat (48 + k % 10)] Tryd.underlying98 Tryd.underlying5 Tryd.underlying9 (fun j hj => by
          have hj0 : j = 0 := by simp at hj; omega
          subst hj0
          simp [go_sem, Addr.add]
          omega)
      have hl' : l.length ≤ 1000000000 := by omega
      go_wp2
      go_roundw
      case rel =>
        refine ⟨k / 10, f - 1, (48 + UInt8.ofNat (k % 10)) :: l, by go_num, congrArg Value.string (str_cons _ _), by omega, by omega, by simp; omega, ?_, Below.comp hb (below_alloc _ _)⟩
        have hd := HD.out
        obtain ⟨f', rfl⟩ : ∃ f', f = f' + 1 := ⟨f - 1, by omega⟩
        rw [← hd]
        show _ = dgs (f' + 1) k l
        rw [dgs, if_neg (by omega)]
        rfl
      case measure => simp [intOf]; omega
    · have hk0 : k = 0 := by omega
      subst hk0
      have hd : l = dgs K K [] := by
        rw [← HD.out]
        cases f with
        | zero => rfl
        | succ f => rw [dgs, if_pos rfl]
      have hl' : l.length ≤ 1000000000 := by omega
      have HD' : Hid _ := hd
      clear hd HD
      go_wp2
      go_ret
      refine ⟨?_, hb⟩
      rw [HM.out, ← HD'.out]
      exact congrArg (fun x => Ending.returned (Value.string x)) (str_cons _ _)
/- QM2c -/
def mk (k : Nat) : Nat → ByteArray := fun i => mkText (k + i)
def mkT (k : Nat) : Nat → Int := fun i => ((k + 2 * i : Nat) : Int)
def mkU (k : Nat) : Nat → ByteArray := fun i => mkText (k + 2 * i + 1)

set_option maxHeartbeats 800000 in
theorem markStringS_any (B C : Nat) (a : Option Addr) (n cap : Nat) (S : Nat → ByteArray) (k : Nat) (w : World) (hk : 1 ≤ k) (hkn : k + n ≤ 100000000) (hm : Mine w B C 9 n a (strs n S)) :
    Calls Tryd.prog 40 #[.slice a n cap, .int .i64 k] w fun e w' => e = .returned (.int .i64 ((k + n : Nat) : Int)) ∧ Out B C w w' ∧ Mine w' B C 9 n a (strs n (mk k)) := by
  rcases hm with h0 | ⟨b, c0, hb1, hb2, rfl, hB0, hS0⟩
  · subst h0
    go_enter Tryd.func40, Tryd.ntmps40
    go_wp2
    refine wp_loop_rounds 1 ?_
    rw [rounds_succ]
    go_wp2
    go_ret
    exact ⟨rfl, Out.refl _ _ _, .inl rfl⟩
  · have hsz : n ≤ c0.size := by
      by_cases h0 : n = 0
      · omega
      · have := (Array.getElem?_eq_some_iff.1 (hS0 (n - 1) (by omega))).1
        omega
    have HB0 : Hid _ := hB0
    clear hB0
    go_enter Tryd.func40, Tryd.ntmps40
    go_wp2
    go_loopw [1, 5] (fun kk i wr => ∃ (q : Nat) (c : Array Value), q ≤ n ∧ kk = .int .i64 ((k + q : Nat) : Int) ∧ i = .int .i64 q ∧ wr.heap[b]? = some (.cells c 9 (0, 0)) ∧ n ≤ c.size ∧ strs q (mk k) c ∧ Out B C w wr) (fun _ i _ => n - (intOf i).toNat)
    case atStart => exact ⟨0, c0, Nat.zero_le _, rfl, rfl, HB0.out, hsz, fun i hi => absurd hi (by omega), Out.refl _ _ _⟩
    case round =>
      obtain ⟨q, c, hq, rfl, rfl, hB, hcs, hst, ho⟩ := hrel
      by_cases hlt : q < n
      · obtain ⟨x0, hx0⟩ : ∃ v, c[q]? = some v := ⟨c[q]'(by omega), by simp⟩
        have HB : Hid _ := hB
        have HX : Hid _ := hx0
        clear hB hx0
        go_wp2_with fail
        refine (markText_any (k + q) _ (by omega) (by omega)).mono ?_
        rintro e w1 ⟨rfl, hb1'⟩
        have HB1 : Hid (w1.heap[b]? = some (.cells c 9 (0, 0))) := ((hb1'.block _ (Array.getElem?_eq_some_iff.1 HB.out).1).trans HB.out)
        have g0 := cell_of_block HB1.out HX.out
        have f0 := free_of_block (i := q) HB1.out
        go_wp2
        go_roundw
        case rel =>
          refine ⟨q + 1, _, by omega, by go_num, by go_num, block_set HB1.out, by simpa using hcs, ?_, (ho.trans (Out.of_below hb1')).setCell hb1 hb2 _ _⟩
          intro i hi
          by_cases e : i = q
          · rw [e]; exact set_at (by omega) _
          · rw [set_ne e]; exact hst i (by omega)
        case measure => simp [intOf]; omega
      · have hqn : q = n := by omega
        subst hqn
        go_wp2
        go_ret
        exact ⟨rfl, ho, .inr ⟨b, c, hb1, hb2, rfl, hB, hst⟩⟩

set_option maxHeartbeats 800000 in
theorem heldStringS_any (a : Option Addr) (n cap : Nat) (k : Nat) (w : World) (hk : 1 ≤ k) (hkn : k + n ≤ 100000000) (hm : At w a n fun i => .string (mk k i)) :
    Calls Tryd.prog 41 #[.slice a n cap, .int .i64 k] w fun e w' => e = .returned (.int .i64 ((k + n : Nat) : Int)) ∧ Below w.heap.size w w' := by
  go_enter Tryd.func41, Tryd.ntmps41
  go_wp2
  go_loopw [1, 5] (fun kk i wr => ∃ (q : Nat), q ≤ n ∧ kk = .int .i64 ((k + q : Nat) : Int) ∧ i = .int .i64 q ∧ Below w.heap.size w wr) (fun _ i _ => n - (intOf i).toNat)
  case atStart => exact ⟨0, Nat.zero_le _, rfl, rfl, Below.refl _ _⟩
  case round =>
    obtain ⟨q, hq, rfl, rfl, hb⟩ := hrel
    by_cases hlt : q < n
    · obtain ⟨b, off, rfl, hcell⟩ := (hm.below hb) (by omega)
      have h1 : ∀ d os, (Go.Sort.grow (redrawn wr d) os).cell? ⟨b, off + q, none⟩ = some (.string (mkText (k + q))) := cell_regrown (hcell q hlt)
      have hlt' : (q : Int) < (n : Int) := by omega
      clear hcell hm
      go_wp2
      refine wp_region_quiet_below (by kernel_rfl) (by kernel_rfl) ?_
      repeat (quiet_step (exact Calls.regrown_of (markText_any (k + q) _ (by omega) (by omega))))
      refine wpQuiet_nil ?_
      intro _ hw'
      obtain ⟨⟨dq, osq⟩, hw''⟩ := hw'
      subst hw''
      have b4' := below_regrown wr dq osq
      generalize Go.Sort.grow (redrawn wr dq) osq = w4 at b4' ⊢
      clear h1
      go_wp2
      go_roundw
      case rel => exact ⟨q + 1, by omega, by go_num, by go_num, Below.comp hb b4'⟩
      case measure => simp [intOf]; omega
    · have hqn : q = n := by omega
      subst hqn
      go_wp2
      go_ret
      exact ⟨rfl, hb⟩

set_option maxHeartbeats 800000 in
theorem markWriteS_any (B C : Nat) (a : Option Addr) (n cap : Nat) (T : Nat → Int) (U : Nat → ByteArray) (k : Nat) (w : World) (hk : 1 ≤ k) (hkn : k + 2 * n ≤ 100000000) (hm : Mine w B C 63 n a (wrts n T U)) :
    Calls Tryd.prog 22 #[.slice a n cap, .int .i64 k] w fun e w' => e = .returned (.int .i64 ((k + 2 * n : Nat) : Int)) ∧ Out B C w w' ∧ Mine w' B C 63 n a (wrts n (mkT k) (mkU k)) := by
  rcases hm with h0 | ⟨b, c0, hb1, hb2, rfl, hB0, hS0⟩
  · subst h0
    go_enter Tryd.func22, Tryd.ntmps22
    go_wp2
    refine wp_loop_rounds 1 ?_
    rw [rounds_succ]
    go_wp2
    go_ret
    exact ⟨rfl, Out.refl _ _ _, .inl rfl⟩
  · have hsz : n * 2 ≤ c0.size := by
      by_cases h0 : n = 0
      · omega
      · have := (Array.getElem?_eq_some_iff.1 (hS0 (n - 1) (by omega)).2).1
        omega
    have HB0 : Hid _ := hB0
    clear hB0
    go_enter Tryd.func22, Tryd.ntmps22
    go_wp2
    go_loopw [1, 5] (fun kk i wr => ∃ (q : Nat) (c : Array Value), q ≤ n ∧ kk = .int .i64 ((k + 2 * q : Nat) : Int) ∧ i = .int .i64 q ∧ wr.heap[b]? = some (.cells c 63 (0, 0)) ∧ n * 2 ≤ c.size ∧ wrts q (mkT k) (mkU k) c ∧ Out B C w wr) (fun _ i _ => n - (intOf i).toNat)
    case atStart => exact ⟨0, c0, Nat.zero_le _, rfl, rfl, HB0.out, hsz, fun i hi => absurd hi (by omega), Out.refl _ _ _⟩
    case round =>
      obtain ⟨q, c, hq, rfl, rfl, hB, hcs, hst, ho⟩ := hrel
      by_cases hlt : q < n
      · obtain ⟨x0, hx0⟩ : ∃ v, c[q * 2]? = some v := ⟨c[q * 2]'(by omega), by simp⟩
        obtain ⟨x1, hx1⟩ : ∃ v, (c.setIfInBounds (q * 2) (.int .i64 ((k + 2 * q : Nat) : Int)))[q * 2 + 1]? = some v := ⟨c[q * 2 + 1]'(by omega), by rw [set_ne (by omega)]; simp⟩
        have g0 := cell_of_block hB hx0
        have f0 := free_of_block (i := q * 2) hB
        have HB : Hid _ := hB
        have HX : Hid _ := hx1
        clear hB hx0 hx1
        go_wp2_with fail
        refine (markText_any (k + 2 * q + 1) _ (by omega) (by omega)).mono ?_
        rintro e w1 ⟨rfl, hb1'⟩
        have HB1 : Hid (w1.heap[b]? = some (.cells (c.setIfInBounds (q * 2) (.int .i64 ((k + 2 * q : Nat) : Int))) 63 (0, 0))) := (hb1'.block _ (by have := (Array.getElem?_eq_some_iff.1 HB.out).1; simpa using this)).trans (block_set HB.out)
        have g1 := cell_of_block HB1.out HX.out
        have f1 := free_of_block (i := q * 2 + 1) HB1.out
        clear g0 f0
        go_wp2
        go_roundw
        case rel =>
          refine ⟨q + 1, _, by omega, by go_num, by go_num, block_set HB1.out, by simpa using hcs, ?_, ((ho.setCell hb1 hb2 _ _).trans (Out.of_below hb1')).setCell hb1 hb2 _ _⟩
          intro i hi
          by_cases e : i = q
          · subst e
            exact ⟨by rw [set_ne (by omega)]; exact set_at (by omega) _, set_at (by simp; omega) _⟩
          · have := hst i (by omega)
            rw [set_ne (by omega), set_ne (by omega), set_ne (by omega), set_ne (by omega)]; exact this
        case measure => simp [intOf]; omega
      · have hqn : q = n := by omega
        subst hqn
        go_wp2
        go_ret
        exact ⟨rfl, ho, .inr ⟨b, c, hb1, hb2, rfl, hB, hst⟩⟩

set_option maxHeartbeats 800000 in
theorem heldWriteS_any (a : Option Addr) (n cap : Nat) (k : Nat) (w : World) (hk : 1 ≤ k) (hkn : k + 2 * n ≤ 100000000) (hm : At2 w a n (mkT k) (mkU k)) :
    Calls Tryd.prog 89 #[.slice a n cap, .int .i64 k] w fun e w' => e = .returned (.int .i64 ((k + 2 * n : Nat) : Int)) ∧ Below w.heap.size w w' := by
  go_enter Tryd.func89, Tryd.ntmps89
  go_wp2
  go_loopw [1, 5] (fun kk i wr => ∃ (q : Nat), q ≤ n ∧ kk = .int .i64 ((k + 2 * q : Nat) : Int) ∧ i = .int .i64 q ∧ Below w.heap.size w wr) (fun _ i _ => n - (intOf i).toNat)
  case atStart => exact ⟨0, Nat.zero_le _, rfl, rfl, Below.refl _ _⟩
  case round =>
    obtain ⟨q, hq, rfl, rfl, hb⟩ := hrel
    by_cases hlt : q < n
    · obtain ⟨b, off, rfl, hcell⟩ := (hm.below hb) (by omega)
      have h0 : wr.cell? ⟨b, off + q * 2, none⟩ = some (.int .i64 ((k + 2 * q : Nat) : Int)) := (hcell q hlt).1
      have h1 : ∀ d os, (Go.Sort.grow (redrawn wr d) os).cell? ⟨b, off + q * 2 + 1, none⟩ = some (.string (mkText (k + 2 * q + 1))) := cell_regrown (hcell q hlt).2
      have hlt' : (q : Int) < (n : Int) := by omega
      clear hcell hm
      go_wp2
      refine wp_region_quiet_below (by kernel_rfl) (by kernel_rfl) ?_
      repeat (quiet_step (exact Calls.regrown_of (markText_any (k + 2 * q + 1) _ (by omega) (by omega))))
      refine wpQuiet_nil ?_
      intro _ hw'
      obtain ⟨⟨dq, osq⟩, hw''⟩ := hw'
      subst hw''
      have b4' := below_regrown wr dq osq
      generalize Go.Sort.grow (redrawn wr dq) osq = w4 at b4' ⊢
      clear h1
      go_wp2
      go_roundw
      case rel => exact ⟨q + 1, by omega, by go_num, by go_num, Below.comp hb b4'⟩
      case measure => simp [intOf]; omega
    · have hqn : q = n := by omega
      subst hqn
      go_wp2
      go_ret
      exact ⟨rfl, hb⟩
/- QM3c -/
/-- Two rows of unlike element types lie in unlike blocks. -/
theorem mine_apart {w : World} {B C : Nat} {e f : TypeId} {n m : Nat} {x y : Option Addr} {p q : Array Value → Prop} (hef : e ≠ f) (hx : Mine w B C e n x p) (hy : Mine w B C f m y q) :
    ∃ Bx Cx By Cy, Mine w Bx Cx e n x p ∧ Mine w By Cy f m y q ∧ (B ≤ Bx ∧ Cx ≤ C ∨ Bx = Cx) ∧ (B ≤ By ∧ Cy ≤ C ∨ By = Cy) ∧ (Cx ≤ By ∨ Cy ≤ Bx) := by
  rcases hx with h0 | ⟨b, c, h1, h2, h3, h4, h5⟩
  · rcases hy with k0 | ⟨b', c', k1, k2, k3, k4, k5⟩
    · exact ⟨0, 0, 0, 0, .inl h0, .inl k0, .inr rfl, .inr rfl, .inl (by omega)⟩
    · exact ⟨0, 0, b', b' + 1, .inl h0, .inr ⟨b', c', by omega, by omega, k3, k4, k5⟩, .inr rfl, .inl ⟨k1, k2⟩, .inl (by omega)⟩
  · rcases hy with k0 | ⟨b', c', k1, k2, k3, k4, k5⟩
    · exact ⟨b, b + 1, 0, 0, .inr ⟨b, c, by omega, by omega, h3, h4, h5⟩, .inl k0, .inl ⟨h1, h2⟩, .inr rfl, .inr (by omega)⟩
    · have hne : b ≠ b' := by
        intro e1
        subst e1
        rw [h4] at k4
        simp at k4
        exact hef k4.2
      exact ⟨b, b + 1, b', b' + 1, .inr ⟨b, c, by omega, by omega, h3, h4, h5⟩, .inr ⟨b', c', by omega, by omega, k3, k4, k5⟩, .inl ⟨h1, h2⟩, .inl ⟨k1, k2⟩, by omega⟩

theorem Out.wide {B C B' C' : Nat} {a b : World} (h : Out B C a b) (hd : B' ≤ B ∧ C ≤ C' ∨ B = C) : Out B' C' a b := by
  rcases hd with ⟨h1, h2⟩ | h1
  · exact h.mono h1 h2
  · exact ⟨h.os, h.tape, h.output, h.size, fun i hi hs => h.block i hi (by omega)⟩
theorem Mine.wide {w : World} {B C B' C' : Nat} {e : TypeId} {n : Nat} {a : Option Addr} {p : Array Value → Prop} (h : Mine w B C e n a p) (hd : B' ≤ B ∧ C ≤ C' ∨ B = C) : Mine w B' C' e n a p := by
  rcases hd with ⟨h1, h2⟩ | h1
  · exact h.mono h1 h2
  · rcases h with h | ⟨b, c, g1, g2, _⟩
    · exact .inl h
    · omega

theorem Out.cell {B C : Nat} {w w' : World} {b o : Nat} {v : Value} (h : Out B C w w') (hc : w.cell? ⟨b, o, none⟩ = some v) (hd : b < B ∨ C ≤ b) : w'.cell? ⟨b, o, none⟩ = some v := by
  have hlt := lt_of_cell hc
  rw [← hc]
  exact World.cell?_of_block (w := w) (h.block b hlt hd)

set_option maxHeartbeats 800000 in
theorem markDevice_any (B C : Nat) (x y : Option Addr) (N M cx cy : Nat) (S : Nat → ByteArray) (T : Nat → Int) (U : Nat → ByteArray) (k : Nat) (w : World) (hk : 1 ≤ k) (hkn : k + N + 2 * M ≤ 100000000) (hC : C ≤ w.heap.size) (hm : MineD w B C x y N M S T U) :
    Calls Tryd.prog 61 #[.agg #[.slice x N cx, .slice y M cy], .int .i64 k] w fun e w' => e = .returned (.int .i64 ((k + N + 2 * M : Nat) : Int)) ∧ Out B C w w' ∧ MineD w' B C x y N M (mk k) (mkT (k + N)) (mkU (k + N)) := by
  obtain ⟨Bx, Cx, By, Cy, mx, my, dx, dy, dd⟩ := mine_apart (e := 9) (f := 63) (by decide) hm.1 hm.2
  clear hm
  have h0 : ∀ o1, Below w.heap.size w (w.alloc o1) := fun o1 => below_alloc _ _
  go_enter Tryd.func61, Tryd.ntmps61
  go_wp2_with fail
  refine (markStringS_any Bx Cx x N cx S k _ hk (by omega) (mx.below (h0 _))).mono ?_
  rintro e w1 ⟨rfl, o1, mx1⟩
  have my1 := (my.below (h0 (.cells #[.slice x N cx, .slice y M cy] 32))).out o1 (by omega)
  have y1 : w1.cell? ⟨w.heap.size, 1, none⟩ = some (.slice y M cy) := o1.cell (cell_new1 w _ _ _) (by omega)
  go_wp2_with fail
  refine (markWriteS_any By Cy y M cy T U (k + N) _ (by omega) hkn my1).mono ?_
  rintro e w2 ⟨rfl, o2, my2⟩
  have mx2 := mx1.out o2 (by omega)
  clear y1
  go_wp2
  go_ret
  exact ⟨rfl, ((Out.of_below (h0 _)).trans (o1.wide dx)).trans (o2.wide dy), mx2.wide dx, my2.wide dy⟩

set_option maxHeartbeats 800000 in
theorem heldDevice_any (x y : Option Addr) (N M cx cy : Nat) (k : Nat) (w : World) (hk : 1 ≤ k) (hkn : k + N + 2 * M ≤ 100000000) (hx : At w x N fun i => .string (mk k i)) (hy : At2 w y M (mkT (k + N)) (mkU (k + N))) :
    Calls Tryd.prog 63 #[.agg #[.slice x N cx, .slice y M cy], .int .i64 k] w fun e w' => e = .returned (.int .i64 ((k + N + 2 * M : Nat) : Int)) ∧ Below w.heap.size w w' := by
  have h0 : ∀ o1, Below w.heap.size w (w.alloc o1) := fun o1 => below_alloc _ _
  go_enter Tryd.func63, Tryd.ntmps63
  go_wp2_with fail
  refine (heldStringS_any x N cx k _ hk (by omega) (hx.below (h0 _))).mono ?_
  rintro e w1 ⟨rfl, b1⟩
  have g1 := Below.comp (h0 _) b1
  have y1 := cell_on (cell_new1 w _ _ _) b1
  have hp : ¬ (((k + N : Nat) : Int) < 0) := by omega
  have hp2 : ¬ (((k + N + 2 * M : Nat) : Int) < 0) := by omega
  go_wp2_with fail
  refine (heldWriteS_any y M cy (k + N) _ (by omega) hkn (hy.below g1)).mono ?_
  rintro e w2 ⟨rfl, b2⟩
  have g2 := Below.comp g1 b2
  clear y1
  go_wp2
  go_ret
  exact ⟨rfl, g2⟩
/- QN1c -/
def zeros8 : ByteArray := ⟨#[0, 0, 0, 0, 0, 0, 0, 0]⟩
def newOK (s : Int) : Bool := decide (1 ≤ s ∧ s ≤ 32)
def newN (s : Int) : Nat := bif newOK s then s.toNat else 0
def newS : Nat → ByteArray := fun _ => zeros8

theorem Out.frozen {B C : Nat} {w w' : World} {b o : Nat} (h : Out B C w w') (hlt : b < w.heap.size) (hd : b < B ∨ C ≤ b) : w'.frozen? ⟨b, o, none⟩ = w.frozen? ⟨b, o, none⟩ := World.frozen?_of_block (w := w) (h.block b hlt hd)

/-- string(b) of eight noughts at the head of a block. -/
theorem conv_zeros {w : World} {b : Nat} (h : ∀ j, j < 8 → w.cell? ⟨b, j, none⟩ = some (.int .u8 0)) : (convert 98 9 (.slice (some ⟨b, 0, none⟩) 8 8)).run Tryd.prog w = .ok (.string zeros8) w :=
  run_convert_bytes_back (P := Tryd.prog) w 98 9 5 ⟨b, 0, none⟩ 8 [0, 0, 0, 0, 0, 0, 0, 0] Tryd.underlying98 Tryd.underlying5 Tryd.underlying9 (fun j hj => by
    have e : (⟨b, 0, none⟩ : Addr).add j = ⟨b, j, none⟩ := by unfold Addr.add; split <;> simp_all
    rw [e, h j hj]
    match j, hj with
    | 0, _ => rfl
    | 1, _ => rfl
    | 2, _ => rfl
    | 3, _ => rfl
    | 4, _ => rfl
    | 5, _ => rfl
    | 6, _ => rfl
    | 7, _ => rfl)

/-- What a function that answers a device and a bool leaves. -/
def DevRes (w w' : World) (e : Ending) (N M : Nat) (ok : Bool) (S : Nat → ByteArray) (T : Nat → Int) (U : Nat → ByteArray) : Prop :=
  Below w.heap.size w w' ∧ ∃ x cx y cy, e = .returned (.tuple #[.agg #[.slice x N cx, .slice y M cy], .bool ok]) ∧ MineD w' w.heap.size w'.heap.size x y N M S T U
theorem DevRes.none {w w' : World} (hb : Below w.heap.size w w') (S : Nat → ByteArray) (T : Nat → Int) (U : Nat → ByteArray) : DevRes w w' (.returned (.tuple #[.agg #[.slice none 0 0, .slice none 0 0], .bool false])) 0 0 false S T U :=
  ⟨hb, Option.none, 0, Option.none, 0, rfl, mine_none _ _ _ _ _ _, mine_none _ _ _ _ _ _⟩
def noT : Nat → Int := fun _ => 0
def noU : Nat → ByteArray := fun _ => ⟨#[]⟩

theorem step_append_own {P : Program} {ops : Array Oper} {o : Oper} {a : Act} {w : World} {K : Act → World → Prop} {Q : Exit → Act → World → Prop} {E : Prop}
    (hg : o.guard = none) (s x : Operand) (t : TypeId) (hop : o.op = Op.call { callee := Callee.builtin Builtin.append, args := #[s, x], argTypes := #[t, t] })
    (base : Nat) (e : TypeId) (i : TypeInfo) (z : Value) (size bytes : Nat) (ht : P.underlying t = some (.slice e)) (hi : P.info? e = some i) (hz : i.zero = some z)
    (hsize : i.size = size) (hby : i.bytes = bytes) (hzs : z.cells.size = size) (hsz : 0 < size)
    (v : Value) (n : Nat) (xs : List Value) (hs : a.eval s = v) (hown : w.ownsRow base e size v n xs)
    (ad : Addr) (m c : Nat) (news : List Value) (hx : a.eval x = .slice (some ad) m c) (hl : news.length = m * size) (hnews : ∀ j u, news[j]? = some u → w.cell? (ad.add j) = some u) (h1 : ∀ u ∈ news, u.oneCell' = true)
    (h63 : n + m ≤ maxLen) (hbytes : (n + m) * bytes ≤ 140737488355328) (hbase : base ≤ w.heap.size)
    (hK : ∀ v' w', w'.ownsRow base e size v' (n + m) (xs ++ news) → w.grownBy w' v.ownBlock → K (a.put o.dst v') w') :
    if Region.wanted o (yielded ops a.tmps) = true then Oper.wp P o a w K Q else E := by
  have hw : Region.wanted o (yielded ops a.tmps) = true := by simp [Region.wanted, hg]
  rw [if_pos hw]
  obtain ⟨v', w', hrun, r1, r2, _⟩ := run_append_own (P := P) w base t o.type e i z size bytes ht hi hz hsize hby hzs hsz v n xs hown ad m c news hl hnews h1 h63 hbytes hbase
  unfold Oper.wp
  simp [execOp, hop, resolve, invoke, builtin, hs, hx, hrun, Result.andThen]
  exact hK v' w' r1 r2

theorem strCells_succ (k : Nat) (S : Nat → ByteArray) : strCells k S ++ [.string (S k)] = strCells (k + 1) S := by simp [strCells, List.range_succ]

theorem one_cell (u : Value) (h : u.oneCell' = true) : ∀ x ∈ [u], x.oneCell' = true := by
  intro x hx
  rw [List.mem_singleton] at hx
  rw [hx]; exact h
theorem grow_box {w1 w2 : World} {v : Value} {b B : Nat} {o : Obj} {e : TypeId} {size n : Nat} {xs : List Value} (hown : w1.ownsRow B e size v n xs) (hg : w1.grownBy w2 v.ownBlock) (hb : b < B) (h : w1.heap[b]? = some o) : w2.heap[b]? = some o := by
  rw [hg.block b (Array.getElem?_eq_some_iff.1 h).1 (fun e1 => by have := (hown.lt b e1.symm).1; omega)]
  exact h
/- QW1c -/
/-- The cells of m writes, as a list. -/
def wrtCells (m : Nat) (T : Nat → Int) (U : Nat → ByteArray) : List Value := (List.range m).flatMap fun i => [.int .i64 (T i), .string (U i)]
theorem wrtCells_succ (m : Nat) (T : Nat → Int) (U : Nat → ByteArray) : wrtCells (m + 1) T U = wrtCells m T U ++ [.int .i64 (T m), .string (U m)] := by simp [wrtCells, List.range_succ]
theorem wrtCells_len : ∀ (m : Nat) (T : Nat → Int) (U : Nat → ByteArray), (wrtCells m T U).length = m * 2
  | 0, _, _ => rfl
  | m + 1, T, U => by rw [wrtCells_succ, List.length_append, wrtCells_len m T U]; simp; omega
theorem wrtCells_at (T : Nat → Int) (U : Nat → ByteArray) : ∀ (m i : Nat), i < m → (wrtCells m T U)[i * 2]? = some (.int .i64 (T i)) ∧ (wrtCells m T U)[i * 2 + 1]? = some (.string (U i))
  | 0, i, h => absurd h (by omega)
  | m + 1, i, h => by
    rw [wrtCells_succ]
    by_cases e : i = m
    · subst e
      rw [List.getElem?_append_right (by rw [wrtCells_len]; omega), List.getElem?_append_right (by rw [wrtCells_len]; omega), wrtCells_len]
      simp
    · rw [List.getElem?_append_left (by rw [wrtCells_len]; omega), List.getElem?_append_left (by rw [wrtCells_len]; omega)]
      exact wrtCells_at T U m i (by omega)
theorem wrtCells_one (m : Nat) (T : Nat → Int) (U : Nat → ByteArray) : ∀ v ∈ wrtCells m T U, v.oneCell' = true := by
  intro v hv
  rw [wrtCells, List.mem_flatMap] at hv
  obtain ⟨i, _, h⟩ := hv
  simp at h
  rcases h with rfl | rfl <;> rfl
theorem wrtCells_src {w : World} {b off m : Nat} {T : Nat → Int} {U : Nat → ByteArray} (h : ∀ i, i < m → w.cell? ⟨b, off + i * 2, none⟩ = some (.int .i64 (T i)) ∧ w.cell? ⟨b, off + i * 2 + 1, none⟩ = some (.string (U i))) :
    ∀ j v, (wrtCells m T U)[j]? = some v → w.cell? ((⟨b, off, none⟩ : Addr).add j) = some v := by
  intro j v hj
  have hlt : j < m * 2 := by have := (List.getElem?_eq_some_iff.1 hj).1; rw [wrtCells_len] at this; exact this
  have e : (⟨b, off, none⟩ : Addr).add j = ⟨b, off + j, none⟩ := by unfold Addr.add; split <;> simp_all
  rw [e]
  obtain ⟨a1, a2⟩ := wrtCells_at T U m (j / 2) (by omega)
  obtain ⟨c1, c2⟩ := h (j / 2) (by omega)
  by_cases hp : j % 2 = 0
  · have ej : j = j / 2 * 2 := by omega
    rw [← ej] at a1 c1
    rw [hj] at a1
    rw [c1, ← a1]
  · have ej : j = j / 2 * 2 + 1 := by omega
    rw [← ej] at a2
    rw [hj] at a2
    rw [Nat.add_assoc, ← ej] at c2
    rw [c2, ← a2]
theorem src2 {w : World} {a : Option Addr} {m : Nat} {T : Nat → Int} {U : Nat → ByteArray} (h : At2 w a m T U) : m = 0 ∨ ∃ ad, a = some ad ∧ ∀ j v, (wrtCells m T U)[j]? = some v → w.cell? (ad.add j) = some v := by
  by_cases h0 : m = 0
  · exact .inl h0
  · obtain ⟨b, off, rfl, hc⟩ := h h0
    exact .inr ⟨_, rfl, wrtCells_src hc⟩
theorem src1 {w : World} {a : Option Addr} {n : Nat} {S : Nat → ByteArray} (h : At w a n fun i => .string (S i)) : n = 0 ∨ ∃ ad, a = some ad ∧ ∀ j v, (strCells n S)[j]? = some v → w.cell? (ad.add j) = some v := by
  by_cases h0 : n = 0
  · exact .inl h0
  · obtain ⟨b, off, rfl, hc⟩ := h h0
    exact .inr ⟨_, rfl, strCells_src hc⟩

theorem owns_strs {w : World} {B : Nat} {e : TypeId} {x : Option Addr} {n cx : Nat} {S : Nat → ByteArray} (h : w.ownsRow B e 1 (.slice x n cx) n (strCells n S)) : Mine w B w.heap.size e n x (strs n S) := by
  by_cases h0 : n = 0
  · exact .inl h0
  · obtain ⟨g, cap, cur, hv, hb, hg, hs, hc⟩ := owns_mine h h0
    simp at hv
    exact .inr ⟨g, cur, hb, (Array.getElem?_eq_some_iff.1 hg).1, hv.1, hg, fun i hi => by rw [hc i (by omega)]; exact strCells_at _ _ hi⟩
theorem owns_wrts {w : World} {B : Nat} {e : TypeId} {x : Option Addr} {n cx : Nat} {T : Nat → Int} {U : Nat → ByteArray} (h : w.ownsRow B e 2 (.slice x n cx) n (wrtCells n T U)) : Mine w B w.heap.size e n x (wrts n T U) := by
  by_cases h0 : n = 0
  · exact .inl h0
  · obtain ⟨g, cap, cur, hv, hb, hg, hs, hc⟩ := owns_mine h h0
    simp at hv
    exact .inr ⟨g, cur, hb, (Array.getElem?_eq_some_iff.1 hg).1, hv.1, hg, fun i hi => by rw [hc (i * 2) (by omega), hc (i * 2 + 1) (by omega)]; exact wrtCells_at T U n i hi⟩
/- QW2c -/
theorem owns_made {w : World} {B : Nat} (e : TypeId) (size : Nat) (hB : B ≤ w.heap.size) {k : Nat} (hk : k = w.heap.size) : (w.alloc (.cells #[] e)).ownsRow B e size (.slice (some ⟨k, 0, none⟩) 0 0) 0 [] := by
  subst hk
  exact World.ownsRow_made (e := e) (size := size) (base := B) w #[] 0 hB (by decide) (by simp)
theorem block_new {w : World} {o : Obj} {k : Nat} (hk : k = w.heap.size) : (w.alloc o).heap[k]? = some o := by subst hk; exact heap_alloc_new _ _
theorem block_old {w : World} {o x : Obj} {k : Nat} (h : w.heap[k]? = some x) : (w.alloc o).heap[k]? = some x := ((below_alloc w o).block k (Array.getElem?_eq_some_iff.1 h).1).trans h
theorem block_grown {w1 w2 : World} {b : Nat} {o : Obj} {row : Option Nat} (hg : w1.grownBy w2 row) (h : w1.heap[b]? = some o) (hne : some b ≠ row) : w2.heap[b]? = some o := (hg.block b (Array.getElem?_eq_some_iff.1 h).1 hne).trans h

theorem block_else {w : World} {b o k : Nat} {v : Value} {x : Obj} (hk : k ≠ b) (h : w.heap[k]? = some x) : (w.setCell ⟨b, o, none⟩ v).heap[k]? = some x := (Below.heap_setCell _ _ _ _ hk).trans h
theorem owns_past {w w' : World} {B : Nat} {e : TypeId} {size : Nat} {v : Value} {n : Nat} {xs : List Value} {o : Obj} {row : Option Nat} (h : w.ownsRow B e size v n xs) (hg : (w.alloc o).grownBy w' row) (hr : row = some w.heap.size) : w'.ownsRow B e size v n xs := by
  refine (h.alloc o).kept hg ?_
  cases hv : v.ownBlock with
  | none => exact .inl rfl
  | some k => exact .inr (by rw [hr]; intro e1; have := (h.lt k hv).2; simp at e1; omega)
/- QW3c -/
def wrOK (n m : Nat) (S : Nat → ByteArray) (T : Nat → Int) (U : Nat → ByteArray) (t : Int) (u : ByteArray) : Bool := decide (goodB n m S T U = true ∧ fitB n t u = true ∧ m ≠ 60)
def wrN (n m : Nat) (S : Nat → ByteArray) (T : Nat → Int) (U : Nat → ByteArray) (t : Int) (u : ByteArray) : Nat := bif wrOK n m S T U t u then n else 0
def wrM (n m : Nat) (S : Nat → ByteArray) (T : Nat → Int) (U : Nat → ByteArray) (t : Int) (u : ByteArray) : Nat := bif wrOK n m S T U t u then m + 1 else 0
def setT (T : Nat → Int) (m : Nat) (t : Int) : Nat → Int := fun i => if i = m then t else T i
def setU (U : Nat → ByteArray) (m : Nat) (u : ByteArray) : Nat → ByteArray := fun i => if i = m then u else U i
theorem wrtCells_congr (m : Nat) {T T' : Nat → Int} {U U' : Nat → ByteArray} (h : ∀ i, i < m → T i = T' i ∧ U i = U' i) : wrtCells m T U = wrtCells m T' U' := by
  induction m with
  | zero => rfl
  | succ m ih => rw [wrtCells_succ, wrtCells_succ, ih (fun i hi => h i (by omega)), (h m (by omega)).1, (h m (by omega)).2]
theorem wrtCells_set (m : Nat) (T : Nat → Int) (U : Nat → ByteArray) (t : Int) (u : ByteArray) : wrtCells m T U ++ [.int .i64 t, .string u] = wrtCells (m + 1) (setT T m t) (setU U m u) := by
  rw [wrtCells_succ, wrtCells_congr m (T := T) (T' := setT T m t) (U := U) (U' := setU U m u)]
  · simp [setT, setU]
  · intro i hi
    have : i ≠ m := by omega
    simp [setT, setU, this]

theorem new_two (w : World) (u v : Value) (t : TypeId) : ∀ j x, [u, v][j]? = some x → (w.alloc (.cells #[u, v] t)).cell? ((⟨w.heap.size, 0, none⟩ : Addr).add j) = some x := by
  intro j x hj
  match j, hj with
  | 0, hj => simp at hj; subst hj; simp [Addr.add]
  | 1, hj => simp at hj; subst hj; simp [Addr.add, go_sem]

theorem owns_off {w : World} {B : Nat} {e : TypeId} {size : Nat} {v : Value} {n : Nat} {xs : List Value} (h : w.ownsRow B e size v n xs) {b : Nat} (hb : b < B) : some b ≠ v.ownBlock := by
  intro e1
  have := (h.lt b e1.symm).1
  omega
theorem owns_keep {w w' : World} {B : Nat} {e : TypeId} {size : Nat} {v : Value} {n : Nat} {xs : List Value} {row : Option Nat} (h : w.ownsRow B e size v n xs) (hg : w.grownBy w' row) (hne : v.ownBlock = none ∨ v.ownBlock ≠ row) : w'.ownsRow B e size v n xs := h.kept hg hne
theorem owns_apart {w : World} {B B' : Nat} {e f : TypeId} {size size' : Nat} {v v' : Value} {n n' : Nat} {xs xs' : List Value} (hef : e ≠ f) (h : w.ownsRow B e size v n xs) (h' : w.ownsRow B' f size' v' n' xs') : v.ownBlock = none ∨ v.ownBlock ≠ v'.ownBlock := by
  rcases h.2 with ⟨rfl, _⟩ | ⟨g, cap, cur, rfl, _, hg, _⟩
  · exact .inl rfl
  · rcases h'.2 with ⟨rfl, _⟩ | ⟨g', cap', cur', rfl, _, hg', _⟩
    · exact .inr (by simp [Value.ownBlock])
    · refine .inr ?_
      intro e1
      simp [Value.ownBlock] at e1
      subst e1
      rw [hg] at hg'
      simp at hg'
      exact hef hg'.2
/- QW4c -/
theorem copied {w : World} {b : Nat} {md : Array Value} {m : Nat} {T : Nat → Int} {U : Nat → ByteArray} (h : md.size = (m + 1) * 2) (hB : Hid (w.heap[b]? = some (.cells (wrtCells m T U ++ md.toList.drop (wrtCells m T U).length).toArray 63 (0, 0)))) :
    ∃ c x0 x1, Hid (w.heap[b]? = some (.cells c 63 (0, 0))) ∧ Hid (c.size = (m + 1) * 2) ∧ wrts m T U c ∧ Hid (c[m * 2]? = some x0) ∧ Hid (c[m * 2 + 1]? = some x1) := by
  have hl : (wrtCells m T U ++ md.toList.drop (wrtCells m T U).length).length = (m + 1) * 2 := by
    rw [List.length_append, List.length_drop, wrtCells_len, Array.length_toList, h]; omega
  refine ⟨_, ((wrtCells m T U ++ md.toList.drop (wrtCells m T U).length))[m * 2]'(by omega), ((wrtCells m T U ++ md.toList.drop (wrtCells m T U).length))[m * 2 + 1]'(by omega), hB, ?_, ?_, ?_, ?_⟩
  · show _ = _
    rw [List.size_toArray, hl]
  · intro i hi
    rw [List.getElem?_toArray, List.getElem?_toArray, List.getElem?_append_left (by rw [wrtCells_len]; omega), List.getElem?_append_left (by rw [wrtCells_len]; omega)]
    exact wrtCells_at T U m i hi
  · show _ = _
    rw [List.getElem?_toArray, List.getElem?_eq_getElem]
  · show _ = _
    rw [List.getElem?_toArray, List.getElem?_eq_getElem]
/- QX1c -/
def bools (n : Nat) (K : Nat → Bool) (c : Array Value) : Prop := ∀ i, i < n → c[i]? = some (.bool (K i))
theorem info4 : (Tryd.prog.info? 4).map (fun i => (i.zero, i.size, i.bytes)) = some (some (.bool false), 1, 1) := by kernel_rfl
theorem Mine.bools {w : World} {B C : Nat} {e : TypeId} {n : Nat} {a : Option Addr} {K : Nat → Bool} (h : Mine w B C e n a (bools n K)) : At w a n fun i => .bool (K i) := by
  intro hn
  rcases h with h | ⟨b, c, g1, g2, h3, h4, h5⟩
  · exact absurd h hn
  · exact ⟨b, 0, h3, fun i hi => by simp [World.cell?, h4, h5 i hi]⟩

/-- Of the first k indices those that K keeps. -/
def kidx (K : Nat → Bool) (k : Nat) : List Nat := (List.range k).filter K
theorem kidx_succ (K : Nat → Bool) (k : Nat) : kidx K (k + 1) = kidx K k ++ (bif K k then [k] else []) := by
  unfold kidx
  rw [List.range_succ, List.filter_append]
  cases h : K k <;> simp [h]
theorem kidx_len (K : Nat → Bool) (k : Nat) : (kidx K k).length ≤ k := by
  have := List.length_filter_le K (List.range k)
  rw [List.length_range] at this
  exact this
theorem kidx_lt (K : Nat → Bool) (k : Nat) {i : Nat} (h : i ∈ kidx K k) : i < k := by
  unfold kidx at h
  rw [List.mem_filter, List.mem_range] at h
  exact h.1
def kT (K : Nat → Bool) (m : Nat) (T : Nat → Int) : Nat → Int := fun j => T ((kidx K m).getD j 0)
def kU (K : Nat → Bool) (m : Nat) (U : Nat → ByteArray) : Nat → ByteArray := fun j => U ((kidx K m).getD j 0)
/-- The cells of the writes at a list of indices. -/
def wrtL (l : List Nat) (T : Nat → Int) (U : Nat → ByteArray) : List Value := l.flatMap fun i => [.int .i64 (T i), .string (U i)]
theorem wrtL_cells (T : Nat → Int) (U : Nat → ByteArray) (l : List Nat) : wrtL l T U = wrtCells l.length (fun j => T (l.getD j 0)) (fun j => U (l.getD j 0)) := by
  unfold wrtL wrtCells
  have e : l = (List.range l.length).map fun j => l.getD j 0 := by
    apply List.ext_getElem
    · simp
    · intro i h1 h2
      simp [h1]
  exact (congrArg (List.flatMap fun i => [Value.int .i64 (T i), Value.string (U i)]) e).trans (by rw [List.flatMap_map])
theorem wrtL_succ (K : Nat → Bool) (k : Nat) (T : Nat → Int) (U : Nat → ByteArray) (h : K k = true) : wrtL (kidx K k) T U ++ [.int .i64 (T k), .string (U k)] = wrtL (kidx K (k + 1)) T U := by
  rw [kidx_succ, h]; simp [wrtL]
theorem kidx_same (K : Nat → Bool) (k : Nat) (h : K k = false) : kidx K (k + 1) = kidx K k := by rw [kidx_succ, h]; simp
theorem kidx_more (K : Nat → Bool) (k : Nat) (h : K k = true) : (kidx K (k + 1)).length = (kidx K k).length + 1 := by rw [kidx_succ, h]; simp
theorem kept_fits {n m : Nat} {T : Nat → Int} {U : Nat → ByteArray} {K : Nat → Bool} (h : ∀ i, i < m → fitB n (T i) (U i) = true) : ∀ i, i < (kidx K m).length → fitB n (kT K m T i) (kU K m U i) = true := by
  intro i hi
  have hg : (kidx K m).getD i 0 = (kidx K m)[i] := by simp [hi]
  have := kidx_lt K m (List.getElem_mem hi)
  unfold kT kU
  rw [hg]
  exact h _ this
/- QX2c -/
def crOK (n m nk : Nat) (S : Nat → ByteArray) (T : Nat → Int) (U : Nat → ByteArray) : Bool := decide (goodB n m S T U = true ∧ nk = m)
def crN (n m nk : Nat) (S : Nat → ByteArray) (T : Nat → Int) (U : Nat → ByteArray) : Nat := bif crOK n m nk S T U then n else 0
def crS (m : Nat) (S : Nat → ByteArray) (T : Nat → Int) (U : Nat → ByteArray) (K : Nat → Bool) : Nat → ByteArray := doneS S (kT K m T) (kU K m U) (kidx K m).length
end Go.Proofs.YtmijalmihfgolaaDoor
