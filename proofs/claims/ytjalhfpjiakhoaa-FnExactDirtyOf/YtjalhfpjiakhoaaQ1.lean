import Derived.Test.YtjalhfpjiakhoaaX1
namespace Go.Proofs.Ytjalhfpjiakhoaa
open Go.ChangeShapes Go.WideShapes Go.ChangeAt Go.RowKit
set_option linter.unusedVariables false

def ints (n : Nat) (V : Nat → Int) (c : Array Value) : Prop := ∀ i, i < n → c[i]? = some (.int .i64 (V i))
theorem info3 : (Try.prog.info? 3).map (fun i => (i.zero, i.size, i.bytes)) = some (some (.int .i64 0), 1, 8) := by kernel_rfl
theorem Mine.ints {w : World} {B C : Nat} {e : TypeId} {n : Nat} {a : Option Addr} {V : Nat → Int} (h : Mine w B C e n a (ints n V)) : At w a n fun i => .int .i64 (V i) := by
  intro hn
  rcases h with h | ⟨b, c, g1, g2, h3, h4, h5⟩
  · exact absurd h hn
  · exact ⟨b, 0, h3, fun i hi => by simp [World.cell?, h4, h5 i hi]⟩

set_option maxHeartbeats 400000 in
theorem eqIntS_any (a a' : Option Addr) (n cap cap' : Nat) (V : Nat → Int) (w : World) (hn : n ≤ 9223372036854775807) (hc : At w a n fun i => .int .i64 (V i)) (hc' : At w a' n fun i => .int .i64 (V i)) :
    Calls Try.prog 44 #[.slice a n cap, .slice a' n cap'] w fun e w' => e = .returned (.bool true) ∧ Below w.heap.size w w' := by
  go_enter Try.func44, Try.ntmps44
  go_wp2
  go_loopw [5] (fun i wr => ∃ (k : Nat), k ≤ n ∧ i = .int .i64 k ∧ Below w.heap.size w wr) (fun i _ => n - (intOf i).toNat)
  case atStart => exact ⟨0, Nat.zero_le _, rfl, Below.refl _ _⟩
  case round =>
    obtain ⟨k, hk, rfl, hb⟩ := hrel
    by_cases hlt : k < n
    · obtain ⟨b, off, rfl, hcell⟩ := (hc.below hb) (by omega)
      obtain ⟨b', off', rfl, hcell'⟩ := (hc'.below hb) (by omega)
      have hck := hcell k hlt
      have hck' := hcell' k hlt
      have hlt' : (k : Int) < (n : Int) := by omega
      clear hcell hc hcell' hc'
      go_wp2
      go_quiet (fail)
      go_wp2
      go_roundw
      case rel => exact ⟨k + 1, by omega, by go_num, below_drewN hb _⟩
      case measure => simp [intOf]; omega
    · go_wp2
      go_ret
      exact ⟨rfl, hb⟩

def mkI (k : Nat) : Nat → Int := fun i => ((k + i : Nat) : Int)

set_option maxHeartbeats 800000 in
theorem markIntS_any (B C : Nat) (a : Option Addr) (n cap : Nat) (V : Nat → Int) (k : Nat) (w : World) (hk : 1 ≤ k) (hkn : k + n ≤ 100000000) (hm : Mine w B C 3 n a (ints n V)) :
    Calls Try.prog 45 #[.slice a n cap, .int .i64 k] w fun e w' => e = .returned (.int .i64 ((k + n : Nat) : Int)) ∧ Out B C w w' ∧ Mine w' B C 3 n a (ints n (mkI k)) := by
  rcases hm with h0 | ⟨b, c0, hb1, hb2, rfl, hB0, hS0⟩
  · subst h0
    go_enter Try.func45, Try.ntmps45
    go_wp2
    refine wp_loop_rounds 1 ?_
    rw [rounds_succ]
    go_wp2
    go_ret
    exact ⟨rfl, Out.refl _ _ _, .inl rfl⟩
  · have hsz : n ≤ c0.size := by
      by_cases h0 : n = 0
      · omega
      · have := (Array.getElem?_eq_some_iff.1 (hS0 (n - 1) (by omega))).1
        omega
    have HB0 : Hid _ := hB0
    clear hB0
    go_enter Try.func45, Try.ntmps45
    go_wp2
    go_loopw [1, 5] (fun kk i wr => ∃ (q : Nat) (c : Array Value), q ≤ n ∧ kk = .int .i64 ((k + q : Nat) : Int) ∧ i = .int .i64 q ∧ wr.heap[b]? = some (.cells c 3 (0, 0)) ∧ n ≤ c.size ∧ ints q (mkI k) c ∧ Out B C w wr) (fun _ i _ => n - (intOf i).toNat)
    case atStart => exact ⟨0, c0, Nat.zero_le _, rfl, rfl, HB0.out, hsz, fun i hi => absurd hi (by omega), Out.refl _ _ _⟩
    case round =>
      obtain ⟨q, c, hq, rfl, rfl, hB, hcs, hst, ho⟩ := hrel
      by_cases hlt : q < n
      · obtain ⟨x0, hx0⟩ : ∃ v, c[q]? = some v := ⟨c[q]'(by omega), by simp⟩
        have g0 := cell_of_block hB hx0
        have f0 := free_of_block (i := q) hB
        have HB : Hid _ := hB
        clear hB hx0
        go_wp2
        go_roundw
        case rel =>
          refine ⟨q + 1, _, by omega, by go_num, by go_num, block_set HB.out, by simpa using hcs, ?_, ho.setCell hb1 hb2 _ _⟩
          intro i hi
          by_cases e : i = q
          · rw [e]; simpa [mkI] using set_at (c := c) (i := q) (by omega) (.int .i64 ((k + q : Nat) : Int))
          · rw [set_ne e]; exact hst i (by omega)
        case measure => simp [intOf]; omega
      · have hqn : q = n := by omega
        subst hqn
        have HB : Hid _ := hB
        clear hB
        go_wp2
        go_ret
        exact ⟨rfl, ho, .inr ⟨b, c, hb1, hb2, rfl, HB.out, hst⟩⟩

set_option maxHeartbeats 400000 in
theorem heldIntS_any (a : Option Addr) (n cap : Nat) (k : Nat) (w : World) (hk : 1 ≤ k) (hkn : k + n ≤ 100000000) (hm : At w a n fun i => .int .i64 (mkI k i)) :
    Calls Try.prog 46 #[.slice a n cap, .int .i64 k] w fun e w' => e = .returned (.int .i64 ((k + n : Nat) : Int)) ∧ Below w.heap.size w w' := by
  go_enter Try.func46, Try.ntmps46
  go_wp2
  go_loopw [1, 5] (fun kk i wr => ∃ (q : Nat), q ≤ n ∧ kk = .int .i64 ((k + q : Nat) : Int) ∧ i = .int .i64 q ∧ Below w.heap.size w wr) (fun _ i _ => n - (intOf i).toNat)
  case atStart => exact ⟨0, Nat.zero_le _, rfl, rfl, Below.refl _ _⟩
  case round =>
    obtain ⟨q, hq, rfl, rfl, hb⟩ := hrel
    by_cases hlt : q < n
    · obtain ⟨b, off, rfl, hcell⟩ := (hm.below hb) (by omega)
      have h1 : wr.cell? ⟨b, off + q, none⟩ = some (.int .i64 ((k + q : Nat) : Int)) := hcell q hlt
      have hlt' : (q : Int) < (n : Int) := by omega
      clear hcell hm
      go_wp2
      go_roundw
      case rel => exact ⟨q + 1, by omega, by go_num, by go_num, hb⟩
      case measure => simp [intOf]; omega
    · have hqn : q = n := by omega
      subst hqn
      go_wp2
      go_ret
      exact ⟨rfl, hb⟩
end Go.Proofs.Ytjalhfpjiakhoaa
