import Derived.Test.YtfmgaenedkjmkaaB1
/- What the laws do with rows of ints: copy, compare and measure. -/
namespace Go.Proofs.Ytfmgaenedkjmkaa
open Go.ChangeShapes Go.WideShapes Go.ChangeAt Go.RowKit
set_option linter.unusedVariables false
open Hd

attribute [local go_sem] Oper.semAt_some

/-- A row's cells hold these ints. -/
def intsN (n : Nat) (l : List Int) (c : Array Value) : Prop := ∀ i, i < n → c[i]? = some (iv (gi l i))
/-- A slice of ints that lies in a block of its own, between two marks. -/
def IB (w : World) (B C : Nat) (v : Value) (l : List Int) (g : Nat) : Prop :=
  ∃ a c, v = .slice a l.length c ∧ l.length ≤ c ∧ (l ≠ [] → a = some ⟨g, 0, none⟩ ∧ B ≤ g ∧ g < C ∧ ∃ cs, w.heap[g]? = some (.cells cs 3 (0, 0)) ∧ intsN l.length l cs)
theorem IB.mono {w : World} {B C B' C' : Nat} {v : Value} {l : List Int} {g : Nat} (h : IB w B C v l g) (h1 : B' ≤ B) (h2 : C ≤ C') : IB w B' C' v l g := by
  obtain ⟨a, c, e, hc, hr⟩ := h
  exact ⟨a, c, e, hc, fun hn => by obtain ⟨r1, r2, r3, r4⟩ := hr hn; exact ⟨r1, by omega, by omega, r4⟩⟩
theorem IB.out {w w' : World} {B C B' C' : Nat} {v : Value} {l : List Int} {g : Nat} (h : IB w B C v l g) (ho : Out B' C' w w') (hd : l ≠ [] → g < B' ∨ C' ≤ g) : IB w' B C v l g := by
  obtain ⟨a, c, e, hc, hr⟩ := h
  exact ⟨a, c, e, hc, fun hn => by obtain ⟨r1, r2, r3, cs, r4, r5⟩ := hr hn; exact ⟨r1, r2, r3, cs, box_out r4 ho (hd hn), r5⟩⟩
theorem IB.below {w w' : World} {B C : Nat} {v : Value} {l : List Int} {g : Nat} (h : IB w B C v l g) (hb : Below w.heap.size w w') : IB w' B C v l g := by
  obtain ⟨a, c, e, hc, hr⟩ := h
  exact ⟨a, c, e, hc, fun hn => by obtain ⟨r1, r2, r3, cs, r4, r5⟩ := hr hn; exact ⟨r1, r2, r3, cs, box_on r4 hb, r5⟩⟩
theorem IB.ints {w : World} {B C : Nat} {v : Value} {l : List Int} {g : Nat} (h : IB w B C v l g) : ∃ a c, v = .slice a l.length c ∧ l.length ≤ c ∧ Ints w a l := by
  obtain ⟨a, c, e, hc, hr⟩ := h
  refine ⟨a, c, e, hc, fun hn => ?_⟩
  obtain ⟨r1, r2, r3, cs, r4, r5⟩ := hr (fun h => hn (by rw [h]; rfl))
  exact ⟨g, 0, r1, fun i hi => by rw [Nat.zero_add]; exact cell_of_block r4 (r5 i hi)⟩
theorem IB.nil {w : World} {B C g : Nat} : IB w B C (.slice none 0 0) [] g := ⟨none, 0, rfl, Nat.le_refl _, fun h => absurd rfl h⟩
theorem info3 : (Try.prog.info? 3).map (fun i => (i.zero, i.size, i.bytes)) = some (some (.int .i64 0), 1, 8) := by kernel_rfl
theorem info47 : (Try.prog.info? 36).map (fun i => (i.zero, i.size, i.bytes)) = some (some (.agg #[.string ⟨#[]⟩, .int .i64 0]), 2, 24) := by kernel_rfl
theorem info67 : (Try.prog.info? 63).map (fun i => (i.zero, i.size, i.bytes)) = some (some (.agg #[.int .i64 0, .slice none 0 0]), 2, 32) := by kernel_rfl

theorem toIntS_any (a : Option Addr) (l : List Int) (cap : Nat) (w : World) (hn : l.length ≤ 1048576) (hc : Ints w a l) :
    Calls Try.prog 37 #[.slice a l.length cap] w fun e w' => Below w.heap.size w w' ∧ w.heap.size < w'.heap.size ∧ ∃ v, e = .returned v ∧ IB w' w.heap.size w'.heap.size v l w.heap.size := by
  have hmk := make_any (P := Try.prog) 22 3 _ 1 8 Try.underlying22 info3 .i64 .i64 l.length (by omega) (by omega)
  obtain ⟨n, hln⟩ : ∃ n, l.length = n := ⟨_, rfl⟩
  have Hln : Hid _ := hln
  unfold Ints at hc
  rw [hln] at hn hmk hc ⊢
  clear hln
  go_enter Try.func37, Try.ntmps37
  go_wp2
  go_loopw [4] (fun i wr => ∃ (k : Nat) (c : Array Value), k ≤ n ∧ i = .int .i64 k ∧ wr.heap[w.heap.size]? = some (.cells c 3 (0, 0)) ∧ c.size = n ∧ intsN k l c ∧ Below w.heap.size w wr) (fun i _ => n - (intOf i).toNat)
  case atStart => exact ⟨0, _, Nat.zero_le _, rfl, heap_alloc_new w _, by simp [size_made], fun i hi => absurd hi (by simp), (Below.refl _ _).alloc (Nat.le_refl _) _⟩
  case round =>
    obtain ⟨k, c, hk, rfl, hB, hcs, hst, hb⟩ := hrel
    by_cases hlt : k < n
    · obtain ⟨b, off, rfl, hcell⟩ := (hc.below hb) (by omega)
      have k0 := hcell k hlt
      clear hcell hc
      have HB : Hid (wr.heap[w.heap.size]? = some (.cells c 3 (0, 0))) := hB
      have g0 : wr.cell? ⟨w.heap.size, k, none⟩ = some c[k] := cell_of_block hB (by simp)
      have f0 := free_of_block (i := k) hB
      clear hB
      generalize hx : gi l k = x at k0
      have HX : Hid _ := hx
      clear hx
      go_wp2
      go_roundw
      case rel =>
        refine ⟨k + 1, _, by omega, by go_num, block_set HB.out, by simpa using hcs, ?_, hb.setCell (by simp) _⟩
        intro i hi
        by_cases e : i = k
        · subst e; rw [set_at (by omega), HX.out]
        · rw [set_ne e]; exact hst i (by omega)
      case measure => simp [intOf]; omega
    · go_wp2
      go_ret
      have hkn : k = n := by omega
      subst hkn
      refine ⟨hb, (Array.getElem?_eq_some_iff.1 hB).1, .slice (some ⟨w.heap.size, 0, none⟩) k k, rfl, some ⟨w.heap.size, 0, none⟩, k, by rw [Hln.out], by rw [Hln.out]; exact Nat.le_refl _, fun _ => ⟨rfl, Nat.le_refl _, (Array.getElem?_eq_some_iff.1 hB).1, c, hB, by rw [Hln.out]; exact hst⟩⟩

theorem eqIntS_same (a a' : Option Addr) (cap cap' : Nat) (l : List Int) (w : World) (hn : l.length ≤ 9223372036854775807) (hc : Ints w a l) (hc' : Ints w a' l) :
    Calls Try.prog 43 #[.slice a l.length cap, .slice a' l.length cap'] w fun e w' => e = .returned (.bool true) ∧ Below w.heap.size w w' := by
  unfold Ints at hc hc'
  generalize l.length = n at *
  go_enter Try.func43, Try.ntmps43
  go_wp2
  go_loopw [5] (fun i wr => ∃ (k : Nat), k ≤ n ∧ i = .int .i64 k ∧ Below w.heap.size w wr) (fun i _ => n - (intOf i).toNat)
  case atStart => exact ⟨0, Nat.zero_le _, rfl, Below.refl _ _⟩
  case round =>
    obtain ⟨k, hk, rfl, hb⟩ := hrel
    by_cases hlt : k < n
    · obtain ⟨b, off, rfl, hcell⟩ := (hc.below hb) (by omega)
      obtain ⟨b', off', rfl, hcell'⟩ := (hc'.below hb) (by omega)
      have k0 := hcell k hlt
      have k0' := hcell' k hlt
      clear hcell hc hcell' hc'
      have hlt' : (k : Int) < (n : Int) := by omega
      generalize gi l k = x at k0 k0'
      go_wp2_with fail
      go_quiet (fail)
      go_wp2
      go_roundw
      case rel => exact ⟨k + 1, by omega, by go_num, below_drewN hb _⟩
      case measure => simp [intOf]; omega
    · go_wp2
      go_ret
      exact ⟨rfl, hb⟩
theorem szIntS_any (a : Option Addr) (n cap : Nat) (left : Int) (w : World) (hn : n ≤ 9223372036854775807) (h0 : 0 ≤ left) (h1 : left ≤ 1048576) :
    Calls Try.prog 26 #[.slice a n cap, .int .i64 left] w fun e w' => e = .returned (.int .i64 (if left - n < 0 then -1 else left - n)) ∧ w' = w := by
  have e1 : IntKind.i64.wrap (left - (n : Int)) = left - n := wrapI (by omega) (by omega)
  by_cases h : left - (n : Int) < 0
  · rw [if_pos h]
    go_enter Try.func26, Try.ntmps26
    go_wp2
    go_ret
    exact ⟨rfl, rfl⟩
  · rw [if_neg h]
    go_enter Try.func26, Try.ntmps26
    go_wp2
    go_ret
    exact ⟨by simp, rfl⟩
end Go.Proofs.Ytfmgaenedkjmkaa
