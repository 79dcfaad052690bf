import Derived.Test.YtjalhfpjiakhoaaW3
namespace Go.Proofs.Ytjalhfpjiakhoaa
open Go.ChangeShapes Go.WideShapes Go.ChangeAt Go.RowKit
set_option linter.unusedVariables false

def bools (n : Nat) (K : Nat → Bool) (c : Array Value) : Prop := ∀ i, i < n → c[i]? = some (.bool (K i))
theorem info4 : (Try.prog.info? 4).map (fun i => (i.zero, i.size, i.bytes)) = some (some (.bool false), 1, 1) := by kernel_rfl
theorem Mine.bools {w : World} {B C : Nat} {e : TypeId} {n : Nat} {a : Option Addr} {K : Nat → Bool} (h : Mine w B C e n a (bools n K)) : At w a n fun i => .bool (K i) := by
  intro hn
  rcases h with h | ⟨b, c, g1, g2, h3, h4, h5⟩
  · exact absurd h hn
  · exact ⟨b, 0, h3, fun i hi => by simp [World.cell?, h4, h5 i hi]⟩

set_option maxHeartbeats 400000 in
theorem toBoolS_any (a : Option Addr) (n cap : Nat) (K : Nat → Bool) (w : World) (hn : n ≤ 1048576) (hc : At w a n fun i => .bool (K i)) :
    Calls Try.prog 30 #[.slice a n cap] w fun e w' => Below w.heap.size w w' ∧ ∃ a' c', e = .returned (.slice a' n c') ∧ Mine w' w.heap.size w'.heap.size 4 n a' (bools n K) := by
  have hmk := make_any (P := Try.prog) 49 4 _ 1 1 Try.underlying49 info4 .i64 .i64 n (by omega) (by omega)
  go_enter Try.func30, Try.ntmps30
  go_wp2
  go_loopw [4] (fun i wr => ∃ (k : Nat) (c : Array Value), k ≤ n ∧ i = .int .i64 k ∧ wr.heap[w.heap.size]? = some (.cells c 4 (0, 0)) ∧ c.size = n ∧ bools k K c ∧ Below w.heap.size w wr) (fun i _ => n - (intOf i).toNat)
  case atStart => exact ⟨0, _, Nat.zero_le _, rfl, heap_alloc_new w _, by simp [size_made], fun i hi => absurd hi (by omega), below_alloc _ _⟩
  case round =>
    obtain ⟨k, c, hk, rfl, hB, hcs, hst, hb⟩ := hrel
    by_cases hlt : k < n
    · obtain ⟨b, off, rfl, hcell⟩ := (hc.below hb) (by omega)
      have hck := hcell k hlt
      have hold : wr.cell? ⟨w.heap.size, k, none⟩ = some c[k] := cell_of_block hB (by simp)
      have hfree := free_of_block (i := k) hB
      clear hcell hc
      have HB : Hid (wr.heap[w.heap.size]? = some (.cells c 4 (0, 0))) := hB
      clear hB
      go_wp2
      go_roundw
      case rel =>
        refine ⟨k + 1, _, by omega, by go_num, block_set HB.out, by simpa using hcs, ?_, hb.setCell (Nat.le_refl _) _⟩
        intro i hi
        by_cases e : i = k
        · rw [e]; exact set_at (by omega) _
        · rw [set_ne e]; exact hst i (by omega)
      case measure => simp [intOf]; omega
    · go_wp2
      go_ret
      have hkn : k = n := by omega
      subst hkn
      exact ⟨hb, _, _, rfl, .inr ⟨_, c, Nat.le_refl _, (Array.getElem?_eq_some_iff.1 hB).1, rfl, hB, hst⟩⟩

set_option maxHeartbeats 400000 in
theorem eqBoolS_any (a a' : Option Addr) (n cap cap' : Nat) (K : Nat → Bool) (w : World) (hn : n ≤ 9223372036854775807) (hc : At w a n fun i => .bool (K i)) (hc' : At w a' n fun i => .bool (K i)) :
    Calls Try.prog 32 #[.slice a n cap, .slice a' n cap'] w fun e w' => e = .returned (.bool true) ∧ Below w.heap.size w w' := by
  go_enter Try.func32, Try.ntmps32
  go_wp2
  go_loopw [5] (fun i wr => ∃ (k : Nat), k ≤ n ∧ i = .int .i64 k ∧ Below w.heap.size w wr) (fun i _ => n - (intOf i).toNat)
  case atStart => exact ⟨0, Nat.zero_le _, rfl, Below.refl _ _⟩
  case round =>
    obtain ⟨k, hk, rfl, hb⟩ := hrel
    by_cases hlt : k < n
    · obtain ⟨b, off, rfl, hcell⟩ := (hc.below hb) (by omega)
      obtain ⟨b', off', rfl, hcell'⟩ := (hc'.below hb) (by omega)
      have hck := hcell k hlt
      have hck' := hcell' k hlt
      have hlt' : (k : Int) < (n : Int) := by omega
      clear hcell hc hcell' hc'
      go_wp2
      go_quiet (fail)
      go_wp2
      go_roundw
      case rel => exact ⟨k + 1, by omega, by go_num, below_drewN hb _⟩
      case measure => simp [intOf]; omega
    · go_wp2
      go_ret
      exact ⟨rfl, hb⟩

set_option maxHeartbeats 800000 in
theorem markBoolS_any (B C : Nat) (a : Option Addr) (n cap : Nat) (K : Nat → Bool) (k : Nat) (w : World) (hk : 1 ≤ k) (hkn : k + n ≤ 100000000) (hm : Mine w B C 4 n a (bools n K)) :
    Calls Try.prog 33 #[.slice a n cap, .int .i64 k] w fun e w' => e = .returned (.int .i64 ((k + n : Nat) : Int)) ∧ Out B C w w' := by
  rcases hm with h0 | ⟨b, c0, hb1, hb2, rfl, hB0, hS0⟩
  · subst h0
    go_enter Try.func33, Try.ntmps33
    go_wp2
    refine wp_loop_rounds 1 ?_
    rw [rounds_succ]
    go_wp2
    go_ret
    exact ⟨rfl, Out.refl _ _ _⟩
  · have hsz : n ≤ c0.size := by
      by_cases h0 : n = 0
      · omega
      · have := (Array.getElem?_eq_some_iff.1 (hS0 (n - 1) (by omega))).1
        omega
    have HB0 : Hid _ := hB0
    clear hB0
    go_enter Try.func33, Try.ntmps33
    go_wp2
    go_loopw [1, 5] (fun kk i wr => ∃ (q : Nat) (c : Array Value), q ≤ n ∧ kk = .int .i64 ((k + q : Nat) : Int) ∧ i = .int .i64 q ∧ wr.heap[b]? = some (.cells c 4 (0, 0)) ∧ n ≤ c.size ∧ Out B C w wr) (fun _ i _ => n - (intOf i).toNat)
    case atStart => exact ⟨0, c0, Nat.zero_le _, rfl, rfl, HB0.out, hsz, Out.refl _ _ _⟩
    case round =>
      obtain ⟨q, c, hq, rfl, rfl, hB, hcs, ho⟩ := hrel
      by_cases hlt : q < n
      · obtain ⟨x0, hx0⟩ : ∃ v, c[q]? = some v := ⟨c[q]'(by omega), by simp⟩
        have g0 := cell_of_block hB hx0
        have f0 := free_of_block (i := q) hB
        have HB : Hid _ := hB
        clear hB hx0
        go_wp2
        go_roundw
        case rel => exact ⟨q + 1, _, by omega, by go_num, by go_num, block_set HB.out, by simpa using hcs, ho.setCell hb1 hb2 _ _⟩
        case measure => simp [intOf]; omega
      · have hqn : q = n := by omega
        subst hqn
        go_wp2
        go_ret
        exact ⟨rfl, ho⟩

/-- Of the first k indices those that K keeps. -/
def kidx (K : Nat → Bool) (k : Nat) : List Nat := (List.range k).filter K
theorem kidx_succ (K : Nat → Bool) (k : Nat) : kidx K (k + 1) = kidx K k ++ (bif K k then [k] else []) := by
  unfold kidx
  rw [List.range_succ, List.filter_append]
  cases h : K k <;> simp [h]
theorem kidx_len (K : Nat → Bool) (k : Nat) : (kidx K k).length ≤ k := by
  have := List.length_filter_le K (List.range k)
  rw [List.length_range] at this
  exact this
theorem kidx_lt (K : Nat → Bool) (k : Nat) {i : Nat} (h : i ∈ kidx K k) : i < k := by
  unfold kidx at h
  rw [List.mem_filter, List.mem_range] at h
  exact h.1
def kT (K : Nat → Bool) (m : Nat) (T : Nat → Int) : Nat → Int := fun j => T ((kidx K m).getD j 0)
def kU (K : Nat → Bool) (m : Nat) (U : Nat → ByteArray) : Nat → ByteArray := fun j => U ((kidx K m).getD j 0)
/-- The cells of the writes at a list of indices. -/
def wrtL (l : List Nat) (T : Nat → Int) (U : Nat → ByteArray) : List Value := l.flatMap fun i => [.int .i64 (T i), .string (U i)]
theorem wrtL_cells (T : Nat → Int) (U : Nat → ByteArray) (l : List Nat) : wrtL l T U = wrtCells l.length (fun j => T (l.getD j 0)) (fun j => U (l.getD j 0)) := by
  unfold wrtL wrtCells
  have e : l = (List.range l.length).map fun j => l.getD j 0 := by
    apply List.ext_getElem
    · simp
    · intro i h1 h2
      simp [h1]
  exact (congrArg (List.flatMap fun i => [Value.int .i64 (T i), Value.string (U i)]) e).trans (by rw [List.flatMap_map])
theorem wrtL_succ (K : Nat → Bool) (k : Nat) (T : Nat → Int) (U : Nat → ByteArray) (h : K k = true) : wrtL (kidx K k) T U ++ [.int .i64 (T k), .string (U k)] = wrtL (kidx K (k + 1)) T U := by
  rw [kidx_succ, h]; simp [wrtL]
theorem kidx_same (K : Nat → Bool) (k : Nat) (h : K k = false) : kidx K (k + 1) = kidx K k := by rw [kidx_succ, h]; simp
theorem kidx_more (K : Nat → Bool) (k : Nat) (h : K k = true) : (kidx K (k + 1)).length = (kidx K k).length + 1 := by rw [kidx_succ, h]; simp
theorem kept_fits {n m : Nat} {T : Nat → Int} {U : Nat → ByteArray} {K : Nat → Bool} (h : ∀ i, i < m → fitB n (T i) (U i) = true) : ∀ i, i < (kidx K m).length → fitB n (kT K m T i) (kU K m U i) = true := by
  intro i hi
  have hg : (kidx K m).getD i 0 = (kidx K m)[i] := by simp [hi]
  have := kidx_lt K m (List.getElem_mem hi)
  unfold kT kU
  rw [hg]
  exact h _ this

set_option maxHeartbeats 1600000 in
theorem l1Kept_any (a ak : Option Addr) (m ca ck : Nat) (T : Nat → Int) (U : Nat → ByteArray) (K : Nat → Bool) (w : World) (hm : m ≤ 60) (ha : At2 w a m T U) (hk : At w ak m fun i => .bool (K i)) :
    Calls Try.prog 61 #[.slice a m ca, .slice ak m ck] w fun e w' => Below w.heap.size w w' ∧ ∃ x cx, e = .returned (.slice x (kidx K m).length cx) ∧ Mine w' w.heap.size w'.heap.size 42 (kidx K m).length x (wrts (kidx K m).length (kT K m T) (kU K m U)) := by
  go_enter Try.func61, Try.ntmps61
  go_wp2
  go_loopw [5, 10] (fun v i wr => ∃ (k : Nat), k ≤ m ∧ i = .int .i64 k ∧ wr.ownsRow w.heap.size 42 2 v (kidx K k).length (wrtL (kidx K k) T U) ∧ Below w.heap.size w wr) (fun _ i _ => m - (intOf i).toNat)
  case atStart => exact ⟨0, Nat.zero_le _, rfl, World.ownsRow_nil _ _ _ _, Below.refl _ _⟩
  case round =>
    obtain ⟨k, hkm, rfl, hown, hb⟩ := hrel
    obtain ⟨x, cx, hv⟩ := owns_form hown
    subst hv
    by_cases hlt : k < m
    · obtain ⟨b, off, rfl, hcell⟩ := (ha.below hb) (by omega)
      obtain ⟨hck, hck2⟩ := hcell k hlt
      obtain ⟨b', off', rfl, hcell'⟩ := (hk.below hb) (by omega)
      have hkk : wr.cell? ⟨b', off' + k, none⟩ = some (.bool (K k)) := hcell' k hlt
      have hlt' : (k : Int) < (m : Int) := by omega
      have hlen := kidx_len K k
      have hbl := lt_of_cell hkk
      have HO : Hid _ := hown
      clear hcell hcell' hown
      cases hK : K k
      · rw [hK] at hkk
        go_wp2
        go_roundw
        case rel => exact ⟨k + 1, by omega, by go_num, by rw [kidx_same K k hK]; exact World.ownsRow.alloc HO.out _, Below.comp hb (below_alloc _ _)⟩
        case measure => simp [intOf]; omega
      · rw [hK] at hkk
        have HK : Hid _ := hK
        clear hK
        have hsz := hb.size
        go_wp2_with (at_builtin; (refine wpList_append_src rfl (.tmp 19) (.tmp 21) 23 rfl w.heap.size 42 _ 2 24 Try.underlying23 info42 rfl (by decide) (.slice x (kidx K k).length cx) (kidx K k).length (wrtL (kidx K k) T U) rfl (World.ownsRow.alloc (World.ownsRow.alloc HO.out _) _) (some ⟨wr.heap.size + 1, 0, none⟩) 1 1 [.int .i64 (T k), .string (U k)] rfl rfl (.inr ⟨_, rfl, by simpa using new_two (wr.alloc (.cells #[.int .i64 (T k), .string (U k)] 42)) (.int .i64 (T k)) (.string (U k)) 42⟩) (by intro q hq; simp at hq; rcases hq with rfl | rfl <;> rfl) (by omega) (by omega) (by simp <;> omega) ?_); intro v2 w2 hown2 hgrow2; have bl2 : Below w.heap.size ((wr.alloc (.cells #[.int .i64 (T k), .string (U k)] 42)).alloc (.cells #[.int .i64 (T k), .string (U k)] 42)) w2 := Grown.below hgrow2 (by simp <;> omega) (fun q hq => (World.ownsRow.lt HO.out q hq).1))
        go_roundw
        case rel => exact ⟨k + 1, by omega, by go_num, by rw [kidx_more K k HK.out, ← wrtL_succ K k T U HK.out]; exact hown2, ((hb.alloc hsz _).alloc (by simp <;> omega) _).trans bl2⟩
        case measure => simp [intOf]; omega
    · have hkn : k = m := by omega
      subst hkn
      go_wp2
      go_ret
      rw [wrtL_cells] at hown
      exact ⟨hb, x, cx, rfl, (owns_wrts hown).mono (Nat.le_refl _) (Nat.le_refl _)⟩
end Go.Proofs.Ytjalhfpjiakhoaa
