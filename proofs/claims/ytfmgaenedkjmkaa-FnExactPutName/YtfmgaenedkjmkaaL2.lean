import Derived.Test.YtfmgaenedkjmkaaL1
/- What the laws do with rows of names: copy, compare and measure. -/
namespace Go.Proofs.Ytfmgaenedkjmkaa
open Go.ChangeShapes Go.WideShapes Go.ChangeAt Go.RowKit
set_option linter.unusedVariables false
open Hd

attribute [local go_sem] Oper.semAt_some

/-- A row's cells hold these names. -/
def namesN (n : Nat) (l : List Nm) (c : Array Value) : Prop := ∀ i, i < n → c[i * 2]? = some (.string (gm l i).nm) ∧ c[i * 2 + 1]? = some (.int .i64 (gm l i).fl)
/-- A slice of names that lies in a block of its own, between two marks. -/
def NB (w : World) (B C : Nat) (v : Value) (l : List Nm) (g : Nat) : Prop :=
  ∃ a c, v = .slice a l.length c ∧ l.length ≤ c ∧ (l ≠ [] → a = some ⟨g, 0, none⟩ ∧ B ≤ g ∧ g < C ∧ ∃ cs, w.heap[g]? = some (.cells cs 36 (0, 0)) ∧ namesN l.length l cs)
theorem NB.mono {w : World} {B C B' C' : Nat} {v : Value} {l : List Nm} {g : Nat} (h : NB w B C v l g) (h1 : B' ≤ B) (h2 : C ≤ C') : NB w B' C' v l g := by
  obtain ⟨a, c, e, hc, hr⟩ := h
  exact ⟨a, c, e, hc, fun hn => by obtain ⟨r1, r2, r3, r4⟩ := hr hn; exact ⟨r1, by omega, by omega, r4⟩⟩
theorem NB.out {w w' : World} {B C B' C' : Nat} {v : Value} {l : List Nm} {g : Nat} (h : NB w B C v l g) (ho : Out B' C' w w') (hd : l ≠ [] → g < B' ∨ C' ≤ g) : NB w' B C v l g := by
  obtain ⟨a, c, e, hc, hr⟩ := h
  exact ⟨a, c, e, hc, fun hn => by obtain ⟨r1, r2, r3, cs, r4, r5⟩ := hr hn; exact ⟨r1, r2, r3, cs, box_out r4 ho (hd hn), r5⟩⟩
theorem NB.out' {w w' : World} {B C B' C' : Nat} {v : Value} {l : List Nm} {g : Nat} (h : NB w B C v l g) (ho : Out B' C' w w') (hd : C ≤ B' ∨ C' ≤ B) : NB w' B C v l g := by
  obtain ⟨a, c, e, hc, hr⟩ := h
  exact ⟨a, c, e, hc, fun hn => by obtain ⟨r1, r2, r3, cs, r4, r5⟩ := hr hn; exact ⟨r1, r2, r3, cs, box_out r4 ho (by omega), r5⟩⟩
theorem NB.below {w w' : World} {B C : Nat} {v : Value} {l : List Nm} {g : Nat} (h : NB w B C v l g) (hb : Below w.heap.size w w') : NB w' B C v l g := by
  obtain ⟨a, c, e, hc, hr⟩ := h
  exact ⟨a, c, e, hc, fun hn => by obtain ⟨r1, r2, r3, cs, r4, r5⟩ := hr hn; exact ⟨r1, r2, r3, cs, box_on r4 hb, r5⟩⟩
theorem NB.same {w w' : World} {B C : Nat} {v : Value} {l : List Nm} {g : Nat} (h : NB w B C v l g) (hs : l ≠ [] → g < w.heap.size → w'.heap[g]? = w.heap[g]?) : NB w' B C v l g := by
  obtain ⟨a, c, e, hc, hr⟩ := h
  exact ⟨a, c, e, hc, fun hn => by obtain ⟨r1, r2, r3, cs, r4, r5⟩ := hr hn; exact ⟨r1, r2, r3, cs, by rw [hs hn (box_lt r4)]; exact r4, r5⟩⟩
theorem NB.names {w : World} {B C : Nat} {v : Value} {l : List Nm} {g : Nat} (h : NB w B C v l g) : ∃ a c, v = .slice a l.length c ∧ l.length ≤ c ∧ Nms w a l := by
  obtain ⟨a, c, e, hc, hr⟩ := h
  refine ⟨a, c, e, hc, fun hn => ?_⟩
  obtain ⟨r1, r2, r3, cs, r4, r5⟩ := hr (fun h => hn (by rw [h]; rfl))
  exact ⟨g, 0, r1, fun i hi => by rw [Nat.zero_add]; exact ⟨cell_of_block r4 (r5 i hi).1, cell_of_block r4 (r5 i hi).2⟩⟩
theorem NB.nil {w : World} {B C g : Nat} : NB w B C (.slice none 0 0) [] g := ⟨none, 0, rfl, Nat.le_refl _, fun h => absurd rfl h⟩

theorem toName_any (s : ByteArray) (f : Int) (w : World) : Calls Try.prog 10 #[.agg #[.string s, .int .i64 f]] w fun e w' => e = .returned (.agg #[.string s, .int .i64 f]) ∧ Below w.heap.size w w' := by
  obtain ⟨z, hz⟩ : ∃ z, w.heap.size = z := ⟨_, rfl⟩
  obtain ⟨W0, hW0⟩ : ∃ W0, ((w.alloc (.cells #[.string s, .int .i64 f] 27)).alloc (.cells #[.string ⟨#[]⟩, .int .i64 0] 36)).alloc (.cells #[.string ⟨#[]⟩, .int .i64 0] 36) = W0 := ⟨_, rfl⟩
  have hb0 : Below z w W0 := by subst hW0 hz; exact ba3 _ _ _ _
  obtain ⟨B1, B2, B3⟩ : W0.heap[z]? = some (.cells #[.string s, .int .i64 f] 27 (0, 0)) ∧ W0.heap[z + 1]? = some (.cells #[.string ⟨#[]⟩, .int .i64 0] 36 (0, 0)) ∧ W0.heap[z + 1 + 1]? = some (.cells #[.string ⟨#[]⟩, .int .i64 0] 36 (0, 0)) := by subst hW0 hz; exact al3 _ _ _ _
  have H2 : Hid _ := B2
  obtain ⟨i0, i1, -, -⟩ := box2_cells B1
  obtain ⟨j0, j1, p0, p1⟩ := box2_cells B2
  obtain ⟨k0, k1, q0, q1⟩ := box2_cells B3
  clear B1 B2 B3
  go_enter Try.func10, Try.ntmps10
  go_wp2
  obtain ⟨W3, hW3⟩ : ∃ W3, (((W0.setCell ⟨z + 1 + 1, 0, none⟩ (.string s)).setCell ⟨z + 1 + 1, 1, none⟩ (.int .i64 f)).setCell ⟨z + 1, 0, none⟩ (.string s)).setCell ⟨z + 1, 1, none⟩ (.int .i64 f) = W3 := ⟨_, rfl⟩
  have R : W3.heap[z + 1]? = some (.cells #[.string s, .int .i64 f] 36 (0, 0)) := by
    subst hW3
    exact box2_set (box_out (box_out H2.out (out_setCell _ _ _ _) (by omega)) (out_setCell _ _ _ _) (by omega))
  have o2 : Below z w W3 := by
    subst hW3
    exact (((hb0.setCell (by simp; omega) _).setCell (by simp; omega) _).setCell (by simp) _).setCell (by simp) _
  rw [hW3]
  clear hW3
  obtain ⟨t0, t1, -, -⟩ := box2_cells R
  exact bodyPost_ret (v := .agg #[.string s, .int .i64 f]) (by simp [results, Try.results10, go_sem, t0, t1]) rfl ⟨rfl, hz ▸ o2⟩
set_option maxHeartbeats 400000 in
theorem toNameS_any (a : Option Addr) (l : List Nm) (cap : Nat) (w : World) (hn : l.length ≤ 1048576) (hc : Nms w a l) :
    Calls Try.prog 19 #[.slice a l.length cap] w fun e w' => Below w.heap.size w w' ∧ w.heap.size < w'.heap.size ∧ ∃ v, e = .returned v ∧ NB w' w.heap.size w'.heap.size v l w.heap.size := by
  have hmk := make_any (P := Try.prog) 48 36 _ 2 24 Try.underlying48 info47 .i64 .i64 l.length (by omega) (by omega)
  obtain ⟨n, hln⟩ : ∃ n, l.length = n := ⟨_, rfl⟩
  have Hln : Hid _ := hln
  unfold Nms at hc
  rw [hln] at hn hmk hc ⊢
  clear hln
  have Hc : Hid _ := hc
  clear hc
  go_enter Try.func19, Try.ntmps19
  go_wp2
  go_loopw [4] (fun i wr => ∃ (k : Nat) (c : Array Value), k ≤ n ∧ i = .int .i64 k ∧ Hid (wr.heap[w.heap.size]? = some (.cells c 36 (0, 0))) ∧ c.size = n * 2 ∧ namesN k l c ∧ Below w.heap.size w wr) (fun i _ => n - (intOf i).toNat)
  case atStart => exact ⟨0, _, Nat.zero_le _, rfl, heap_alloc_new w _, by simp [size_made], fun i hi => absurd hi (by simp), (Below.refl _ _).alloc (Nat.le_refl _) _⟩
  case round =>
    obtain ⟨k, c, hk, rfl, HB, hcs, hst, hb⟩ := hrel
    by_cases hlt : k < n
    · obtain ⟨b, off, rfl, hcell⟩ := Hc.out (by omega)
      obtain ⟨k0, k1⟩ := (hcell k hlt).below hb
      clear hcell
      have hbs := box_lt HB.out
      have Hx : Hid (gm l k = ⟨(gm l k).nm, (gm l k).fl⟩) := rfl
      obtain ⟨s, hs⟩ : ∃ s, (gm l k).nm = s := ⟨_, rfl⟩
      obtain ⟨f, hf⟩ : ∃ f, (gm l k).fl = f := ⟨_, rfl⟩
      have HS : Hid _ := hs
      have HF : Hid _ := hf
      rw [hs] at k0
      rw [hf] at k1
      clear hs hf Hx
      go_wp2_with (go_at_call 10; refine (toName_any s f _).mono ?_; rintro e w1 ⟨rfl, b1⟩; have HB1 : Hid (w1.heap[w.heap.size]? = some (.cells c 36 (0, 0))) := box_on HB.out b1; have g0 : w1.cell? ⟨w.heap.size, k * 2, none⟩ = some c[k * 2] := cell_of_block HB1.out (by simp); have g1 : w1.cell? ⟨w.heap.size, k * 2 + 1, none⟩ = some c[k * 2 + 1] := cell_of_block HB1.out (by simp); have f0 := free_of_block (i := k * 2) HB1.out; have f1 := free_of_block (i := k * 2 + 1) HB1.out)
      go_roundw
      case rel =>
        refine ⟨k + 1, _, by omega, by go_num, block_set (block_set HB1.out), by simpa using hcs, ?_, ((Below.comp hb b1).setCell (by simp) _).setCell (by simp) _⟩
        intro i hi
        by_cases e : i = k
        · subst e
          rw [HS.out, HF.out]
          exact ⟨by rw [set_ne (by omega)]; exact set_at (by omega) _, set_at (by simp; omega) _⟩
        · rw [set_ne (by omega), set_ne (by omega), set_ne (by omega), set_ne (by omega)]; exact hst i (by omega)
      case measure => simp [intOf]; omega
    · go_wp2
      go_ret
      have hkn : k = n := by omega
      subst hkn
      refine ⟨hb, box_lt HB.out, .slice (some ⟨w.heap.size, 0, none⟩) k k, rfl, some ⟨w.heap.size, 0, none⟩, k, by rw [Hln.out], by rw [Hln.out]; exact Nat.le_refl _, fun _ => ⟨rfl, Nat.le_refl _, box_lt HB.out, c, HB.out, by rw [Hln.out]; exact hst⟩⟩
theorem eqName_same (s : ByteArray) (f : Int) (w : World) : Calls Try.prog 54 #[.agg #[.string s, .int .i64 f], .agg #[.string s, .int .i64 f]] w fun e w' => e = .returned (.bool true) ∧ Below w.heap.size w w' := by
  have e1 : (!(s.toList == s.toList)) = false := by simp
  have e2 : (f != f) = false := by simp
  go_enter Try.func54, Try.ntmps54
  go_wp2
  go_ret
  exact ⟨rfl, ba2 _ _ _⟩
set_option maxHeartbeats 1000000 in
theorem eqNameS_same (a a' : Option Addr) (l : List Nm) (cap cap' : Nat) (w : World) (hn : l.length ≤ 9223372036854775807) (hc : Nms w a l) (hc' : Nms w a' l) :
    Calls Try.prog 22 #[.slice a l.length cap, .slice a' l.length cap'] w fun e w' => e = .returned (.bool true) ∧ Below w.heap.size w w' := by
  unfold Nms at hc hc'
  have Hc : Hid _ := hc
  have Hc' : Hid _ := hc'
  clear hc hc'
  generalize l.length = n at *
  go_enter Try.func22, Try.ntmps22
  go_wp2
  go_loopw [5] (fun i wr => ∃ (k : Nat), k ≤ n ∧ i = .int .i64 k ∧ Below w.heap.size w wr) (fun i _ => n - (intOf i).toNat)
  case atStart => exact ⟨0, Nat.zero_le _, rfl, Below.refl _ _⟩
  case round =>
    obtain ⟨k, hk, rfl, hb⟩ := hrel
    by_cases hlt : k < n
    · obtain ⟨b, off, rfl, hcell⟩ := Hc.out (by omega)
      obtain ⟨b', off', rfl, hcell'⟩ := Hc'.out (by omega)
      obtain ⟨k0, k1⟩ := (hcell k hlt).below hb
      obtain ⟨k0', k1'⟩ := (hcell' k hlt).below hb
      clear hcell hcell' Hc Hc'
      have hlt' : (k : Int) < (n : Int) := by omega
      generalize (gm l k).nm = s at k0 k0'
      generalize (gm l k).fl = f at k1 k1'
      have cE := fun W => eqName_same s f W
      have SB : Hid (∀ W, Below wr.heap.size wr W → W.cell? ⟨b, off + k * 2, none⟩ = some (.string s) ∧ W.cell? ⟨b, off + k * 2 + 1, none⟩ = some (.int .i64 f) ∧ W.cell? ⟨b', off' + k * 2, none⟩ = some (.string s) ∧ W.cell? ⟨b', off' + k * 2 + 1, none⟩ = some (.int .i64 f) ∧ Below wr.heap.size wr W) := fun W g => ⟨cell_on k0 g, cell_on k1 g, cell_on k0' g, cell_on k1' g, g⟩
      clear k0 k1 k0' k1'
      go_wp2
      go_region_held3 (fun W => W.cell? ⟨b, off + k * 2, none⟩ = some (.string s) ∧ W.cell? ⟨b, off + k * 2 + 1, none⟩ = some (.int .i64 f) ∧ W.cell? ⟨b', off' + k * 2, none⟩ = some (.string s) ∧ W.cell? ⟨b', off' + k * 2 + 1, none⟩ = some (.int .i64 f) ∧ Below wr.heap.size wr W)
        ((refine SB.out _ ?_; first | assumption | exact Below.drew (Below.refl _ _)))
        (first
        | (go_at_call 54; obtain ⟨-, -, -, -, hw0⟩ := ‹_ ∧ _ ∧ _ ∧ _ ∧ Below wr.heap.size wr _›; refine (cE _).mono ?_; rintro e w1 ⟨rfl, g1⟩; have g2 := Below.comp hw0 g1))
      all_goals go_wp2
      go_roundw
      case rel => exact ⟨k + 1, by omega, by go_num, Below.comp hb (by assumption)⟩
      case measure => simp [intOf]; omega
    · go_wp2
      go_ret
      exact ⟨rfl, hb⟩
/-- How many bytes the first names have. -/
def by_ (l : List Nm) : Nat → Nat
  | 0 => 0
  | k + 1 => by_ l k + (gm l k).nm.size
theorem by_le {l : List Nm} {i k : Nat} (h : i < k) : (gm l i).nm.size ≤ by_ l k := by
  induction k with
  | zero => omega
  | succ k ih =>
    rw [by_]
    by_cases e : i = k
    · subst e; omega
    · have := ih (by omega); omega
theorem szName_any (s : ByteArray) (f : Int) (left : Int) (w : World) (hs : s.size ≤ 9223372036854775807) (h0 : 0 ≤ left) (h1 : left ≤ 1048576) :
    Calls Try.prog 7 #[.agg #[.string s, .int .i64 f], .int .i64 left] w fun e w' => e = .returned (.int .i64 (if left - s.size < 0 then -1 else left - s.size)) ∧ Below w.heap.size w w' := by
  have e1 : IntKind.i64.wrap (left - (s.size : Int)) = left - s.size := wrapI (by omega) (by omega)
  by_cases h : left - (s.size : Int) < 0
  · rw [if_pos h]
    go_enter Try.func7, Try.ntmps7
    go_wp2
    go_ret
    exact ⟨rfl, below_alloc _ _⟩
  · rw [if_neg h]
    go_enter Try.func7, Try.ntmps7
    go_wp2
    go_ret
    exact ⟨by simp, below_alloc _ _⟩
theorem szNameS_any (a : Option Addr) (l : List Nm) (cap : Nat) (left : Int) (w : World) (hn : l.length ≤ 9223372036854775807) (hnk : ∀ i, i < l.length → (gm l i).nm.size ≤ 9223372036854775807) (hc : Nms w a l) (h0 : 0 ≤ left) (h1 : left ≤ 1048576) :
    Calls Try.prog 17 #[.slice a l.length cap, .int .i64 left] w fun e w' => Below w.heap.size w w' ∧ ∃ r : Int, e = .returned (.int .i64 r) ∧ r ≤ left ∧ (r < 0 ∨ r + l.length + by_ l l.length ≤ left) := by
  unfold Nms at hc
  have Hc : Hid _ := hc
  clear hc
  generalize l.length = n at *
  have e1 : IntKind.i64.wrap (left - (n : Int)) = left - n := wrapI (by omega) (by omega)
  by_cases hl : left - (n : Int) < 0
  · go_enter Try.func17, Try.ntmps17
    go_wp2
    go_ret
    exact ⟨Below.refl _ _, -1, rfl, by omega, .inl (by omega)⟩
  · have hl' : 0 ≤ left - (n : Int) := by omega
    go_enter Try.func17, Try.ntmps17
    go_wp2
    go_loopw [1, 5] (fun lv i wr => ∃ (k : Nat) (q : Int), k ≤ n ∧ lv = .int .i64 q ∧ i = .int .i64 k ∧ 0 ≤ q ∧ q + by_ l k ≤ left - n ∧ Below w.heap.size w wr) (fun _ i _ => n - (intOf i).toNat)
    case atStart => exact ⟨0, left - n, Nat.zero_le _, rfl, rfl, hl', by simp [by_], Below.refl _ _⟩
    case round =>
      obtain ⟨k, q, hk, rfl, rfl, hq0, hq1, hb⟩ := hrel
      by_cases hlt : k < n
      · obtain ⟨b, off, rfl, hcell⟩ := Hc.out (by omega)
        obtain ⟨k0, k1⟩ := (hcell k hlt).below hb
        clear hcell Hc
        have hnk' := hnk k hlt
        have hbk : by_ l (k + 1) = by_ l k + (gm l k).nm.size := rfl
        generalize (gm l k).nm = s at k0 hnk' hbk
        generalize (gm l k).fl = f at k1
        have HQ : Hid _ := hbk
        clear hbk
        have cE := fun W => szName_any s f q W hnk' hq0 (by omega)
        by_cases hr : q - (s.size : Int) < 0
        · rw [if_pos hr] at cE
          go_wp2_with (go_at_call 7; refine (cE _).mono ?_; rintro e w1 ⟨rfl, b1⟩)
          go_ret
          exact ⟨Below.comp hb b1, -1, rfl, by omega, .inl (by omega)⟩
        · rw [if_neg hr] at cE
          obtain ⟨r, hr'⟩ : ∃ r, q - (s.size : Int) = r := ⟨_, rfl⟩
          rw [hr'] at cE hr
          have hr0 : 0 ≤ r := by omega
          have HR : Hid _ := hr'
          clear hr'
          go_wp2_with (go_at_call 7; refine (cE _).mono ?_; rintro e w1 ⟨rfl, b1⟩)
          go_roundw
          case rel => exact ⟨k + 1, r, by omega, rfl, by go_num, by omega, by have := HQ.out; have := HR.out; omega, Below.comp hb b1⟩
          case measure => simp [intOf]; omega
      · go_wp2
        go_ret
        have hkn : k = n := by omega
        subst hkn
        exact ⟨hb, q, rfl, by omega, .inr (by omega)⟩
end Go.Proofs.Ytfmgaenedkjmkaa
