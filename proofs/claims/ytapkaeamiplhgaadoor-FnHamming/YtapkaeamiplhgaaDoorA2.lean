import Derived.Test.YtapkaeamiplhgaaDoorA1
namespace Go.Proofs.YtapkaeamiplhgaaDoor
open Go.ChangeShapes Go.WideShapes Go.ChangeAt Go.RowKit
set_option linter.unusedVariables false
open Ham

/-- A variable of its own that holds a number. -/
def Box (w : World) (D : Nat) (x : Nat) : Prop := w.heap[D]? = some (.cells #[.int .i64 (x : Int)] 3 (0, 0))
theorem Box.cell {w : World} {D x : Nat} (h : Box w D x) : w.cell? ⟨D, 0, none⟩ = some (.int .i64 (x : Int)) := cell_of_block h rfl
theorem Box.free {w : World} {D x : Nat} (h : Box w D x) : w.frozen? ⟨D, 0, none⟩ = false := free_of_block h
theorem Box.set {w : World} {D x : Nat} (y : Nat) (h : Box w D x) : Box (w.setCell ⟨D, 0, none⟩ (.int .i64 (y : Int))) D y := block_set h
theorem Box.new (w : World) : Box (w.alloc (.cells #[.int .i64 0] 3)) w.heap.size 0 := heap_alloc_new _ _
theorem Box.low {w w' : World} {D x B : Nat} (h : Box w D x) (hb : Below B w w') (hD : D < B) : Box w' D x := (hb.block D hD).trans h
theorem Box.lt {w : World} {D x : Nat} (h : Box w D x) : D < w.heap.size := (Array.getElem?_eq_some_iff.1 h).1

theorem clo37 (D x k : Nat) (u : World) (hx : x < 16) (hk : k < 16) (h : Box u D x) :
    Calls Tryd.prog 29 #[.int .i64 (k : Int), .pointer (some ⟨D, 0, none⟩)] u fun e u' => e = .returned (.tuple #[]) ∧ u' = u.setCell ⟨D, 0, none⟩ (.int .i64 ((x ^^^ k : Nat) : Int)) := by
  have c := h.cell
  have f := h.free
  have hxo := bits_i64_xor (a := x) (b := k) (by omega) (by omega)
  clear h
  go_enter Tryd.func29, Tryd.ntmps29
  go_wp2
  go_end0
  exact ⟨rfl, rfl⟩
theorem clo38 (D x : Nat) (k : Int) (u : World) (hx : x < 1000) (h : Box u D x) :
    Calls Tryd.prog 30 #[.int .i64 k, .pointer (some ⟨D, 0, none⟩)] u fun e u' => e = .returned (.tuple #[]) ∧ u' = u.setCell ⟨D, 0, none⟩ (.int .i64 ((x + 1 : Nat) : Int)) := by
  have c := h.cell
  have f := h.free
  clear h
  go_enter Tryd.func30, Tryd.ntmps30
  go_wp2
  go_end0
  exact ⟨rfl, rfl⟩
theorem enters37 (args : Array Value) (u : World) : (callFunc 29 args).run Tryd.prog u = .ok (.enter 29 args) u := enters_of Tryd.func29 (by kernel_rfl) rfl args u
theorem enters38 (args : Array Value) (u : World) : (callFunc 30 args).run Tryd.prog u = .ok (.enter 30 args) u := enters_of Tryd.func30 (by kernel_rfl) rfl args u
theorem enters26 (args : Array Value) (u : World) : (callFunc 16 args).run Tryd.prog u = .ok (.enter 16 args) u := enters_of Tryd.func16 (by kernel_rfl) rfl args u
theorem enters28 (args : Array Value) (u : World) : (callFunc 18 args).run Tryd.prog u = .ok (.enter 18 args) u := enters_of Tryd.func18 (by kernel_rfl) rfl args u

theorem xor_any (n : Nat) (w : World) (hn : n < 9223372036854775808) :
    Calls Tryd.prog 17 #[.int .i64 (n : Int)] w fun e w' => e = .returned (.int .i64 (syn n : Nat)) ∧ Below w.heap.size w w' := by
  have b0 := Box.new w
  have c0 := b0.cell
  have f0 := b0.free
  have hmf : ∀ (fn : Fn) (first cap : Array Value) (w : World), (Instr.makeFunc fn first cap).run Tryd.prog w = .ok (.func fn first cap) w := fun _ _ _ _ => rfl
  obtain ⟨W0, hW0⟩ : ∃ W0, (w.alloc (.cells #[.int .i64 0] 3)).setCell ⟨w.heap.size, 0, none⟩ (.int .i64 0) = W0 := ⟨_, rfl⟩
  have b1 : Box W0 w.heap.size 0 := by rw [← hW0]; exact b0.set 0
  have g1 : Below w.heap.size w W0 := by rw [← hW0]; exact (below_alloc _ _).setCell (Nat.le_refl _) _
  clear b0
  go_enter Tryd.func17, Tryd.ntmps17
  go_wp2_with fail
  refine (each_any n 29 #[.pointer (some ⟨w.heap.size, 0, none⟩)] (fun k u => Box u w.heap.size (synF n k) ∧ Below w.heap.size w u) _ hn enters37 ⟨b1, g1⟩ ?_ ?_).mono ?_
  · intro k u hk hb h
    simp only [synF, hb, cond_false]
    exact h
  · intro k u hk hb h
    refine (clo37 w.heap.size (synF n k) k u (synF_lt n k (by omega)) (by omega) h.1).mono ?_
    rintro e u' ⟨rfl, rfl⟩
    have hs : synF n (k + 1) = synF n k ^^^ k := by simp only [synF, hb, cond_true]
    exact ⟨rfl, by rw [hs]; exact h.1.set _, h.2.setCell (Nat.le_refl _) _⟩
  rintro e w1 ⟨rfl, b2, g2⟩
  have c2 := b2.cell
  clear b2 c0 f0 hW0 b1 g1
  go_wp2
  go_ret
  exact ⟨rfl, g2⟩
theorem weight_any (n : Nat) (w : World) (hn : n < 9223372036854775808) :
    Calls Tryd.prog 19 #[.int .i64 (n : Int)] w fun e w' => e = .returned (.int .i64 (wt n : Nat)) ∧ Below w.heap.size w w' := by
  have b0 := Box.new w
  have c0 := b0.cell
  have f0 := b0.free
  have hmf : ∀ (fn : Fn) (first cap : Array Value) (w : World), (Instr.makeFunc fn first cap).run Tryd.prog w = .ok (.func fn first cap) w := fun _ _ _ _ => rfl
  obtain ⟨W0, hW0⟩ : ∃ W0, (w.alloc (.cells #[.int .i64 0] 3)).setCell ⟨w.heap.size, 0, none⟩ (.int .i64 0) = W0 := ⟨_, rfl⟩
  have b1 : Box W0 w.heap.size 0 := by rw [← hW0]; exact b0.set 0
  have g1 : Below w.heap.size w W0 := by rw [← hW0]; exact (below_alloc _ _).setCell (Nat.le_refl _) _
  clear b0
  go_enter Tryd.func19, Tryd.ntmps19
  go_wp2_with fail
  refine (each_any n 30 #[.pointer (some ⟨w.heap.size, 0, none⟩)] (fun k u => Box u w.heap.size (wtF n k) ∧ Below w.heap.size w u) _ hn enters38 ⟨b1, g1⟩ ?_ ?_).mono ?_
  · intro k u hk hb h
    simp only [wtF, hb, cond_false]
    exact h
  · intro k u hk hb h
    refine (clo38 w.heap.size (wtF n k) k u (by have := wtF_le n k; omega) h.1).mono ?_
    rintro e u' ⟨rfl, rfl⟩
    have hs : wtF n (k + 1) = wtF n k + 1 := by simp only [wtF, hb, cond_true]
    exact ⟨rfl, by rw [hs]; exact h.1.set _, h.2.setCell (Nat.le_refl _) _⟩
  rintro e w1 ⟨rfl, b2, g2⟩
  have c2 := b2.cell
  clear b2 c0 f0 hW0 b1 g1
  go_wp2
  go_ret
  exact ⟨rfl, g2⟩
theorem isWord_any (n : Int) (w : World) :
    Calls Tryd.prog 22 #[.int .i64 n] w fun e w' => e = .returned (.bool (decide (0 ≤ n ∧ n < 8192))) ∧ w' = w := by
  by_cases h1 : 0 ≤ n
  · by_cases h2 : n < 8192
    · go_enter Tryd.func22, Tryd.ntmps22
      go_wp2
      go_ret
      exact ⟨by simp [h1, h2], rfl⟩
    · go_enter Tryd.func22, Tryd.ntmps22
      go_wp2
      go_ret
      exact ⟨by simp [h2], rfl⟩
  · go_enter Tryd.func22, Tryd.ntmps22
    go_wp2
    go_ret
    have e : decide (0 ≤ n) = false := decide_eq_false (by omega)
    exact ⟨by rw [e]; rfl, rfl⟩

/-- The table's cells, as the program's text lays them. -/
def Tab (w : World) : Prop := ∀ k, k < 8 → w.cell? ⟨0, k, none⟩ = some (.int .i64 (place k : Nat))
theorem Tab.below {w w' : World} {n : Nat} (h : Tab w) (hb : Below n w w') (hn : 0 < n) : Tab w' := fun k hk => by rw [hb.cell hn]; exact h k hk
theorem Tab.pos {w : World} (h : Tab w) : 0 < w.heap.size := lt_of_cell (h 0 (by omega))
theorem Tab.on {w w' : World} (h : Tab w) (hb : Below w.heap.size w w') : Tab w' := h.below hb h.pos

theorem shl_one {k : Nat} (h : k < 62) : IntKind.i64.wrap ((2 : Int) ^ k) = ((2 ^ k : Nat) : Int) := by
  have := wrap_i64 (n := 2 ^ k) (Nat.lt_of_lt_of_le (Nat.pow_lt_pow_right (by omega) h) (by decide))
  simpa using this
theorem shl_any {x k : Nat} (h : x * 2 ^ k < 9223372036854775808) : IntKind.i64.wrap ((x : Int) * (2 : Int) ^ k) = ((x * 2 ^ k : Nat) : Int) := by
  have := wrap_i64 (n := x * 2 ^ k) h
  simpa using this

theorem clo26 (D x k : Nat) (u : World) (hx : x < 8192) (hk : k < 8) (ht : Tab u) (h : Box u D x) :
    Calls Tryd.prog 16 #[.int .i64 (k : Int), .pointer (some ⟨D, 0, none⟩)] u fun e u' => e = .returned (.tuple #[]) ∧ Box u' D (x ||| 2 ^ place k) ∧ Out D (D + 1) u u' := by
  have c := h.cell
  have f := h.free
  have ck := ht k hk
  have hk' : (k : Int) < 8 := by omega
  have hp := place_lt k
  have hq : 2 ^ place k < 8192 := Nat.pow_lt_pow_right (n := 13) (by omega) hp
  have hsh := shl_one (k := place k) (by omega)
  have hxo : bits .or .i64 (x : Int) ((2 : Int) ^ place k) = ((x ||| 2 ^ place k : Nat) : Int) := by
    have := bits_i64_or (a := x) (b := 2 ^ place k) (by omega) (by omega)
    simpa using this
  have HB : Hid _ := h
  generalize hz : place k = z at *
  clear h ht
  go_enter Tryd.func16, Tryd.ntmps16
  go_region
  go_end0
  exact ⟨rfl, Box.set _ HB.out, ((out_setCell u D 0 _).trans (Out.of_below (Below.refl _ _).drew))⟩

theorem clo28 (D x k : Nat) (u : World) (hx : x < 8192) (hk : k < 4) (h : Box u D x) :
    Calls Tryd.prog 18 #[.int .i64 (k : Int), .pointer (some ⟨D, 0, none⟩)] u fun e u' => e = .returned (.tuple #[]) ∧ Box u' D (x ||| 2 ^ 2 ^ k) ∧ Out D (D + 1) u u' := by
  have c := h.cell
  have f := h.free
  have HB : Hid _ := h
  have hx1 := bits_i64_or (a := x) (b := 2) (by omega) (by omega)
  have hx2 := bits_i64_or (a := x) (b := 4) (by omega) (by omega)
  have hx3 := bits_i64_or (a := x) (b := 16) (by omega) (by omega)
  have hx4 := bits_i64_or (a := x) (b := 256) (by omega) (by omega)
  clear h
  rcases (by omega : k = 0 ∨ k = 1 ∨ k = 2 ∨ k = 3) with rfl | rfl | rfl | rfl
  all_goals
    go_enter Tryd.func18, Tryd.ntmps18
    go_region
    go_end0
    first | rw [show bits .or .i64 (x : Int) 2 = _ from hx1] | rw [show bits .or .i64 (x : Int) 4 = _ from hx2] | rw [show bits .or .i64 (x : Int) 16 = _ from hx3] | rw [show bits .or .i64 (x : Int) 256 = _ from hx4]
    exact ⟨rfl, Box.set _ HB.out, ((out_setCell u D 0 _).trans (Out.of_below (Below.refl _ _).drew))⟩
end Go.Proofs.YtapkaeamiplhgaaDoor
