import Derived.Test.YtdbmdblghlfjfaaB1
/- What the laws do with rows of pieces: copy, compare, mark, hold. -/
namespace Go.Proofs.Ytdbmdblghlfjfaa
open Go.ChangeShapes Go.WideShapes Go.ChangeAt Go.RowKit
set_option linter.unusedVariables false
open Mp

attribute [local go_sem] Oper.semAt_some

theorem cells4 {w : World} {b k n : Nat} {c : Array Value} {e : TypeId} (h : w.heap[b]? = some (.cells c e (0, 0))) (hc : n * 4 ≤ c.size) (hk : k < n) :
    (∃ v, w.cell? ⟨b, k * 4, none⟩ = some v) ∧ (∃ v, w.cell? ⟨b, k * 4 + 1, none⟩ = some v) ∧ (∃ v, w.cell? ⟨b, k * 4 + 2, none⟩ = some v) ∧ (∃ v, w.cell? ⟨b, k * 4 + 3, none⟩ = some v) ∧ w.frozen? ⟨b, k * 4, none⟩ = false ∧ w.frozen? ⟨b, k * 4 + 1, none⟩ = false ∧ w.frozen? ⟨b, k * 4 + 2, none⟩ = false ∧ w.frozen? ⟨b, k * 4 + 3, none⟩ = false := by
  have hx : ∀ i, i < c.size → ∃ v, w.cell? ⟨b, i, none⟩ = some v := fun i hi => ⟨c[i], cell_of_block h (by simp [hi])⟩
  exact ⟨hx _ (by omega), hx _ (by omega), hx _ (by omega), hx _ (by omega), free_of_block h, free_of_block h, free_of_block h, free_of_block h⟩
set_option maxHeartbeats 1000000 in
theorem toPieceS_any (a : Option Addr) (n cap : Nat) (g : Nat → Pc) (w : World) (hn : n ≤ 1048576) (hc : RowP w a n g) :
    Calls Try.prog 42 #[.slice a n cap] w fun e w' => Below w.heap.size w w' ∧ ∃ a', e = .returned (.slice a' n n) ∧ MineP w' w.heap.size w'.heap.size a' n g := by
  have hmk := make_any (P := Try.prog) 27 40 _ 4 32 Try.underlying27 info40 .i64 .i64 n (by omega) (by omega)
  go_enter Try.func42, Try.ntmps42
  go_wp2
  go_loopw [4] (fun i wr => ∃ (k : Nat) (c : Array Value), k ≤ n ∧ i = .int .i64 k ∧ wr.heap[w.heap.size]? = some (.cells c 40 (0, 0)) ∧ c.size = n * 4 ∧ pcsN k g c ∧ Below w.heap.size w wr) (fun i _ => n - (intOf i).toNat)
  case atStart => exact ⟨0, _, Nat.zero_le _, rfl, heap_alloc_new w _, by simp [size_made], fun i hi => absurd hi (by simp), (Below.refl _ _).alloc (Nat.le_refl _) _⟩
  case round =>
    obtain ⟨k, c, hk, rfl, hB, hcs, hst, hb⟩ := hrel
    by_cases hlt : k < n
    · obtain ⟨b, off, rfl, hcell⟩ := (hc.below hb) (by omega)
      obtain ⟨k0, k1, k2, k3⟩ := hcell k hlt
      clear hcell hc
      have HB : Hid (wr.heap[w.heap.size]? = some (.cells c 40 (0, 0))) := hB
      clear hB
      generalize hx : g k = x at k0 k1 k2 k3
      have HX : Hid _ := hx
      clear hx
      obtain ⟨pf, pn, pa, pz⟩ := x
      simp only at k0 k1 k2 k3
      go_wp2_with (go_at_call 20; refine (toPiece_any ⟨pf, pn, pa, pz⟩ _).mono ?_; rintro e w1 ⟨rfl, b1⟩; have HB1 : Hid (w1.heap[w.heap.size]? = some (.cells c 40 (0, 0))) := box_on HB.out b1; obtain ⟨⟨v0, g0⟩, ⟨v1, g1⟩, ⟨v2, g2⟩, ⟨v3, g3⟩, f0, f1, f2, f3⟩ := cells4 HB1.out (n := n) (k := k) (by omega) hlt)
      go_roundw
      case rel => exact ⟨k + 1, _, by omega, by go_num, block_set (block_set (block_set (block_set HB1.out))), by simpa using hcs, pcsN_put (p := ⟨pf, pn, pa, pz⟩) hst (by omega) hlt HX.out, ((((Below.comp hb b1).setCell (by simp) _).setCell (by simp) _).setCell (by simp) _).setCell (by simp) _⟩
      case measure => simp [intOf]; omega
    · go_wp2
      go_ret
      have hkn : k = n := by omega
      subst hkn
      exact ⟨hb, _, rfl, .inr ⟨_, c, Nat.le_refl _, (Array.getElem?_eq_some_iff.1 hB).1, rfl, hB, hst⟩⟩

theorem eqPiece_any (p : Pc) (w : World) : Calls Try.prog 74 #[pv p, pv p] w fun e w' => e = .returned (.bool true) ∧ Below w.heap.size w w' := by
  obtain ⟨f, n, a, z⟩ := p
  have hz : (z != z) = false := by cases z <;> rfl
  go_enter Try.func74, Try.ntmps74
  go_wp2
  go_ret
  exact ⟨rfl, ba2 _ _ _⟩

set_option maxHeartbeats 1000000 in
/-- Two rows compared: they are the same ones. -/
theorem eqPieceS_same (a a' : Option Addr) (n cap cap' : Nat) (g : Nat → Pc) (w : World) (hn : n ≤ 9223372036854775807) (hc : RowP w a n g) (hc' : RowP w a' n g) :
    Calls Try.prog 46 #[.slice a n cap, .slice a' n cap'] w fun e w' => e = .returned (.bool true) ∧ Below w.heap.size w w' := by
  go_enter Try.func46, Try.ntmps46
  go_wp2
  go_loopw [5] (fun i wr => ∃ (k : Nat), k ≤ n ∧ i = .int .i64 k ∧ Below w.heap.size w wr) (fun i _ => n - (intOf i).toNat)
  case atStart => exact ⟨0, Nat.zero_le _, rfl, Below.refl _ _⟩
  case round =>
    obtain ⟨k, hk, rfl, hb⟩ := hrel
    by_cases hlt : k < n
    · obtain ⟨b, off, rfl, hcell⟩ := (hc.below hb) (by omega)
      obtain ⟨b', off', rfl, hcell'⟩ := (hc'.below hb) (by omega)
      obtain ⟨k0, k1, k2, k3⟩ := hcell k hlt
      obtain ⟨k0', k1', k2', k3'⟩ := hcell' k hlt
      have hlt' : (k : Int) < (n : Int) := by omega
      clear hcell hc hcell' hc'
      generalize g k = x at k0 k1 k2 k3 k0' k1' k2' k3'
      obtain ⟨pf, pn, pa, pz⟩ := x
      simp only at k0 k1 k2 k3 k0' k1' k2' k3'
      have SB : Hid (∀ W, Below wr.heap.size wr W → W.cell? ⟨b, off + k * 4, none⟩ = some (.int .i64 pf) ∧ W.cell? ⟨b, off + k * 4 + 1, none⟩ = some (.int .i64 pn) ∧ W.cell? ⟨b, off + k * 4 + 2, none⟩ = some (.int .i64 pa) ∧ W.cell? ⟨b, off + k * 4 + 3, none⟩ = some (.bool pz) ∧ W.cell? ⟨b', off' + k * 4, none⟩ = some (.int .i64 pf) ∧ W.cell? ⟨b', off' + k * 4 + 1, none⟩ = some (.int .i64 pn) ∧ W.cell? ⟨b', off' + k * 4 + 2, none⟩ = some (.int .i64 pa) ∧ W.cell? ⟨b', off' + k * 4 + 3, none⟩ = some (.bool pz) ∧ Below wr.heap.size wr W) := fun W g => ⟨cell_on k0 g, cell_on k1 g, cell_on k2 g, cell_on k3 g, cell_on k0' g, cell_on k1' g, cell_on k2' g, cell_on k3' g, g⟩
      clear k0 k1 k2 k3 k0' k1' k2' k3'
      go_wp2
      go_region_held3 (fun W => W.cell? ⟨b, off + k * 4, none⟩ = some (.int .i64 pf) ∧ W.cell? ⟨b, off + k * 4 + 1, none⟩ = some (.int .i64 pn) ∧ W.cell? ⟨b, off + k * 4 + 2, none⟩ = some (.int .i64 pa) ∧ W.cell? ⟨b, off + k * 4 + 3, none⟩ = some (.bool pz) ∧ W.cell? ⟨b', off' + k * 4, none⟩ = some (.int .i64 pf) ∧ W.cell? ⟨b', off' + k * 4 + 1, none⟩ = some (.int .i64 pn) ∧ W.cell? ⟨b', off' + k * 4 + 2, none⟩ = some (.int .i64 pa) ∧ W.cell? ⟨b', off' + k * 4 + 3, none⟩ = some (.bool pz) ∧ Below wr.heap.size wr W)
        ((refine SB.out _ ?_; first | assumption | exact Below.drew (Below.refl _ _)))
        (first
        | (go_at_call 74; obtain ⟨-, -, -, -, -, -, -, -, hw0⟩ := ‹_ ∧ _ ∧ _ ∧ _ ∧ _ ∧ _ ∧ _ ∧ _ ∧ Below wr.heap.size wr _›; refine (eqPiece_any ⟨pf, pn, pa, pz⟩ _).mono ?_; rintro e w1 ⟨rfl, g1⟩; have g2 := Below.comp hw0 g1))
      all_goals go_wp2
      go_roundw
      case rel => exact ⟨k + 1, by omega, by go_num, Below.comp hb (by assumption)⟩
      case measure => simp [intOf]; omega
    · go_wp2
      go_ret
      exact ⟨rfl, hb⟩

/-- The marks. -/
def mkp (k : Nat) : Nat → Pc := fun i => ⟨((k + i * 4 : Nat) : Int), ((k + i * 4 + 1 : Nat) : Int), ((k + i * 4 + 2 : Nat) : Int), ((k + i * 4 + 3 : Nat) : Int).tmod 3 == 0⟩
theorem szPieceS_any (a : Option Addr) (n cap : Nat) (left : Int) (w : World) (h0 : 0 ≤ left) (h1 : left ≤ 1048576) (hn : n ≤ 9223372036854775807) :
    Calls Try.prog 39 #[.slice a n cap, .int .i64 left] w fun e w' => e = .returned (.int .i64 (if left < n then -1 else left - n)) ∧ w' = w := by
  by_cases hl : left - n < 0
  · rw [if_pos (by omega)]
    go_enter Try.func39, Try.ntmps39
    go_wp2
    go_ret
    exact ⟨rfl, rfl⟩
  · rw [if_neg (by omega)]
    have hl' : 0 ≤ left - n := by omega
    go_enter Try.func39, Try.ntmps39
    go_wp2
    go_ret
    exact ⟨rfl, rfl⟩
end Go.Proofs.Ytdbmdblghlfjfaa
