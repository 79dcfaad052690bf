import Derived.Test.YtgapplfnlndckaaG2
/- spec.l6At, spec.l6List. -/
namespace Go.Proofs.Ytgapplfnlndckaa
open Go.ChangeShapes Go.WideShapes Go.ChangeAt Go.RowKit
set_option linter.unusedVariables false
open Room

attribute [local go_sem] Oper.semAt_some

/-- Where a block stands, or -1. -/
def atI (l : List Ex) (x : Ex) : Int := if l.idxOf x < l.length then (l.idxOf x : Nat) else -1
theorem atI_none {l : List Ex} {x : Ex} (h : ∀ i, i < l.length → gx l i ≠ x) : atI l x = -1 := by
  unfold atI
  rw [if_neg]
  intro h'
  have := List.getElem_idxOf h'
  exact h _ h' (by rw [gx_eq h']; exact this)
theorem atI_some {l : List Ex} {x : Ex} {k : Nat} (hk : k < l.length) (hx : gx l k = x) (h : ∀ i, i < k → gx l i ≠ x) : atI l x = (k : Nat) := by
  have e : l.idxOf x = k := by
    have hm : x ∈ l := by rw [← hx, gx_eq hk]; exact List.getElem_mem hk
    have h1 := List.idxOf_lt_length_of_mem hm
    have h2 := List.getElem_idxOf h1
    rcases Nat.lt_trichotomy (l.idxOf x) k with hlt | heq | hgt
    · exact absurd (by rw [gx_eq h1]; exact h2) (h _ hlt)
    · exact heq
    · exfalso
      have := List.not_of_lt_findIdx (p := fun y => y == x) (xs := l) (i := k) (by simpa [List.idxOf] using hgt)
      rw [gx_eq hk] at hx
      simp [hx] at this
  unfold atI
  rw [if_pos (by omega), e]
theorem atI_mem {l : List Ex} {x : Ex} : 0 ≤ atI l x ↔ x ∈ l := by
  unfold atI
  rw [← List.idxOf_lt_length_iff]
  split
  · rename_i h; exact ⟨fun _ => h, fun _ => by omega⟩
  · rename_i h; exact ⟨fun h' => absurd h' (by omega), fun h' => absurd h' h⟩

set_option maxHeartbeats 1000000 in
theorem l6At_any (a : Option Addr) (ca : Nat) (l : List Ex) (x : Ex) (w : World) (hn : l.length ≤ 1048576) (ha : Exs w a l) :
    Calls Try.prog 37 #[.slice a l.length ca, xv x] w fun e w' => e = .returned (.int .i64 (atI l x)) ∧ Below w.heap.size w w' := by
  obtain ⟨p, q⟩ := x
  obtain ⟨D, hD⟩ : ∃ D, w.heap.size = D := ⟨_, rfl⟩
  obtain ⟨W0, hW0⟩ : ∃ W0, w.alloc (.cells #[.int .i64 p, .int .i64 q] 43) = W0 := ⟨_, rfl⟩
  have g0 : Below w.heap.size w W0 := by subst hW0; exact below_alloc _ _
  have HB : Hid (W0.heap[D]? = some (.cells #[.int .i64 p, .int .i64 q] 43 (0, 0))) := by subst hW0 hD; exact al1 _ _
  go_enter Try.func37, Try.ntmps37
  go_wp2
  go_loopw [9] (fun i wr => ∃ (k : Nat), k ≤ l.length ∧ i = .int .i64 k ∧ (∀ j, j < k → gx l j ≠ (p, q)) ∧ Below W0.heap.size W0 wr) (fun i _ => l.length - (intOf i).toNat)
  case atStart => exact ⟨0, Nat.zero_le _, rfl, fun j hj => absurd hj (by omega), Below.refl _ _⟩
  case round =>
    obtain ⟨k, hk, rfl, hno, hb⟩ := hrel
    have hb' := Below.comp g0 hb
    by_cases hlt : k < l.length
    · obtain ⟨b, off, rfl, hcell⟩ := (ha.below hb') (by omega)
      obtain ⟨k0, k1⟩ := hcell k hlt
      have hlt' : (k : Int) < (l.length : Int) := by omega
      obtain ⟨y, hy⟩ : ∃ y, gx l k = y := ⟨_, rfl⟩
      rw [hy] at k0 k1
      have HY : Hid _ := hy
      clear hcell hy
      obtain ⟨u, v⟩ := y
      simp only at k0 k1
      obtain ⟨i0, i1, -, -⟩ := box2_cells (box_on (box_on HB.out hb) (below_alloc wr (.cells #[.int .i64 u, .int .i64 v] 43)))
      by_cases he : ((u, v) : Ex) = (p, q)
      · have hu : u = p := congrArg Prod.fst he
        have hv : v = q := congrArg Prod.snd he
        subst hu hv
        go_wp2
        go_ret
        have hR : Below w.heap.size w (wr.alloc (.cells #[.int .i64 u, .int .i64 v] 43)) := Below.comp hb' (below_alloc _ _)
        refine ⟨?_, by first | exact hR | exact hD ▸ hR⟩
        rw [atI_some hlt HY.out hno]
        rfl
      · have heb : (decide (u = p) && decide (v = q)) = false := by
          cases h : (decide (u = p) && decide (v = q))
          · rfl
          · simp only [Bool.and_eq_true, decide_eq_true_eq] at h
            exact absurd (Prod.ext h.1 h.2) he
        have heq : ∀ W, (binOp .eql 43 (.agg #[.int .i64 u, .int .i64 v]) (.agg #[.int .i64 p, .int .i64 q])).run Try.prog W = .ok (.bool false) W := fun W => by rw [eqlA, decide_eq_false he]
        have Hno : Hid (∀ j, j < k → gx l j ≠ (p, q)) := hno
        have Hhe : Hid _ := he
        clear heb he hno
        go_wp2
        go_roundw
        case rel =>
          refine ⟨k + 1, by omega, by go_num, fun j hj => ?_, Below.comp hb (below_alloc _ _)⟩
          rcases Nat.lt_succ_iff_lt_or_eq.1 hj with h | h
          · exact Hno.out j h
          · subst h; rw [HY.out]; exact Hhe.out
        case measure => simp [intOf]; omega
    · have hkn : k = l.length := by omega
      subst hkn
      go_wp2
      go_ret
      refine ⟨?_, by first | exact hb' | exact hD ▸ hb'⟩
      rw [atI_none hno]
      rfl
end Go.Proofs.Ytgapplfnlndckaa
