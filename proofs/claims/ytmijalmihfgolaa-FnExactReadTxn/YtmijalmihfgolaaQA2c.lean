import Derived.Test.YtmijalmihfgolaaO1
import Derived.Deep.QuietTactic
import Derived.BigQuiet
import Derived.Lib.QuietBelow
import Derived.Deep.RegionWith
namespace Go.Proofs.Ytmijalmihfgolaa
open Go.ChangeShapes Go.WideShapes Go.ChangeAt Go.RowKit
set_option linter.unusedVariables false
open Tx

attribute [local go_sem] Oper.semAt_some


def At2 (w : World) (a : Option Addr) (n : Nat) (T : Nat → Int) (U : Nat → ByteArray) : Prop :=
  n ≠ 0 → ∃ b off, a = some ⟨b, off, none⟩ ∧ ∀ i, i < n → w.cell? ⟨b, off + i * 2, none⟩ = some (.int .i64 (T i)) ∧ w.cell? ⟨b, off + i * 2 + 1, none⟩ = some (.string (U i))

theorem At2.below {w w' : World} {a : Option Addr} {n : Nat} {T : Nat → Int} {U : Nat → ByteArray} (h : At2 w a n T U) (hb : Below w.heap.size w w') : At2 w' a n T U := by
  intro hn
  obtain ⟨b, off, rfl, hc⟩ := h hn
  refine ⟨b, off, rfl, fun i hi => ?_⟩
  obtain ⟨h1, h2⟩ := hc i hi
  rw [hb.cell (p := ⟨b, off + i * 2, none⟩) (lt_of_cell h1), hb.cell (p := ⟨b, off + i * 2 + 1, none⟩) (lt_of_cell h1)]; exact ⟨h1, h2⟩

set_option maxHeartbeats 400000 in
theorem szWrite_any (t : Int) (u : ByteArray) (left : Int) (w : World) (h0 : 0 ≤ left) (h1 : left ≤ 1048576) (hs : u.size ≤ 9223372036854775807) :
    Calls Try.prog 28 #[.agg #[.int .i64 t, .string u], .int .i64 left] w fun e w' => Below w.heap.size w w' ∧ ∃ r : Int, e = .returned (.int .i64 r) ∧ -1 ≤ r ∧ r ≤ left := by
  by_cases hl : left - u.size < 0
  · go_enter Try.func28, Try.ntmps28
    go_wp2
    go_ret
    exact ⟨(Below.refl _ _).alloc (Nat.le_refl _) _, -1, rfl, by omega, by omega⟩
  · have hl' : 0 ≤ left - u.size := by omega
    go_enter Try.func28, Try.ntmps28
    go_wp2
    go_ret
    exact ⟨(Below.refl _ _).alloc (Nat.le_refl _) _, _, rfl, by omega, by omega⟩

set_option maxHeartbeats 400000 in
theorem szWriteS_any (a : Option Addr) (n cap : Nat) (T : Nat → Int) (U : Nat → ByteArray) (left : Int) (w : World) (h0 : 0 ≤ left) (h1 : left ≤ 1048576)
    (hn : n ≤ 9223372036854775807) (hc : At2 w a n T U) (hs : ∀ i, i < n → (U i).size ≤ 9223372036854775807) :
    Calls Try.prog 11 #[.slice a n cap, .int .i64 left] w fun e w' => Below w.heap.size w w' ∧ ∃ r : Int, e = .returned (.int .i64 r) ∧ -1 ≤ r ∧ r ≤ left ∧ (0 ≤ r → (n : Int) ≤ left) := by
  by_cases hl : left - n < 0
  · go_enter Try.func11, Try.ntmps11
    go_wp2
    go_ret
    exact ⟨Below.refl _ _, -1, rfl, by omega, by omega, by omega⟩
  · have hl' : 0 ≤ left - n := by omega
    go_enter Try.func11, Try.ntmps11
    go_wp2
    go_loopw [1, 5] (fun l i wr => ∃ (k : Nat) (q : Int), k ≤ n ∧ i = .int .i64 k ∧ l = .int .i64 q ∧ 0 ≤ q ∧ q ≤ left - n ∧ Below w.heap.size w wr) (fun _ i _ => n - (intOf i).toNat)
    case atStart => exact ⟨0, _, Nat.zero_le _, rfl, rfl, hl', by omega, Below.refl _ _⟩
    case round =>
      obtain ⟨k, q, hk, rfl, rfl, hq, hq', hb⟩ := hrel
      by_cases hlt : k < n
      · obtain ⟨b, off, rfl, hcell⟩ := (hc.below hb) (by omega)
        obtain ⟨hck, hck2⟩ := hcell k hlt
        have hsk := hs k hlt
        clear hcell hs hc
        go_wp2_with (go_at_call 28; refine (szWrite_any _ _ _ _ (by omega) (by omega) hsk).mono ?_; rintro e w1 ⟨hb1, r, rfl, hr1, hr2⟩)
        · go_ret
          exact ⟨hb.trans (hb1.mono hb.size), -1, rfl, by omega, by omega, by omega⟩
        · go_roundw
          case rel => exact ⟨k + 1, _, by omega, by go_num, rfl, by omega, by omega, hb.trans (hb1.mono hb.size)⟩
          case measure => simp [intOf]; omega
      · go_wp2
        go_ret
        exact ⟨hb, q, rfl, by omega, by omega, by omega⟩
end Go.Proofs.Ytmijalmihfgolaa
