import Derived.Test.YtjalhfpjiakhoaaRows
import Derived.WalkKit
import Derived.ProofKit
import Derived.OpenShut
import Derived.Below
namespace Go.Proofs.Ytjalhfpjiakhoaa
open Go.ChangeShapes Go.WideShapes Go.ChangeAt Go.RowKit
set_option linter.unusedVariables false

/-- A slice value that can be read: its length, and where its cells lie. -/
def At (w : World) (a : Option Addr) (n : Nat) (f : Nat → Value) : Prop :=
  n ≠ 0 → ∃ b off, a = some ⟨b, off, none⟩ ∧ ∀ i, i < n → w.cell? ⟨b, off + i, none⟩ = some (f i)

set_option maxHeartbeats 400000 in
theorem szStringS_any (a : Option Addr) (n cap : Nat) (S : Nat → ByteArray) (left : Int) (w : World) (h0 : 0 ≤ left) (h1 : left ≤ 1048576)
    (hn : n ≤ 9223372036854775807) (hc : At w a n fun i => .string (S i)) (hs : ∀ i, i < n → (S i).size ≤ 9223372036854775807) :
    Calls Try.prog 53 #[.slice a n cap, .int .i64 left] w fun e w' => w' = w ∧ ∃ r : Int, e = .returned (.int .i64 r) ∧ -1 ≤ r ∧ r ≤ left ∧ (0 ≤ r → (n : Int) ≤ left) := by
  by_cases hl : left - n < 0
  · go_enter Try.func53, Try.ntmps53
    go_wp2
    go_ret
    exact ⟨rfl, -1, rfl, by omega, by omega, by omega⟩
  · have hl' : 0 ≤ left - n := by omega
    go_enter Try.func53, Try.ntmps53
    go_wp2
    go_loop [1, 5] (fun l i => ∃ (k : Nat) (q : Int), k ≤ n ∧ i = .int .i64 k ∧ l = .int .i64 q ∧ 0 ≤ q ∧ q ≤ left - n) (fun _ i => n - (intOf i).toNat)
    case atStart => exact ⟨0, _, Nat.zero_le _, rfl, rfl, hl', by omega⟩
    case round =>
      obtain ⟨k, q, hk, rfl, rfl, hq, hq'⟩ := hrel
      by_cases hlt : k < n
      · obtain ⟨b, off, rfl, hcell⟩ := hc (by omega)
        have hck := hcell k hlt
        have hsk := hs k hlt
        clear hcell hs hc
        by_cases hx : q - (S k).size < 0
        · go_wp2
          go_ret
          exact ⟨rfl, -1, rfl, by omega, by omega, by omega⟩
        · have hx' : 0 ≤ q - (S k).size := by omega
          go_wp2
          go_round
          case rel => exact ⟨k + 1, _, by omega, by go_num, rfl, hx', by omega⟩
          case measure => simp [intOf]; omega
      · go_wp2
        go_ret
        exact ⟨rfl, q, rfl, by omega, by omega, by omega⟩
end Go.Proofs.Ytjalhfpjiakhoaa
