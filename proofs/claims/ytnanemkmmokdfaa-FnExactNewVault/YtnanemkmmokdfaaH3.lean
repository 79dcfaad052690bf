import Derived.Test.YtnanemkmmokdfaaH2
import Derived.Test.YtnanemkmmokdfaaJC
import Derived.Test.YtnanemkmmokdfaaT1
import Derived.Deep.RegionLaw
/- What FnRolled draws; a window rolled on. -/
namespace Go.Proofs.Ytnanemkmmokdfaa
open Go.ChangeShapes Go.WideShapes Go.ChangeAt Go.RowKit
set_option linter.unusedVariables false
open Hd

attribute [local go_sem] Oper.semAt_some

theorem conv1 (b : Nat) (x : Nat) (hx : x < 256) (W : World) (h : W.cell? ⟨b, 0, none⟩ = some (.int .u8 (x : Int))) : (convert 63 9 (.slice (some ⟨b, 0, none⟩) 1 1)).run Try.prog W = .ok (.string ⟨#[UInt8.ofNat x]⟩) W := by
  have := run_convert_bytes_back (P := Try.prog) W 63 9 5 ⟨b, 0, none⟩ 1 [UInt8.ofNat x] Try.underlying63 Try.underlying5 Try.underlying9 (fun j hj => by
      have hj' : j = 0 := by simpa using hj
      subst hj'
      have e : (⟨b, 0, none⟩ : Addr).add 0 = ⟨b, 0, none⟩ := by unfold Addr.add; split <;> simp_all
      rw [e, h]
      simp [Nat.mod_eq_of_lt hx])
  exact this
theorem among_any (D : Nat) (a : Option Addr) (n cap T : Nat) (b : Nat) (m : Nat) (l : List Int) (w : World) (hl : l.length = m) (h0 : 1 ≤ m) (h1 : m ≤ 100) (hn : n ≤ 9223372036854775807) (hT : T ≤ 999000) (hc : ∀ i, i < m → w.cell? ⟨b, i, none⟩ = some (iv (gi l i))) (hb : b ≠ D) (h : Cur w D a n cap T) :
    Calls Try.prog 77 #[.pointer (some ⟨D, 0, none⟩), .slice (some ⟨b, 0, none⟩) m m] w fun e w' => (∃ r : Nat, r < m ∧ e = .returned (.int .i64 (gi l r))) ∧ Out D (D + 1) w w' ∧ Cur w' D a n cap (T + 2) := by
  have HC : Hid (∀ i, i < m → w.cell? ⟨b, i, none⟩ = some (iv (gi l i))) := hc
  clear hc
  go_enter Try.func77, Try.ntmps77
  go_wp2_with fail
  refine (pick_any m D a n cap T _ h0 (by omega) hn (by omega) h).mono ?_
  rintro e w1 ⟨r, rfl, hr, o1, c1⟩
  have k0 : w1.cell? ⟨b, r, none⟩ = some (iv (gi l r)) := cell_out o1 (HC.out r hr) (by omega)
  have hr' : (r : Int) < (m : Int) := by omega
  generalize hg : gi l r = x at *
  have HX : Hid _ := hg
  clear hg
  go_wp2
  go_ret
  exact ⟨⟨r, hr, by rw [HX.out]; rfl⟩, o1, c1⟩
theorem drawRoll_any (a : Option Addr) (n cap : Nat) (S : Nat → Nat) (w : World) (hn : n ≤ 9223372036854775807) (hS : ∀ i, S i < 256) (h : At w a n (by' S)) :
    Calls Try.prog 47 #[.slice a n cap] w fun e w' => (∃ u : ByteArray, e = .returned (.string u) ∧ u.size ≤ 5) ∧ Below w.heap.size w w' := by
  obtain ⟨W0, hW0⟩ : ∃ W0, w.alloc (.cells #[.slice a n cap, .int .i64 0, .int .u64 0] 105) = W0 := ⟨_, rfl⟩
  have c0 : Cur W0 w.heap.size a n cap 0 := by rw [← hW0]; exact Cur.new hS h
  have b0 : Below w.heap.size w W0 := by rw [← hW0]; exact below_alloc _ _
  obtain ⟨W1, hW1⟩ : ∃ W1, W0.alloc (.cells #[.int .i64 4, .int .i64 4, .int .i64 4, .int .i64 3, .int .i64 5] 3) = W1 := ⟨_, rfl⟩
  have b1 : Below W0.heap.size W0 W1 := by rw [← hW1]; exact below_alloc _ _
  have c1 : Cur W1 w.heap.size a n cap 0 := c0.below b1
  have HK : W1.heap[W0.heap.size]? = some (.cells #[.int .i64 4, .int .i64 4, .int .i64 4, .int .i64 3, .int .i64 5] 3 (0, 0)) := by rw [← hW1]; exact al1 _ _
  have hc : ∀ i, i < 5 → W1.cell? ⟨W0.heap.size, i, none⟩ = some (iv (gi [4, 4, 4, 3, 5] i)) := fun i hi => by
    rcases (show i = 0 ∨ i = 1 ∨ i = 2 ∨ i = 3 ∨ i = 4 by omega) with rfl | rfl | rfl | rfl | rfl <;> exact cell_of_block HK rfl
  have hlt : w.heap.size < W0.heap.size := c0.lt
  have cA := among_any w.heap.size a n cap 0 W0.heap.size 5 [4, 4, 4, 3, 5] W1 rfl (by omega) (by omega) hn (by omega) hc (by omega) c1
  have b01 := Below.comp b0 b1
  clear h c0 c1 HK hc hlt
  go_enter Try.func47, Try.ntmps47
  go_wp2_with fail
  refine cA.mono ?_
  rintro e w2 ⟨⟨r, hr, rfl⟩, o2, c2⟩
  have hx : ∃ x : Nat, gi [4, 4, 4, 3, 5] r = (x : Int) ∧ x ≤ 5 := by
    rcases (show r = 0 ∨ r = 1 ∨ r = 2 ∨ r = 3 ∨ r = 4 by omega) with rfl | rfl | rfl | rfl | rfl
    · exact ⟨4, rfl, by omega⟩
    · exact ⟨4, rfl, by omega⟩
    · exact ⟨4, rfl, by omega⟩
    · exact ⟨3, rfl, by omega⟩
    · exact ⟨5, rfl, by omega⟩
  obtain ⟨x, hx1, hx2⟩ := hx
  rw [hx1]
  have b2 : Below w.heap.size w w2 := b01.trans (o2.below b01.size)
  clear hW0 hW1 hx1
  go_wp2_with fail
  refine (text_any x w.heap.size a n cap 2 _ (by omega) hn (by omega) c2).mono ?_
  rintro e w3 ⟨u, rfl, hu, o3, c3⟩
  go_wp2
  go_ret
  exact ⟨⟨u, rfl, by omega⟩, b2.trans (o3.below b2.size)⟩
theorem numberOf_any (a : Option Addr) (n cap : Nat) (S : Nat → Nat) (w : World) (hn : n ≤ 9223372036854775807) (hS : ∀ i, S i < 256) (h : At w a n (by' S)) :
    Calls Try.prog 48 #[.slice a n cap] w fun e w' => (∃ x : Nat, e = .returned (.int .i64 (x : Int)) ∧ x < 1000003) ∧ w' = w := by
  have HA : Hid (n ≠ 0 → ∃ b off, a = some ⟨b, off, none⟩ ∧ ∀ i, i < n → w.cell? ⟨b, off + i, none⟩ = some (.int .u8 (S i : Int))) := h
  clear h
  go_enter Try.func48, Try.ntmps48
  go_wp2
  go_loop [3, 8] (fun x i => ∃ k : Nat, k ≤ n ∧ i = .int .i64 k ∧ ∃ y : Nat, y < 1000003 ∧ x = .int .i64 (y : Int)) (fun _ i => n - (intOf i).toNat)
  case atStart => exact ⟨0, Nat.zero_le _, rfl, 0, by omega, rfl⟩
  case round =>
    obtain ⟨k, hk, rfl, y, hy, rfl⟩ := hrel
    by_cases hlt : k < n
    · obtain ⟨b, off, rfl, hc⟩ := HA.out (by omega)
      have k0 := hc k hlt
      have hs := hS k
      have hkn : (k : Int) < (n : Int) := by omega
      generalize S k = q at *
      clear hc
      go_wp2
      go_round
      case rel => exact ⟨k + 1, by omega, by go_num, (31 * y + q) % 1000003, Nat.mod_lt _ (by omega), by go_num⟩
      case measure => simp [intOf]; omega
    · go_wp2
      go_ret
      exact ⟨⟨y, rfl, hy⟩, rfl⟩
/-- A window rolled on by a byte. -/
theorem roll_win {s : ByteArray} (h : s.size = 4) (i : UInt8) : rh (s.extract 1 s.size ++ ⟨#[i]⟩) = ro (rh s) (s[0]'(by omega)).toNat i.toNat ∧ (s.extract 1 s.size ++ ⟨#[i]⟩).size = 4 := by
  obtain ⟨⟨l⟩⟩ := s
  match l, h with
  | [a, b, c, d], _ =>
    refine ⟨?_, rfl⟩
    have e1 : rh ⟨⟨[a, b, c, d]⟩⟩ = hs [a, b, c, d] := rfl
    have e2 : rh ((⟨⟨[a, b, c, d]⟩⟩ : ByteArray).extract 1 (⟨⟨[a, b, c, d]⟩⟩ : ByteArray).size ++ ⟨#[i]⟩) = hs [b, c, d, i] := rfl
    rw [e1, e2, hs_four, hs_four]
    exact (p4_roll _ _ _ _ _).symm
end Go.Proofs.Ytnanemkmmokdfaa
