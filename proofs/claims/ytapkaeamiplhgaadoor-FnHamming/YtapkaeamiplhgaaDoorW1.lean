import Derived.Test.YtapkaeamiplhgaaDoorA7
namespace Go.Proofs.YtapkaeamiplhgaaDoor
open Go.ChangeShapes Go.WideShapes Go.ChangeAt Go.RowKit
set_option linter.unusedVariables false
open Ham

def hwN (n : Int) : Int := if 0 ≤ n ∧ n < 8192 then ((wt n.toNat : Nat) : Int) else 0
theorem hw_in {n : Nat} (h : n < 8192) : hdB (n : Int) = true ∧ hwN (n : Int) = ((wt n : Nat) : Int) := by
  have h' : 0 ≤ (n : Int) ∧ (n : Int) < 8192 := by omega
  unfold hdB hwN
  rw [decide_eq_true h', if_pos h', Int.toNat_natCast]; exact ⟨rfl, rfl⟩
theorem hw_out {n : Int} (h : ¬ (0 ≤ n ∧ n < 8192)) : hdB n = false ∧ hwN n = 0 := by
  unfold hdB hwN
  rw [decide_eq_false h, if_neg h]; exact ⟨rfl, rfl⟩
theorem wtG_zero : ∀ f, wtG f 0 = 0
  | 0 => rfl
  | f + 1 => by simp [wtG, wtG_zero f]
set_option maxHeartbeats 400000 in
theorem l4Weight_any (n : Nat) (w : World) (hn : n < 8192) :
    Calls Tryd.prog 27 #[.int .i64 (n : Int)] w fun e w' => e = .returned (.int .i64 (wt n : Nat)) ∧ w' = w := by
  have hfin := wtG_wt n
  go_enter Tryd.func27, Tryd.ntmps27
  go_wp2
  go_loop [0, 3] (fun x c => ∃ (f y q : Nat), f ≤ 13 ∧ y < 2 ^ f ∧ x = .int .i64 (y : Int) ∧ c = .int .i64 (q : Int) ∧ q + f ≤ 13 ∧ Hid (q + wtG f y = wtG 13 n)) (fun x _ => (intOf x).toNat)
  case atStart => exact ⟨13, n, 0, by omega, hn, rfl, rfl, by omega, Nat.zero_add _⟩
  case round =>
    obtain ⟨f, y, q, hf, hy, rfl, rfl, hq, HS⟩ := hrel
    have hy2 : y < 8192 := Nat.lt_of_lt_of_le hy (Nat.pow_le_pow_right (n := 2) (j := 13) (by omega) hf)
    by_cases hz : y = 0
    · subst hz
      have hs := HS.out
      rw [wtG_zero, Nat.add_zero, hfin] at hs
      go_wp2
      go_ret
      exact ⟨by rw [← hs]; rfl, rfl⟩
    · have hz' : (0 : Int) < (y : Int) := by omega
      have hf0 : f ≠ 0 := fun e => hz (by rw [e] at hy; simpa using hy)
      obtain ⟨f', rfl⟩ : ∃ f', f = f' + 1 := ⟨f - 1, by omega⟩
      have hyd : y / 2 < 2 ^ f' := by rw [Nat.pow_succ] at hy; omega
      have hand : bits .and .i64 (y : Int) 1 = ((y % 2 : Nat) : Int) := by
        have := bits_i64_and (a := y) (b := 1) (by omega) (by omega)
        rw [Nat.and_one_is_mod] at this
        exact this
      have HS' : Hid (q + y % 2 + wtG f' (y / 2) = wtG 13 n) := by
        have := HS.out
        show q + y % 2 + wtG f' (y / 2) = wtG 13 n
        rw [← this]; simp only [wtG]; omega
      have hm : y % 2 < 2 := Nat.mod_lt _ (by omega)
      generalize hb : y % 2 = b at *
      go_wp2
      go_round
      case rel => exact ⟨f', y / 2, q + b, by omega, hyd, by go_num, by go_num, by omega, HS'⟩
      case measure => simp [intOf]; omega
theorem implHW_any (n : Int) (w : World) :
    Calls Tryd.prog 12 #[.int .i64 n] w fun e w' => e = .returned (.tuple #[.int .i64 (hwN n), .bool (hdB n)]) ∧ Below w.heap.size w w' := by
  have hin := isWord_any n w
  by_cases h : 0 ≤ n ∧ n < 8192
  · obtain ⟨m, rfl⟩ : ∃ m : Nat, n = (m : Int) := ⟨n.toNat, by omega⟩
    have hm : m < 8192 := by omega
    rw [(hw_in hm).1, (hw_in hm).2]
    rw [decide_eq_true h] at hin
    clear h
    go_enter Tryd.func12, Tryd.ntmps12
    go_wp2_with fail
    refine hin.mono ?_
    rintro e w1 ⟨rfl, rfl⟩
    go_wp2_with fail
    refine (weight_any m _ (by omega)).mono ?_
    rintro e w2 ⟨rfl, g⟩
    go_wp2
    go_ret2
    exact ⟨rfl, g⟩
  · rw [(hw_out h).1, (hw_out h).2]
    rw [decide_eq_false h] at hin
    clear h
    go_enter Tryd.func12, Tryd.ntmps12
    go_wp2_with fail
    refine hin.mono ?_
    rintro e w1 ⟨rfl, rfl⟩
    go_wp2
    go_ret2
    exact ⟨rfl, Below.refl _ _⟩
theorem specHW_any (n : Int) (w : World) :
    Calls Tryd.prog 13 #[.int .i64 n] w fun e w' => e = .returned (.tuple #[.int .i64 (hwN n), .bool (hdB n)]) ∧ w' = w := by
  have hin := l4Word_any n w
  by_cases h : 0 ≤ n ∧ n < 8192
  · obtain ⟨m, rfl⟩ : ∃ m : Nat, n = (m : Int) := ⟨n.toNat, by omega⟩
    have hm : m < 8192 := by omega
    rw [(hw_in hm).1] at hin
    rw [(hw_in hm).1, (hw_in hm).2]
    clear h
    go_enter Tryd.func13, Tryd.ntmps13
    go_wp2_with fail
    refine hin.mono ?_
    rintro e w1 ⟨rfl, rfl⟩
    go_wp2_with fail
    refine (l4Weight_any m _ hm).mono ?_
    rintro e w2 ⟨rfl, rfl⟩
    go_wp2
    go_ret2
    exact ⟨rfl, rfl⟩
  · rw [(hw_out h).1] at hin
    rw [(hw_out h).1, (hw_out h).2]
    clear h
    go_enter Tryd.func13, Tryd.ntmps13
    go_wp2_with fail
    refine hin.mono ?_
    rintro e w1 ⟨rfl, rfl⟩
    go_wp2
    go_ret2
    exact ⟨rfl, rfl⟩
/-- The two answers of HamDistance. -/
def diB (a b : Int) : Bool := decide ((0 ≤ a ∧ a < 8192) ∧ 0 ≤ b ∧ b < 8192)
def diN (a b : Int) : Int := if (0 ≤ a ∧ a < 8192) ∧ 0 ≤ b ∧ b < 8192 then ((wt (a.toNat ^^^ b.toNat) : Nat) : Int) else 0
theorem di_in {a b : Nat} (h : a < 8192) (h' : b < 8192) : diB (a : Int) (b : Int) = true ∧ diN (a : Int) (b : Int) = ((wt (a ^^^ b) : Nat) : Int) := by
  have q : (0 ≤ (a : Int) ∧ (a : Int) < 8192) ∧ 0 ≤ (b : Int) ∧ (b : Int) < 8192 := by omega
  unfold diB diN
  rw [decide_eq_true q, if_pos q, Int.toNat_natCast, Int.toNat_natCast]; exact ⟨rfl, rfl⟩
theorem di_out {a b : Int} (h : ¬ ((0 ≤ a ∧ a < 8192) ∧ 0 ≤ b ∧ b < 8192)) : diB a b = false ∧ diN a b = 0 := by
  unfold diB diN
  rw [decide_eq_false h, if_neg h]; exact ⟨rfl, rfl⟩
theorem implDi_any (a b : Int) (w : World) :
    Calls Tryd.prog 9 #[.int .i64 a, .int .i64 b] w fun e w' => e = .returned (.tuple #[.int .i64 (diN a b), .bool (diB a b)]) ∧ Below w.heap.size w w' := by
  have ha := isWord_any a w
  have hb := isWord_any b w
  by_cases h1 : 0 ≤ a ∧ a < 8192
  · rw [decide_eq_true h1] at ha
    by_cases h2 : 0 ≤ b ∧ b < 8192
    · rw [decide_eq_true h2] at hb
      obtain ⟨m, rfl⟩ : ∃ m : Nat, a = (m : Int) := ⟨a.toNat, by omega⟩
      obtain ⟨k, rfl⟩ : ∃ k : Nat, b = (k : Int) := ⟨b.toNat, by omega⟩
      have hm : m < 8192 := by omega
      have hk : k < 8192 := by omega
      have hx := bits_i64_xor (a := m) (b := k) (by omega) (by omega)
      have hxl : m ^^^ k < 8192 := Nat.xor_lt_two_pow (n := 13) hm hk
      rw [(di_in hm hk).1, (di_in hm hk).2]
      clear h1 h2
      go_enter Tryd.func9, Tryd.ntmps9
      go_wp2_with fail
      refine ha.mono ?_
      rintro e w1 ⟨rfl, rfl⟩
      go_wp2_with fail
      refine hb.mono ?_
      rintro e w1 ⟨rfl, rfl⟩
      go_wp2_with fail
      refine (weight_any (m ^^^ k) _ (by omega)).mono ?_
      rintro e w2 ⟨rfl, g⟩
      go_wp2
      go_ret2
      exact ⟨rfl, g⟩
    · rw [decide_eq_false h2] at hb
      rw [(di_out fun q => h2 q.2).1, (di_out fun q => h2 q.2).2]
      clear h1 h2
      go_enter Tryd.func9, Tryd.ntmps9
      go_wp2_with fail
      refine ha.mono ?_
      rintro e w1 ⟨rfl, rfl⟩
      go_wp2_with fail
      refine hb.mono ?_
      rintro e w1 ⟨rfl, rfl⟩
      go_wp2
      go_ret2
      exact ⟨rfl, Below.refl _ _⟩
  · rw [decide_eq_false h1] at ha
    rw [(di_out fun q => h1 q.1).1, (di_out fun q => h1 q.1).2]
    clear h1
    go_enter Tryd.func9, Tryd.ntmps9
    go_wp2_with fail
    refine ha.mono ?_
    rintro e w1 ⟨rfl, rfl⟩
    go_wp2
    go_ret2
    exact ⟨rfl, Below.refl _ _⟩
end Go.Proofs.YtapkaeamiplhgaaDoor
