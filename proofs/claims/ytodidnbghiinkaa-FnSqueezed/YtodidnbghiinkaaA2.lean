import Derived.Test.YtodidnbghiinkaaA1
/- Both sides: the longest stretch. -/
namespace Go.Proofs.Ytodidnbghiinkaa
open Go.ChangeShapes Go.WideShapes Go.ChangeAt Go.RowKit
set_option linter.unusedVariables false
open Tz

attribute [local go_sem] Oper.semAt_some

set_option maxHeartbeats 1000000 in
theorem implLong_yes (s : ByteArray) (a : Nat) (w : World) (hl : s.size ≤ 600) (ha : a ≤ s.size) :
    Calls Try.prog 14 #[.string s, .int .i64 (a : Int)] w fun e w' => e = .returned (.tuple #[.int .i64 ((lgA s a).1 : Nat), .int .i64 ((lgA s a).2 : Nat), .bool true]) ∧ Below w.heap.size w w' := by
  rw [lgA_impl]
  obtain ⟨R, hR⟩ : ∃ R : Nat × Nat, (if (lg s a 0 (min a 255)).2 < 3 then (0, 0) else lg s a 0 (min a 255)) = R := ⟨_, rfl⟩
  rw [hR]
  have HR : Hid _ := hR
  clear hR
  have HL0 : Hid (∀ k, lg s a 0 (k + 1) = if (lg s a 0 k).2 < alk s (a - (k + 1)) a then (k + 1, alk s (a - (k + 1)) a) else lg s a 0 k) := fun k => rfl
  have HL1 : Hid (∀ k, k ≤ a → (lg s a 0 k).2 ≤ 66) := fun k hk => by
    rcases lg_both s a k with ⟨h, -⟩ | ⟨-, h, -⟩
    · omega
    · obtain ⟨h1, -, -⟩ := lg_spec s a k
      rw [h] at h1
      rcases h1 with ⟨-, q⟩ | ⟨q1, q2, q3, q4⟩
      · omega
      · have := (alk_spec (s := s) (a := a - (lg s a 0 k).1) (b := a) (by omega) ha).1
        rw [← q4] at this; exact this
  have HL2 : Hid (∀ k, (lg s a 0 k).1 ≤ k) := fun k => by
    induction k with
    | zero => exact Nat.le_refl _
    | succ k ih => rw [lg]; split
                   · exact Nat.le_refl _
                   · omega
  have h600 : ¬ (600 : Int) < (s.size : Int) := by omega
  have hpos : ¬ (a : Int) < 0 := by omega
  have hsz : ¬ (s.size : Int) < (a : Int) := by omega
  go_enter Try.func14, Try.ntmps14
  go_wp2
  go_loopw [7, 8, 9] (fun dd ll ii wr => ∃ k : Nat, ii = .int .i64 ((k : Int) + 1) ∧ dd = .int .i64 ((lg s a 0 k).1 : Nat) ∧ ll = .int .i64 ((lg s a 0 k).2 : Nat) ∧ k ≤ a ∧ k ≤ 255 ∧ Below w.heap.size w wr) (fun _ _ ii _ => 256 - (intOf ii).toNat)
  case atStart => exact ⟨0, rfl, rfl, rfl, by omega, by omega, Below.refl _ _⟩
  case round =>
    obtain ⟨k, rfl, rfl, rfl, hka, hk, hbw⟩ := hrel
    have hL2 := HL1.out k hka
    have hL3 := HL2.out k
    have HN : Hid _ := HL0.out k
    by_cases c : k + 1 ≤ a ∧ k + 1 ≤ 255
    · have d1 : (k : Int) + 1 ≤ min (a : Int) 255 := by omega
      have w1 : IntKind.i64.wrap ((a : Int) - ((k : Int) + 1)) = ((a - (k + 1) : Nat) : Int) := by rw [wrapI (by omega) (by omega)]; omega
      have cA := fun W => alikeFrom_any s (a - (k + 1)) a W (by omega) ha (by omega)
      have hn := (alk_spec (s := s) (a := a - (k + 1)) (b := a) (by omega) ha).1
      clear HL0 HL1 HL2
      generalize a - (k + 1) = b at *
      generalize alk s b a = n at *
      obtain ⟨r, hr⟩ : ∃ r, lg s a 0 k = r := ⟨_, rfl⟩
      obtain ⟨q, hq⟩ : ∃ q, lg s a 0 (k + 1) = q := ⟨_, rfl⟩
      rw [hr] at hL2 hL3 HN ⊢
      rw [hq] at HN
      have HQ : Hid _ := hq
      clear hq hr
      obtain ⟨D, L⟩ := r
      simp only at hL2 hL3 HN ⊢
      by_cases e : L < n
      · have e1 : (L : Int) < (n : Int) := by omega
        have hq : q = (k + 1, n) := by rw [HN.out, if_pos e]
        subst hq
        clear HN
        go_wp2_with (go_at_call 40; refine (cA _).mono ?_; rintro e w1 ⟨rfl, b1⟩)
        go_roundw
        case rel => exact ⟨k + 1, by go_num, by rw [HQ.out]; go_num, by rw [HQ.out], by omega, by omega, hbw.trans (b1.mono hbw.size)⟩
        case measure => simp [intOf]; omega
      · have e1 : ¬ (L : Int) < (n : Int) := by omega
        have hq : q = (D, L) := by rw [HN.out, if_neg e]
        subst hq
        clear HN
        go_wp2_with (go_at_call 40; refine (cA _).mono ?_; rintro e w1 ⟨rfl, b1⟩)
        go_roundw
        case rel => exact ⟨k + 1, by go_num, by rw [HQ.out], by rw [HQ.out], by omega, by omega, hbw.trans (b1.mono hbw.size)⟩
        case measure => simp [intOf]; omega
    · have d1 : ¬ (k : Int) + 1 ≤ min (a : Int) 255 := by omega
      have hk' : min a 255 = k := by omega
      have HR' := HR.out
      rw [hk'] at HR'
      clear HL0 HL1 HL2 HN hk' HR
      obtain ⟨r, hr⟩ : ∃ r, lg s a 0 k = r := ⟨_, rfl⟩
      rw [hr] at hL2 hL3 HR' ⊢
      clear hr
      obtain ⟨D, L⟩ := r
      simp only at hL2 hL3 HR' ⊢
      by_cases e : L < 3
      · have e1 : (L : Int) < 3 := by omega
        rw [if_pos e] at HR'
        subst HR'
        go_wp2_with fail
        all_goals
          go_ret3
          exact ⟨rfl, hbw⟩
      · have e1 : ¬ (L : Int) < 3 := by omega
        rw [if_neg e] at HR'
        subst HR'
        go_wp2_with fail
        all_goals
          go_ret3
          exact ⟨rfl, hbw⟩
theorem implLong_no (s : ByteArray) (x : Int) (w : World) (hl : s.size ≤ 9223372036854775807) (h : 600 < s.size ∨ x < 0 ∨ (s.size : Int) < x) :
    Calls Try.prog 14 #[.string s, .int .i64 x] w fun e w' => e = .returned (.tuple #[.int .i64 0, .int .i64 0, .bool false]) ∧ Below w.heap.size w w' := by
  by_cases h1 : (600 : Int) < (s.size : Int)
  · go_enter Try.func14, Try.ntmps14
    go_wp2
    go_ret3
    exact ⟨rfl, Below.refl _ _⟩
  · by_cases h2 : x < 0
    · go_enter Try.func14, Try.ntmps14
      go_wp2
      go_ret3
      exact ⟨rfl, Below.refl _ _⟩
    · have h3 : (s.size : Int) < x := by omega
      go_enter Try.func14, Try.ntmps14
      go_wp2
      go_ret3
      exact ⟨rfl, Below.refl _ _⟩
end Go.Proofs.Ytodidnbghiinkaa
