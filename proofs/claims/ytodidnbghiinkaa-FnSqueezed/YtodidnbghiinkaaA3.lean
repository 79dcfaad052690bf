import Derived.Test.YtodidnbghiinkaaA2
/- The specification's longest stretch; the law of LongestAt. -/
namespace Go.Proofs.Ytodidnbghiinkaa
open Go.ChangeShapes Go.WideShapes Go.ChangeAt Go.RowKit
set_option linter.unusedVariables false
open Tz

attribute [local go_sem] Oper.semAt_some

set_option maxHeartbeats 2000000 in
theorem l16Longest_any (s : ByteArray) (a : Nat) (w : World) (hl : s.size ≤ 100000) (ha : a ≤ s.size) :
    Calls Try.prog 39 #[.string s, .int .i64 (a : Int)] w fun e w' => e = .returned (.tuple #[.int .i64 ((lgA s a).1 : Nat), .int .i64 ((lgA s a).2 : Nat)]) ∧ Below w.heap.size w w' := by
  obtain ⟨R, hR⟩ : ∃ R : Nat × Nat, lgA s a = R := ⟨_, rfl⟩
  rw [hR]
  have HR : Hid (R = if (lg s a 2 (min a 255)).1 = 0 then (0, 0) else lg s a 2 (min a 255)) := hR.symm
  clear hR
  have HL0 : Hid (∀ k, lg s a 2 (k + 1) = if (lg s a 2 k).2 < alk s (a - (k + 1)) a then (k + 1, alk s (a - (k + 1)) a) else lg s a 2 k) := fun k => rfl
  have HL1 : Hid (∀ k, k ≤ a → (lg s a 2 k).2 ≤ 66 ∧ (lg s a 2 k).1 ≤ k) := fun k hk => by
    obtain ⟨h1, -, -⟩ := lg_spec s a k
    rcases h1 with ⟨q0, q⟩ | ⟨q1, q2, q3, q4⟩
    · omega
    · have := (alk_spec (s := s) (a := a - (lg s a 2 k).1) (b := a) (by omega) ha).1
      rw [← q4] at this; exact ⟨this, q2⟩
  go_enter Try.func39, Try.ntmps39
  go_wp2
  go_loopw [6, 7, 8] (fun dd ll ii wr => ∃ k : Nat, ii = .int .i64 ((k : Int) + 1) ∧ dd = .int .i64 ((lg s a 2 k).1 : Nat) ∧ ll = .int .i64 ((lg s a 2 k).2 : Nat) ∧ k ≤ a ∧ k ≤ 255 ∧ Below w.heap.size w wr) (fun _ _ ii _ => 256 - (intOf ii).toNat)
  case atStart => exact ⟨0, rfl, rfl, rfl, by omega, by omega, Below.refl _ _⟩
  case round =>
    obtain ⟨k, rfl, rfl, rfl, hka, hk, hbw⟩ := hrel
    obtain ⟨hL2, hL3⟩ := HL1.out k hka
    have HN : Hid _ := HL0.out k
    by_cases c : k + 1 ≤ a ∧ k + 1 ≤ 255
    · have d0 : (k : Int) + 1 ≤ 255 := by omega
      have d0' : (k : Int) + 1 ≤ (a : Int) := by omega
      have hn := (alk_spec (s := s) (a := a - (k + 1)) (b := a) (by omega) ha).1
      have HA : Hid (∀ n, n ≤ 66 → a + n ≤ s.size → (∀ j, j < n → ch s (a - (k + 1) + j) = ch s (a + j)) → (n = 66 ∨ a + n = s.size ∨ ch s (a - (k + 1) + n) ≠ ch s (a + n)) → alk s (a - (k + 1)) a = n) := fun n h1 h2 h3 h4 => alk_of (by omega) h1 h2 h3 h4
      obtain ⟨r, hr⟩ : ∃ r, lg s a 2 k = r := ⟨_, rfl⟩
      obtain ⟨q, hq⟩ : ∃ q, lg s a 2 (k + 1) = q := ⟨_, rfl⟩
      rw [hr] at hL2 hL3 HN ⊢
      rw [hq] at HN
      have HQ : Hid _ := hq
      obtain ⟨N, hN⟩ : ∃ N, alk s (a - (k + 1)) a = N := ⟨_, rfl⟩
      rw [hN] at HA HN hn
      clear hq hr HL0 HL1 hN
      obtain ⟨D, L⟩ := r
      simp only at hL2 hL3 HN ⊢
      go_wp2_with fail
      go_loopw [9] (fun nn wx => ∃ n : Nat, nn = .int .i64 n ∧ n ≤ 66 ∧ a + n ≤ s.size ∧ Hid (∀ j, j < n → ch s (a - (k + 1) + j) = ch s (a + j)) ∧ Below w.heap.size w wx) (fun nn _ => 66 - (intOf nn).toNat)
      case atStart => exact ⟨0, rfl, by omega, by omega, fun j hj => by omega, hbw⟩
      case round =>
        obtain ⟨n, rfl, h66, hsz, HE, hbx⟩ := hrel
        have bD : ∀ q, Below w.heap.size w (wr.drewN q) := fun q => below_drewN hbx q
        have tail : Hid (N = n → ∀ W, Below w.heap.size w W → True) := fun _ _ _ => trivial
        by_cases c1 : n < 66
        · have d1 : (n : Int) < 66 := by omega
          by_cases c2 : a + n < s.size
          · have d2 : (a : Int) + (n : Int) < (s.size : Int) := by omega
            have w1 : IntKind.i64.wrap ((a : Int) + (n : Int)) = (a : Int) + (n : Int) := wrapI (by omega) (by omega)
            have w2 : IntKind.i64.wrap ((a : Int) + (n : Int) - ((k : Int) + 1)) = (a : Int) + (n : Int) - ((k : Int) + 1) := wrapI (by omega) (by omega)
            have x1 := run_idx' s ((a : Int) + (n : Int)) (a + n) (by omega) (by omega)
            have x2 := run_idx' s ((a : Int) + (n : Int) - ((k : Int) + 1)) (a - (k + 1) + n) (by omega) (by omega)
            by_cases c3 : ch s (a + n) = ch s (a - (k + 1) + n)
            · have d3 := ch_beq _ _ c3
              have HE' : Hid (∀ j, j < n + 1 → ch s (a - (k + 1) + j) = ch s (a + j)) := fun j hj => by
                by_cases e : j = n
                · subst e; exact c3.symm
                · exact HE.out j (by omega)
              generalize (ch s (a + n)).toNat = X at x1 d3
              generalize (ch s (a - (k + 1) + n)).toNat = Y at x2 d3
              clear c3 HE
              go_wp2_with fail
              go_quiet (fail)
              go_wp2
              go_roundw
              case rel => exact ⟨n + 1, by go_num, by omega, by omega, HE'.out, bD _⟩
              case measure => simp [intOf]; omega
            · have d3 := ch_bne _ _ c3
              have hN : N = n := HA.out n h66 hsz HE.out (.inr (.inr (fun h => c3 h.symm)))
              subst hN
              generalize (ch s (a + N)).toNat = X at x1 d3
              generalize (ch s (a - (k + 1) + N)).toNat = Y at x2 d3
              clear c3 HE HA
              by_cases e : L < N
              · have e1 : (L : Int) < (N : Int) := by omega
                have hq : q = (k + 1, N) := by rw [HN.out, if_pos e]
                subst hq
                clear HN
                go_wp2_with fail
                go_quiet (fail)
                go_wp2
                go_roundw
                case rel => exact ⟨k + 1, by go_num, by rw [HQ.out]; go_num, by rw [HQ.out], by omega, by omega, bD _⟩
                case measure => simp [intOf]; omega
              · have e1 : ¬ (L : Int) < (N : Int) := by omega
                have hq : q = (D, L) := by rw [HN.out, if_neg e]
                subst hq
                clear HN
                go_wp2_with fail
                go_quiet (fail)
                go_wp2
                go_roundw
                case rel => exact ⟨k + 1, by go_num, by rw [HQ.out], by rw [HQ.out], by omega, by omega, bD _⟩
                case measure => simp [intOf]; omega
          · have hN : N = n := HA.out n h66 hsz HE.out (.inr (.inl (by omega)))
            subst hN
            have d2' : decide ((a : Int) + (N : Int) < (s.size : Int)) = false := by simp; omega
            have w1 : IntKind.i64.wrap ((a : Int) + (N : Int)) = (a : Int) + (N : Int) := wrapI (by omega) (by omega)
            clear HE HA
            by_cases e : L < N
            · have e1 : (L : Int) < (N : Int) := by omega
              have hq : q = (k + 1, N) := by rw [HN.out, if_pos e]
              subst hq
              clear HN
              go_wp2_with fail
              go_quiet (fail)
              go_wp2
              go_roundw
              case rel => exact ⟨k + 1, by go_num, by rw [HQ.out]; go_num, by rw [HQ.out], by omega, by omega, bD _⟩
              case measure => simp [intOf]; omega
            · have e1 : ¬ (L : Int) < (N : Int) := by omega
              have hq : q = (D, L) := by rw [HN.out, if_neg e]
              subst hq
              clear HN
              go_wp2_with fail
              go_quiet (fail)
              go_wp2
              go_roundw
              case rel => exact ⟨k + 1, by go_num, by rw [HQ.out], by rw [HQ.out], by omega, by omega, bD _⟩
              case measure => simp [intOf]; omega
        · have hN : N = n := HA.out n h66 hsz HE.out (.inl (by omega))
          subst hN
          have d1' : decide ((N : Int) < 66) = false := by simp; omega
          clear HE HA
          by_cases e : L < N
          · have e1 : (L : Int) < (N : Int) := by omega
            have hq : q = (k + 1, N) := by rw [HN.out, if_pos e]
            subst hq
            clear HN
            go_wp2_with fail
            go_quiet (fail)
            go_wp2
            go_roundw
            case rel => exact ⟨k + 1, by go_num, by rw [HQ.out]; go_num, by rw [HQ.out], by omega, by omega, bD _⟩
            case measure => simp [intOf]; omega
          · have e1 : ¬ (L : Int) < (N : Int) := by omega
            have hq : q = (D, L) := by rw [HN.out, if_neg e]
            subst hq
            clear HN
            go_wp2_with fail
            go_quiet (fail)
            go_wp2
            go_roundw
            case rel => exact ⟨k + 1, by go_num, by rw [HQ.out], by rw [HQ.out], by omega, by omega, bD _⟩
            case measure => simp [intOf]; omega
    · have hk' : min a 255 = k := by omega
      have d1 : ¬ ((k : Int) + 1 ≤ 255) ∨ ((k : Int) + 1 ≤ 255 ∧ ¬ (k : Int) + 1 ≤ (a : Int)) := by omega
      have HR' := HR.out
      rw [hk'] at HR'
      clear HL0 HL1 HN hk' HR
      obtain ⟨r, hr⟩ : ∃ r, lg s a 2 k = r := ⟨_, rfl⟩
      rw [hr] at hL2 hL3 HR' ⊢
      clear hr
      obtain ⟨D, L⟩ := r
      simp only at hL2 hL3 HR' ⊢
      by_cases e : D = 0
      · rw [if_pos e] at HR'
        subst HR'
        subst e
        rcases d1 with d1 | ⟨d0, d1⟩
        · go_wp2_with fail
          go_ret2
          exact ⟨rfl, hbw⟩
        · go_wp2_with fail
          go_ret2
          exact ⟨rfl, hbw⟩
      · rw [if_neg e] at HR'
        subst HR'
        have e1 : ((D : Int) == 0) = false := by simp; omega
        rcases d1 with d1 | ⟨d0, d1⟩
        · go_wp2_with fail
          go_ret2
          exact ⟨rfl, hbw⟩
        · go_wp2_with fail
          go_ret2
          exact ⟨rfl, hbw⟩
end Go.Proofs.Ytodidnbghiinkaa
