import Derived.Test.YtggkpcgjmanelaaI4
/- The program: the depth. -/
namespace Go.Proofs.Ytggkpcgjmanelaa
open Go.ChangeShapes Go.WideShapes Go.ChangeAt Go.RowKit
set_option linter.unusedVariables false
open Bt

attribute [local go_sem] Oper.semAt_some

theorem mapI_drop {l : List Tr} {k : Nat} (h : k < l.length) : (l.drop k).map dI = dI (gt l k) :: (l.drop (k + 1)).map dI := by
  rw [gt_eq h, List.drop_eq_getElem_cons h]; rfl
theorem dIL_le {r : List (Nat × Bool)} {B : Nat} : ∀ {i deep : Nat} {ev : Bool}, deep ≤ B → (∀ x, x ∈ r → x.1 ≤ B) → (dIL r i deep ev).1 ≤ B + 1 := by
  induction r with
  | nil => intro i deep ev h _; simp [dIL]; omega
  | cons x r ih =>
    intro i deep ev h hr
    rw [dIL]
    exact ih (by have := hr x (by simp); omega) (fun y hy => hr y (by simp [hy]))
theorem dI_le (d : Nat) : ∀ (w : World) (v : Value) (t : Tr), IN w d v t → (dI t).1 ≤ d := by
  induction d with
  | zero => intro w v t h; exact absurd h (by simp [IN])
  | succ d ih =>
    intro w v t h
    obtain ⟨a, c, h1, h2, h3⟩ := h
    obtain ⟨ks, cs⟩ := t
    rw [dI_eq]
    refine dIL_le (Nat.zero_le _) (fun x hx => ?_)
    obtain ⟨y, hy, rfl⟩ := List.mem_map.1 hx
    rcases h3 with ⟨h3, -⟩ | ⟨h3, c', b, off, h4, h5, h6⟩
    · simp only at h3
      subst h3
      simp at hy
    · obtain ⟨i, hi, rfl⟩ := List.mem_iff_getElem.1 hy
      obtain ⟨p, -, k1⟩ := h6 i hi
      have := ih w p _ k1
      rwa [gt_eq hi] at this
set_option maxHeartbeats 4000000 in
theorem depthBelow_any (d : Nat) : ∀ (v : Value) (t : Tr) (w : World), IN w d v t → Wf t → (flat t).length ≤ 100000000 → d ≤ 1000 →
    Calls Try.prog 52 #[v] w fun e w' => e = .returned (.tuple #[.int .i64 (dI t).1, .bool (dI t).2]) ∧ Below w.heap.size w w' := by
  induction d with
  | zero => intro v t w h; exact absurd h (by simp [IN])
  | succ d ih =>
    intro v t w hs hwf hfl hd
    obtain ⟨a, c, h1, h2, h3⟩ := hs
    obtain ⟨ks, cs⟩ := t
    simp only at h1 h2 h3
    rw [dI_eq]
    rcases h3 with ⟨rfl, rfl⟩ | ⟨h3, c', b, off, rfl, h5, h6⟩
    · go_enter Try.func52, Try.ntmps52
      go_wp2_with (go_at_call 80; refine (kidsOf_leaf _ _).mono ?_; rintro e w1 ⟨rfl, h9⟩; have h9' := h9.symm; subst h9')
      refine wp_loop_rounds 1 ?_
      rw [rounds_succ]
      go_wp2_with fail
      go_ret2
      exact ⟨rfl, Below.refl _ _⟩
    · rw [Wf_eq] at hwf
      have hcl : cs.length = ks.length + 1 := by rcases hwf.1 with h | h; exact absurd h h3; exact h
      have hkl : ks.length ≤ 100000000 := Nat.le_trans (keys_sub hwf.1).length_le hfl
      have HF : Hid (∀ x, x ∈ cs → Wf x ∧ (flat x).length ≤ 100000000) := fun x hx => ⟨hwf.2 x hx, Nat.le_trans (kid_sub hx).length_le hfl⟩
      have hcb : cs.length ≤ 100000001 := by omega
      have H6 : Hid _ := h6
      clear hfl hwf hcl hkl h6 h3 h1 h2
      go_enter Try.func52, Try.ntmps52
      go_wp2_with fail
      refine (kidsOf_fork _ _ _ _ _ _ _).mono ?_
      rintro e w1 ⟨rfl, b1⟩
      go_wp2_with fail
      go_loopw [4, 5, 13] (fun dv evv i wr => ∃ (k D : Nat) (ev : Bool), k ≤ cs.length ∧ D ≤ 1000 ∧ i = .int .i64 k ∧ dv = .int .i64 D ∧ evv = .bool ev ∧ Hid (dIL (cs.map dI) 0 0 true = dIL ((cs.drop k).map dI) k D ev) ∧ Below w1.heap.size w1 wr) (fun _ _ i _ => cs.length - (intOf i).toNat)
      case atStart => exact ⟨0, 0, true, Nat.zero_le _, by omega, rfl, rfl, rfl, by simp [Hid], Below.refl _ _⟩
      case round =>
        obtain ⟨k, D, ev, hk, hD, rfl, rfl, rfl, hst, hb⟩ := hrel
        by_cases hlt : k < cs.length
        · obtain ⟨p, k0, k2⟩ := H6.out k hlt
          have g2 : Below w.heap.size w wr := b1.trans (hb.mono b1.size)
          have k2' := k2.below g2
          have k0' := cell_on k0 g2
          clear k0 k2 H6
          have hst2 := hst.out
          rw [mapI_drop hlt, dIL] at hst2
          have HS : Hid _ := hst2
          clear hst2 hst
          have hdx := dI_le d wr _ _ k2'
          obtain ⟨f1, f2⟩ := HF.out _ (gt_mem hlt)
          obtain ⟨T, u, rfl⟩ := k2'.form
          have cI := ih _ _ wr k2' f1 f2 (by omega)
          clear k2' ih f1 f2 HF
          generalize dI (gt cs k) = z at *
          obtain ⟨x, ok⟩ := z
          simp only at cI hdx
          cases ev with
          | false =>
            go_wp2_with (go_at_call 52; refine cI.mono ?_; rintro e w9 ⟨rfl, b9⟩)
            go_roundw
            case rel => exact ⟨k + 1, max D x, false, by omega, by omega, by go_num, by first | rfl | (congr 1; split <;> omega) | (congr 1; omega), rfl, by show _ = _; rw [HS.out]; simp, hb.trans (b9.mono hb.size)⟩
            case measure => simp [intOf]; omega
          | true =>
            cases ok with
            | false =>
              go_wp2_with (go_at_call 52; refine cI.mono ?_; rintro e w9 ⟨rfl, b9⟩)
              go_roundw
              case rel => exact ⟨k + 1, max D x, false, by omega, by omega, by go_num, by first | rfl | (congr 1; split <;> omega) | (congr 1; omega), rfl, by show _ = _; rw [HS.out]; simp, hb.trans (b9.mono hb.size)⟩
              case measure => simp [intOf]; omega
            | true =>
              by_cases hk0 : k = 0
              · have HK0 : Hid _ := hk0
                have q1 : ((k : Int) == 0) = true := by simp; exact hk0
                clear hk0
                go_wp2_with (go_at_call 52; refine cI.mono ?_; rintro e w9 ⟨rfl, b9⟩)
                go_roundw
                case rel => exact ⟨k + 1, max D x, true, by omega, by omega, by go_num, by first | rfl | (congr 1; split <;> omega) | (congr 1; omega), rfl, by show _ = _; rw [HS.out]; simp [HK0.out], hb.trans (b9.mono hb.size)⟩
                case measure => simp [intOf]; omega
              · have q1 : ((k : Int) == 0) = false := by simp; exact hk0
                have HK0 : Hid _ := hk0
                clear hk0
                by_cases hx : x = D
                · subst hx
                  go_wp2_with (go_at_call 52; refine cI.mono ?_; rintro e w9 ⟨rfl, b9⟩)
                  go_roundw
                  case rel => exact ⟨k + 1, max x x, true, by omega, by omega, by go_num, by first | rfl | (congr 1; split <;> omega) | (congr 1; omega), rfl, by show _ = _; rw [HS.out]; simp, hb.trans (b9.mono hb.size)⟩
                  case measure => simp [intOf]; omega
                · have q2 : ((x : Int) == (D : Int)) = false := by simp; omega
                  go_wp2_with (go_at_call 52; refine cI.mono ?_; rintro e w9 ⟨rfl, b9⟩)
                  go_roundw
                  case rel => exact ⟨k + 1, max D x, false, by omega, by omega, by go_num, by first | rfl | (congr 1; split <;> omega) | (congr 1; omega), rfl, by show _ = _; rw [HS.out]; rw [decide_eq_false HK0.out, decide_eq_false hx]; rfl, hb.trans (b9.mono hb.size)⟩
                  case measure => simp [intOf]; omega
        · have hkn : k = cs.length := by omega
          go_wp2_with fail
          go_ret2
          have h9 := hst.out
          rw [hkn, List.drop_length, List.map_nil, dIL] at h9
          rw [h9]
          exact ⟨rfl, b1.trans (hb.mono b1.size)⟩
end Go.Proofs.Ytggkpcgjmanelaa
