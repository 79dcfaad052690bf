import Derived.Test.YtggkpcgjmanelaaS1
/- The specification: the depth. -/
namespace Go.Proofs.Ytggkpcgjmanelaa
open Go.ChangeShapes Go.WideShapes Go.ChangeAt Go.RowKit
set_option linter.unusedVariables false
open Bt

attribute [local go_sem] Oper.semAt_some

theorem map_drop' {l : List Tr} {k : Nat} (h : k < l.length) (f : Tr → Nat) : (l.drop k).map f = f (gt l k) :: (l.drop (k + 1)).map f := by
  rw [gt_eq h, List.drop_eq_getElem_cons h]; rfl
/-- What a depth of kids tells. -/
def dpR (o : Option Nat) : Nat := match o with | none => 0 | some d => d + 1
theorem dp_R (ks : List Int) (cs : List Tr) (root : Bool) : dp ⟨ks, cs⟩ root = if lo root cs.isEmpty ≤ ks.length ∧ ks.length ≤ 5 then dpR (dpL true 0 (cs.map fun x => dp x false)) else 0 := dp_eq ks cs root
theorem dpL_bad {fst : Bool} {deep d : Nat} {r : List Nat} (h : d = 0 ∨ (fst = false ∧ d ≠ deep)) : dpL fst deep (d :: r) = none := if_pos h
theorem dpL_fine {fst : Bool} {deep d : Nat} {r : List Nat} (h : ¬ (d = 0 ∨ (fst = false ∧ d ≠ deep))) : dpL fst deep (d :: r) = dpL false d r := if_neg h
theorem dpL_le {r : List Nat} {B : Nat} : ∀ {fst : Bool} {deep d : Nat}, deep ≤ B → (∀ x, x ∈ r → x ≤ B) → dpL fst deep r = some d → d ≤ B := by
  induction r with
  | nil => intro fst deep d h _ e; simp [dpL] at e; omega
  | cons x r ih =>
    intro fst deep d h hr e
    by_cases hb : x = 0 ∨ (fst = false ∧ x ≠ deep)
    · rw [dpL_bad hb] at e; simp at e
    · rw [dpL_fine hb] at e
      exact ih (hr x (by simp)) (fun y hy => hr y (by simp [hy])) e
theorem dp_le (d : Nat) : ∀ (w : World) (v : Value) (t : Tr) (root : Bool), SN w d v t → dp t root ≤ d := by
  induction d with
  | zero => intro w v t root h; exact absurd h (by simp [SN])
  | succ d ih =>
    intro w v t root h
    obtain ⟨a, c, a', c', rfl, h1, h2, h3, h4⟩ := SN_succ.1 h
    obtain ⟨ks, cs⟩ := t
    rw [dp_R]
    split
    · have key : ∀ x, x ∈ cs → dp x false ≤ d := by
        intro x hx
        obtain ⟨i, hi, rfl⟩ := List.mem_iff_getElem.1 hx
        obtain ⟨b, off, -, hc⟩ := h4 (by simp only; omega)
        obtain ⟨p, q, -, -, hs⟩ := hc i hi
        have := ih w _ _ false hs
        rwa [gt_eq hi] at this
      cases e : dpL true 0 (cs.map fun x => dp x false) with
      | none => simp [dpR]
      | some z =>
        have := dpL_le (B := d) (Nat.zero_le _) (by
          intro y hy
          obtain ⟨x, hx, rfl⟩ := List.mem_map.1 hy
          exact key x hx) e
        simp [dpR]
        omega
    · exact Nat.zero_le _
set_option maxHeartbeats 4000000 in
theorem l7Deep_any (d : Nat) : ∀ (v : Value) (t : Tr) (root : Bool) (w : World), SN w d v t → Wf t → (flat t).length ≤ 100000000 → d ≤ 1000 →
    Calls Try.prog 74 #[v, .bool root] w fun e w' => e = .returned (.int .i64 (dp t root)) ∧ Below w.heap.size w w' := by
  induction d with
  | zero => intro v t root w h; exact absurd h (by simp [SN])
  | succ d ih =>
    intro v t root w hs hwf hfl hd
    obtain ⟨a, c, a', c', rfl, h1, h2, h3, h4⟩ := SN_succ.1 hs
    have cL := fun W h => l7Leaf_any (d := d + 1) (v := .agg #[.slice a t.keys.length c, .slice a' t.kids.length c']) (t := t) W h
    have hdp := dp_le (d + 1) w _ t root hs
    obtain ⟨ks, cs⟩ := t
    simp only at h1 h2 h3 h4 cL
    rw [Wf_eq] at hwf
    have hkl : ks.length ≤ 100000000 := Nat.le_trans (keys_sub hwf.1).length_le hfl
    have hcl : cs.length ≤ 100000001 := by rcases hwf.1 with h | h; (subst h; simp); omega
    have HF : Hid (∀ x, x ∈ cs → Wf x ∧ (flat x).length ≤ 100000000) := fun x hx => ⟨hwf.2 x hx, Nat.le_trans (kid_sub hx).length_le hfl⟩
    clear hfl hwf
    rw [dp_R] at hdp ⊢
    obtain ⟨W0, hW0⟩ : ∃ W0, w.alloc (.cells #[.slice a ks.length c, .slice a' cs.length c'] 67) = W0 := ⟨_, rfl⟩
    have hb0 : Below w.heap.size w W0 := by subst hW0; exact below_alloc _ _
    have H1 : Hid (W0.heap[w.heap.size]? = some (.cells #[.slice a ks.length c, .slice a' cs.length c'] 67 (0, 0))) := by subst hW0; exact al1 _ _
    obtain ⟨i0, i1, -, -⟩ := box2_cells H1.out
    have c47 := fun l W => l1In_any (ks.length : Int) l 5 W
    have hzz : cs.isEmpty = decide (cs.length = 0) := by cases cs <;> simp
    cases root with
    | false =>
      have hlo : lo false cs.isEmpty = 2 := rfl
      rw [hlo] at hdp ⊢
      by_cases hbd : 2 ≤ ks.length ∧ ks.length ≤ 5
      · rw [if_pos hbd] at hdp ⊢
        have e1 : (decide ((2 : Int) ≤ (ks.length : Int)) && decide ((ks.length : Int) ≤ 5)) = true := by simp; omega
        have c47' := fun W => c47 2 W
        rw [e1] at c47'
        clear c47 e1
        clear cL
        go_enter Try.func74, Try.ntmps74
        go_wp2_with (go_at_call 47; refine (c47' _).mono ?_; rintro e w1 ⟨rfl, rfl⟩)
        go_loopw [6, 23] (fun dv i wr => ∃ (k D : Nat), k ≤ cs.length ∧ D ≤ 1000 ∧ i = .int .i64 k ∧ dv = .int .i64 D ∧ dpL true 0 (cs.map fun x => dp x false) = dpL (decide (k = 0)) D ((cs.drop k).map fun x => dp x false) ∧ Below w1.heap.size w1 wr) (fun _ i _ => cs.length - (intOf i).toNat)
        case atStart => exact ⟨0, 0, Nat.zero_le _, by omega, rfl, rfl, by simp, Below.refl _ _⟩
        case round =>
          obtain ⟨k, D, hk, hD, rfl, rfl, hst, hb⟩ := hrel
          by_cases hlt : k < cs.length
          · obtain ⟨b, off, rfl, hcell⟩ := h4 (by omega)
            obtain ⟨p, q, k0, k1, k2⟩ := hcell k hlt
            have g2 : Below w.heap.size w wr := hb0.trans (hb.mono hb0.size)
            have k2' := k2.below g2
            have k0' := cell_on k0 g2
            have k1' := cell_on k1 g2
            clear k0 k1 k2 hcell h4
            rw [map_drop' hlt] at hst
            obtain ⟨ka, kc, ca, cc, rfl, rfl⟩ := SN.form k2'
            have hdx := dp_le d wr _ _ false k2'
            obtain ⟨f1, f2⟩ := HF.out _ (gt_mem hlt)
            generalize gt cs k = x at *
            obtain ⟨Wa, hWa⟩ : ∃ Wa, wr.alloc (.cells #[.slice ka x.keys.length kc, .slice ca x.kids.length cc] 67) = Wa := ⟨_, rfl⟩
            have ba : Below wr.heap.size wr Wa := by subst hWa; exact below_alloc _ _
            have KA : Wa.heap[wr.heap.size]? = some (.cells #[.slice ka x.keys.length kc, .slice ca x.kids.length cc] 67 (0, 0)) := by subst hWa; exact al1 _ _
            obtain ⟨x0, x1, -, -⟩ := box2_cells KA
            clear KA
            have cI := ih _ x false Wa (k2'.below ba) f1 f2 (by omega)
            clear k2' hs ih f1 f2 HF
            have HS : Hid _ := hst
            clear hst
            generalize dp x false = e at *
            by_cases he : e = 0
            · go_wp2_with (go_at_call 74; refine cI.mono ?_; rintro e9 w9 ⟨rfl, b9⟩)
              go_ret
              rw [HS.out, dpL_bad (.inl he)]
              exact ⟨rfl, Below.comp g2 (Below.comp ba b9)⟩
            · by_cases hk0 : k = 0
              · have q1 : decide ((0 : Int) < (k : Int)) = false := decide_eq_false (by omega)
                have hk0' : ¬ (0 : Int) < (k : Int) := by omega
                have HK0 : Hid _ := hk0
                clear hk0
                go_wp2_with (go_at_call 74; refine cI.mono ?_; rintro e9 w9 ⟨rfl, b9⟩)
                go_roundw
                case rel => exact ⟨k + 1, e, by omega, by omega, by go_num, rfl, by rw [HS.out, dpL_fine (by simp [he, HK0.out])]; simp, hb.trans ((Below.comp ba b9).mono hb.size)⟩
                case measure => simp [intOf]; omega
              · have hk0' : (0 : Int) < (k : Int) := by omega
                by_cases heD : e = D
                · subst heD
                  go_wp2_with (go_at_call 74; refine cI.mono ?_; rintro e9 w9 ⟨rfl, b9⟩)
                  go_roundw
                  case rel => exact ⟨k + 1, e, by omega, by omega, by go_num, rfl, by rw [HS.out, dpL_fine (by simp [he])]; simp, hb.trans ((Below.comp ba b9).mono hb.size)⟩
                  case measure => simp [intOf]; omega
                · have heD' : ((e : Int) != (D : Int)) = true := by simp; omega
                  go_wp2_with (go_at_call 74; refine cI.mono ?_; rintro e9 w9 ⟨rfl, b9⟩)
                  go_ret
                  rw [HS.out, dpL_bad (.inr ⟨by simp [hk0], heD⟩)]
                  exact ⟨rfl, Below.comp g2 (Below.comp ba b9)⟩
          · go_wp2
            go_ret
            have hkn : k = cs.length := by omega
            subst hkn
            rw [List.drop_length, List.map_nil] at hst
            rw [hst]
            exact ⟨by simp [dpL, dpR], hb0.trans (hb.mono hb0.size)⟩
      · rw [if_neg hbd] at hdp ⊢
        have e1 : (decide ((2 : Int) ≤ (ks.length : Int)) && decide ((ks.length : Int) ≤ 5)) = false := by
          rw [Bool.and_eq_false_iff]
          simp only [decide_eq_false_iff_not]
          omega
        have c47' := fun W => c47 2 W
        rw [e1] at c47'
        clear c47 e1
        clear cL
        go_enter Try.func74, Try.ntmps74
        go_wp2_with (go_at_call 47; refine (c47' _).mono ?_; rintro e w1 ⟨rfl, rfl⟩)
        go_ret
        exact ⟨rfl, hb0⟩
    | true =>
      by_cases hz : cs = []
      · have hlo : lo true cs.isEmpty = 0 := by rw [hz]; rfl
        have hz0 : cs.isEmpty = true := by rw [hz]; rfl
        rw [hlo] at hdp ⊢
        rw [hz0] at cL
        clear hz hzz
        by_cases hbd : 0 ≤ ks.length ∧ ks.length ≤ 5
        · rw [if_pos hbd] at hdp ⊢
          have e1 : (decide ((0 : Int) ≤ (ks.length : Int)) && decide ((ks.length : Int) ≤ 5)) = true := by simp; omega
          have c47' := fun W => c47 0 W
          rw [e1] at c47'
          clear c47 e1
          have cL' := cL W0 (SN.below hs hb0)
          clear cL
          go_enter Try.func74, Try.ntmps74
          go_wp2_with fail
          refine cL'.mono ?_
          rintro e w0 ⟨rfl, b0⟩
          have hb1 := Below.comp hb0 b0
          obtain ⟨j0, j1, -, -⟩ := box2_cells (box_on H1.out b0)
          clear hW0 i0 i1
          go_wp2_with (go_at_call 47; refine (c47' _).mono ?_; rintro e w1 ⟨rfl, rfl⟩)
          go_loopw [6, 23] (fun dv i wr => ∃ (k D : Nat), k ≤ cs.length ∧ D ≤ 1000 ∧ i = .int .i64 k ∧ dv = .int .i64 D ∧ dpL true 0 (cs.map fun x => dp x false) = dpL (decide (k = 0)) D ((cs.drop k).map fun x => dp x false) ∧ Below w1.heap.size w1 wr) (fun _ i _ => cs.length - (intOf i).toNat)
          case atStart => exact ⟨0, 0, Nat.zero_le _, by omega, rfl, rfl, by simp, Below.refl _ _⟩
          case round =>
            obtain ⟨k, D, hk, hD, rfl, rfl, hst, hb⟩ := hrel
            by_cases hlt : k < cs.length
            · obtain ⟨b, off, rfl, hcell⟩ := h4 (by omega)
              obtain ⟨p, q, k0, k1, k2⟩ := hcell k hlt
              have g2 : Below w.heap.size w wr := hb1.trans (hb.mono hb1.size)
              have k2' := k2.below g2
              have k0' := cell_on k0 g2
              have k1' := cell_on k1 g2
              clear k0 k1 k2 hcell h4
              rw [map_drop' hlt] at hst
              obtain ⟨ka, kc, ca, cc, rfl, rfl⟩ := SN.form k2'
              have hdx := dp_le d wr _ _ false k2'
              obtain ⟨f1, f2⟩ := HF.out _ (gt_mem hlt)
              generalize gt cs k = x at *
              obtain ⟨Wa, hWa⟩ : ∃ Wa, wr.alloc (.cells #[.slice ka x.keys.length kc, .slice ca x.kids.length cc] 67) = Wa := ⟨_, rfl⟩
              have ba : Below wr.heap.size wr Wa := by subst hWa; exact below_alloc _ _
              have KA : Wa.heap[wr.heap.size]? = some (.cells #[.slice ka x.keys.length kc, .slice ca x.kids.length cc] 67 (0, 0)) := by subst hWa; exact al1 _ _
              obtain ⟨x0, x1, -, -⟩ := box2_cells KA
              clear KA
              have cI := ih _ x false Wa (k2'.below ba) f1 f2 (by omega)
              clear k2' hs ih f1 f2 HF
              have HS : Hid _ := hst
              clear hst
              generalize dp x false = e at *
              by_cases he : e = 0
              · go_wp2_with (go_at_call 74; refine cI.mono ?_; rintro e9 w9 ⟨rfl, b9⟩)
                go_ret
                rw [HS.out, dpL_bad (.inl he)]
                exact ⟨rfl, Below.comp g2 (Below.comp ba b9)⟩
              · by_cases hk0 : k = 0
                · have q1 : decide ((0 : Int) < (k : Int)) = false := decide_eq_false (by omega)
                  have hk0' : ¬ (0 : Int) < (k : Int) := by omega
                  have HK0 : Hid _ := hk0
                  clear hk0
                  go_wp2_with (go_at_call 74; refine cI.mono ?_; rintro e9 w9 ⟨rfl, b9⟩)
                  go_roundw
                  case rel => exact ⟨k + 1, e, by omega, by omega, by go_num, rfl, by rw [HS.out, dpL_fine (by simp [he, HK0.out])]; simp, hb.trans ((Below.comp ba b9).mono hb.size)⟩
                  case measure => simp [intOf]; omega
                · have hk0' : (0 : Int) < (k : Int) := by omega
                  by_cases heD : e = D
                  · subst heD
                    go_wp2_with (go_at_call 74; refine cI.mono ?_; rintro e9 w9 ⟨rfl, b9⟩)
                    go_roundw
                    case rel => exact ⟨k + 1, e, by omega, by omega, by go_num, rfl, by rw [HS.out, dpL_fine (by simp [he])]; simp, hb.trans ((Below.comp ba b9).mono hb.size)⟩
                    case measure => simp [intOf]; omega
                  · have heD' : ((e : Int) != (D : Int)) = true := by simp; omega
                    go_wp2_with (go_at_call 74; refine cI.mono ?_; rintro e9 w9 ⟨rfl, b9⟩)
                    go_ret
                    rw [HS.out, dpL_bad (.inr ⟨by simp [hk0], heD⟩)]
                    exact ⟨rfl, Below.comp g2 (Below.comp ba b9)⟩
            · go_wp2
              go_ret
              have hkn : k = cs.length := by omega
              subst hkn
              rw [List.drop_length, List.map_nil] at hst
              rw [hst]
              exact ⟨by simp [dpL, dpR], hb1.trans (hb.mono hb1.size)⟩
        · rw [if_neg hbd] at hdp ⊢
          have e1 : (decide ((0 : Int) ≤ (ks.length : Int)) && decide ((ks.length : Int) ≤ 5)) = false := by
            rw [Bool.and_eq_false_iff]
            simp only [decide_eq_false_iff_not]
            omega
          have c47' := fun W => c47 0 W
          rw [e1] at c47'
          clear c47 e1
          have cL' := cL W0 (SN.below hs hb0)
          clear cL
          go_enter Try.func74, Try.ntmps74
          go_wp2_with fail
          refine cL'.mono ?_
          rintro e w0 ⟨rfl, b0⟩
          have hb1 := Below.comp hb0 b0
          obtain ⟨j0, j1, -, -⟩ := box2_cells (box_on H1.out b0)
          clear hW0 i0 i1
          go_wp2_with (go_at_call 47; refine (c47' _).mono ?_; rintro e w1 ⟨rfl, rfl⟩)
          go_ret
          exact ⟨rfl, hb1⟩
      · have hz0 : cs.isEmpty = false := by cases cs <;> simp_all
        have hlo : lo true cs.isEmpty = 1 := by rw [hz0]; rfl
        rw [hlo] at hdp ⊢
        rw [hz0] at cL
        clear hz hzz
        by_cases hbd : 1 ≤ ks.length ∧ ks.length ≤ 5
        · rw [if_pos hbd] at hdp ⊢
          have e1 : (decide ((1 : Int) ≤ (ks.length : Int)) && decide ((ks.length : Int) ≤ 5)) = true := by simp; omega
          have c47' := fun W => c47 1 W
          rw [e1] at c47'
          clear c47 e1
          have cL' := cL W0 (SN.below hs hb0)
          clear cL
          go_enter Try.func74, Try.ntmps74
          go_wp2_with fail
          refine cL'.mono ?_
          rintro e w0 ⟨rfl, b0⟩
          have hb1 := Below.comp hb0 b0
          obtain ⟨j0, j1, -, -⟩ := box2_cells (box_on H1.out b0)
          clear hW0 i0 i1
          go_wp2_with (go_at_call 47; refine (c47' _).mono ?_; rintro e w1 ⟨rfl, rfl⟩)
          go_loopw [6, 23] (fun dv i wr => ∃ (k D : Nat), k ≤ cs.length ∧ D ≤ 1000 ∧ i = .int .i64 k ∧ dv = .int .i64 D ∧ dpL true 0 (cs.map fun x => dp x false) = dpL (decide (k = 0)) D ((cs.drop k).map fun x => dp x false) ∧ Below w1.heap.size w1 wr) (fun _ i _ => cs.length - (intOf i).toNat)
          case atStart => exact ⟨0, 0, Nat.zero_le _, by omega, rfl, rfl, by simp, Below.refl _ _⟩
          case round =>
            obtain ⟨k, D, hk, hD, rfl, rfl, hst, hb⟩ := hrel
            by_cases hlt : k < cs.length
            · obtain ⟨b, off, rfl, hcell⟩ := h4 (by omega)
              obtain ⟨p, q, k0, k1, k2⟩ := hcell k hlt
              have g2 : Below w.heap.size w wr := hb1.trans (hb.mono hb1.size)
              have k2' := k2.below g2
              have k0' := cell_on k0 g2
              have k1' := cell_on k1 g2
              clear k0 k1 k2 hcell h4
              rw [map_drop' hlt] at hst
              obtain ⟨ka, kc, ca, cc, rfl, rfl⟩ := SN.form k2'
              have hdx := dp_le d wr _ _ false k2'
              obtain ⟨f1, f2⟩ := HF.out _ (gt_mem hlt)
              generalize gt cs k = x at *
              obtain ⟨Wa, hWa⟩ : ∃ Wa, wr.alloc (.cells #[.slice ka x.keys.length kc, .slice ca x.kids.length cc] 67) = Wa := ⟨_, rfl⟩
              have ba : Below wr.heap.size wr Wa := by subst hWa; exact below_alloc _ _
              have KA : Wa.heap[wr.heap.size]? = some (.cells #[.slice ka x.keys.length kc, .slice ca x.kids.length cc] 67 (0, 0)) := by subst hWa; exact al1 _ _
              obtain ⟨x0, x1, -, -⟩ := box2_cells KA
              clear KA
              have cI := ih _ x false Wa (k2'.below ba) f1 f2 (by omega)
              clear k2' hs ih f1 f2 HF
              have HS : Hid _ := hst
              clear hst
              generalize dp x false = e at *
              by_cases he : e = 0
              · go_wp2_with (go_at_call 74; refine cI.mono ?_; rintro e9 w9 ⟨rfl, b9⟩)
                go_ret
                rw [HS.out, dpL_bad (.inl he)]
                exact ⟨rfl, Below.comp g2 (Below.comp ba b9)⟩
              · by_cases hk0 : k = 0
                · have q1 : decide ((0 : Int) < (k : Int)) = false := decide_eq_false (by omega)
                  have hk0' : ¬ (0 : Int) < (k : Int) := by omega
                  have HK0 : Hid _ := hk0
                  clear hk0
                  go_wp2_with (go_at_call 74; refine cI.mono ?_; rintro e9 w9 ⟨rfl, b9⟩)
                  go_roundw
                  case rel => exact ⟨k + 1, e, by omega, by omega, by go_num, rfl, by rw [HS.out, dpL_fine (by simp [he, HK0.out])]; simp, hb.trans ((Below.comp ba b9).mono hb.size)⟩
                  case measure => simp [intOf]; omega
                · have hk0' : (0 : Int) < (k : Int) := by omega
                  by_cases heD : e = D
                  · subst heD
                    go_wp2_with (go_at_call 74; refine cI.mono ?_; rintro e9 w9 ⟨rfl, b9⟩)
                    go_roundw
                    case rel => exact ⟨k + 1, e, by omega, by omega, by go_num, rfl, by rw [HS.out, dpL_fine (by simp [he])]; simp, hb.trans ((Below.comp ba b9).mono hb.size)⟩
                    case measure => simp [intOf]; omega
                  · have heD' : ((e : Int) != (D : Int)) = true := by simp; omega
                    go_wp2_with (go_at_call 74; refine cI.mono ?_; rintro e9 w9 ⟨rfl, b9⟩)
                    go_ret
                    rw [HS.out, dpL_bad (.inr ⟨by simp [hk0], heD⟩)]
                    exact ⟨rfl, Below.comp g2 (Below.comp ba b9)⟩
            · go_wp2
              go_ret
              have hkn : k = cs.length := by omega
              subst hkn
              rw [List.drop_length, List.map_nil] at hst
              rw [hst]
              exact ⟨by simp [dpL, dpR], hb1.trans (hb.mono hb1.size)⟩
        · rw [if_neg hbd] at hdp ⊢
          have e1 : (decide ((1 : Int) ≤ (ks.length : Int)) && decide ((ks.length : Int) ≤ 5)) = false := by
            rw [Bool.and_eq_false_iff]
            simp only [decide_eq_false_iff_not]
            omega
          have c47' := fun W => c47 1 W
          rw [e1] at c47'
          clear c47 e1
          have cL' := cL W0 (SN.below hs hb0)
          clear cL
          go_enter Try.func74, Try.ntmps74
          go_wp2_with fail
          refine cL'.mono ?_
          rintro e w0 ⟨rfl, b0⟩
          have hb1 := Below.comp hb0 b0
          obtain ⟨j0, j1, -, -⟩ := box2_cells (box_on H1.out b0)
          clear hW0 i0 i1
          go_wp2_with (go_at_call 47; refine (c47' _).mono ?_; rintro e w1 ⟨rfl, rfl⟩)
          go_ret
          exact ⟨rfl, hb1⟩
end Go.Proofs.Ytggkpcgjmanelaa
