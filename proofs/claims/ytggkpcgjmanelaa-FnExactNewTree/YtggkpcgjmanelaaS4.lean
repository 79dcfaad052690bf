import Derived.Test.YtggkpcgjmanelaaS3
import Derived.Test.YtggkpcgjmanelaaS2
/- The specification: a tree is read, and it is good. -/
namespace Go.Proofs.Ytggkpcgjmanelaa
open Go.ChangeShapes Go.WideShapes Go.ChangeAt Go.RowKit
set_option linter.unusedVariables false
open Bt

attribute [local go_sem] Oper.semAt_some

theorem bk_ksum (N : List Nd) : ksum N ≤ bk N N.length := by
  have key : ∀ k, k ≤ N.length → ksum (N.take k) ≤ bk N k := by
    intro k
    induction k with
    | zero => intro _; simp [ksum, bk]
    | succ k ih =>
      intro hk
      have h1 := ih (by omega)
      rw [List.take_add_one, List.getElem?_eq_getElem (by omega), ksum_app, bk, gn_eq (by omega : k < N.length)]
      simp [ksum] at h1 ⊢
      omega
  have := key N.length (Nat.le_refl _)
  rwa [List.take_length] at this
/-- What reading a tree answers: a good one, or none. -/
def OfA (w : World) (o : Option Tr) (e : Ending) (w' : World) : Prop :=
  Below w.heap.size w w' ∧ ∃ x n c x' n' c', e = .returned (.tuple #[nv x n c x' n' c', .bool o.isSome]) ∧ ∀ t, o = some t → SN w' 20 (nv x n c x' n' c') t
theorem OfA.no {w w' : World} {o : Option Tr} {e : Ending} {x : Option Addr} {n c : Nat} {x' : Option Addr} {n' c' : Nat} (ho : o = none) (he : e = .returned (.tuple #[nv x n c x' n' c', .bool false])) (hb : Below w.heap.size w w') : OfA w o e w' := by
  subst ho
  exact ⟨hb, x, n, c, x', n', c', he, fun t ht => by simp at ht⟩
theorem OfA.yes {w w' : World} {o : Option Tr} {t : Tr} {e : Ending} {x : Option Addr} {n c : Nat} {x' : Option Addr} {n' c' : Nat} (ho : o = some t) (he : e = .returned (.tuple #[nv x n c x' n' c', .bool true])) (hb : Below w.heap.size w w') (hs : SN w' 20 (nv x n c x' n' c') t) : OfA w o e w' := by
  subst ho
  exact ⟨hb, x, n, c, x', n', c', he, fun r hr => by simp only [Option.some.injEq] at hr; subst hr; exact hs⟩
/-- The good tree that nodes are, if they are one. -/
theorem good_or (N : List Nd) (root : Int) : ∃ o : Option Tr, (∀ t, o = some t ↔ Is N root t) := by
  by_cases h : ∃ t, Is N root t
  · obtain ⟨t, ht⟩ := h
    refine ⟨some t, fun u => ⟨fun e => ?_, fun e => ?_⟩⟩
    · simp only [Option.some.injEq] at e; subst e; exact ht
    · rw [ht.uniq e]
  · refine ⟨none, fun u => ⟨fun e => by simp at e, fun e => absurd ⟨u, e⟩ h⟩⟩
set_option maxRecDepth 20000 in
set_option maxHeartbeats 4000000 in
theorem l7Of_any (N : List Nd) (a : Option Addr) (cap : Nat) (root : Int) (o : Option Tr) (w : World) (hN : Nodes w a N) (hn : N.length ≤ 1048576) (hbk : bk N N.length ≤ 1048576) (ho : ∀ t, o = some t ↔ Is N root t) :
    Calls Try.prog 58 #[tv a N.length cap root] w fun e w' => OfA w o e w' := by
  have hnone : (∀ t, ¬ Is N root t) → o = none := by
    intro h
    cases ho' : o with
    | none => rfl
    | some t => exact absurd ((ho t).1 ho') (h t)
  have Hho : Hid _ := ho
  have Hnone : Hid _ := hnone
  clear ho hnone
  obtain ⟨s, hs⟩ : ∃ s, w.heap.size = s := ⟨_, rfl⟩
  obtain ⟨W0, hW0⟩ : ∃ W0, (w.alloc (.cells #[.slice a N.length cap, .int .i64 root] 27)).alloc (.cells #[.slice none 0 0, .slice none 0 0] 67) = W0 := ⟨_, rfl⟩
  have q0 : Below w.heap.size w W0 := by subst hW0; exact ba2 _ _ _
  obtain ⟨A1, A2⟩ : W0.heap[s]? = some (.cells #[.slice a N.length cap, .int .i64 root] 27 (0, 0)) ∧ W0.heap[s + 1]? = some (.cells #[.slice none 0 0, .slice none 0 0] 67 (0, 0)) := by subst hW0 hs; exact al2 _ _ _
  have HA2 : Hid _ := A2
  obtain ⟨x0, x1, -, -⟩ := box2_cells A1
  obtain ⟨x2, x3, x4, x5⟩ := box2_cells A2
  clear A1 A2
  have Hhs : Hid _ := hs
  by_cases hr : root = (N.length : Int) - 1
  · have hr1 : (root != (N.length : Int) - 1) = false := by simp [hr]
    have cR := l7Read_any N a cap root w hN hn hbk 20 root W0 (by omega) (by omega) (by omega) q0
    have Hr : Hid _ := hr
    clear hr
    go_enter Try.func58, Try.ntmps58
    go_wp2_with fail
    refine (cR).mono ?_
    rintro e w2 ⟨b2, x, xn, xc, x', xn', xc', z, rfl, hz⟩
    clear hW0 x0 x1 x2 x3 x4 x5 cR hs
    obtain ⟨W2, hW2⟩ : ∃ W2, w2.alloc (.cells #[.slice x xn xc, .slice x' xn' xc'] 67) = W2 := ⟨_, rfl⟩
    have bw2 : Below w2.heap.size w2 W2 := by subst hW2; exact below_alloc _ _
    have b02 : Below W0.heap.size W0 W2 := Below.comp b2 bw2
    have HG : Hid (W2.heap[w2.heap.size]? = some (.cells #[.slice x xn xc, .slice x' xn' xc'] 67 (0, 0))) := by subst hW2; exact al1 _ _
    have HR : Hid (W2.heap[s + 1]? = some (.cells #[.slice none 0 0, .slice none 0 0] 67 (0, 0))) := box_on HA2.out b02
    have gw2 : Below w.heap.size w W2 := Below.comp q0 b02
    obtain ⟨y0, y1, -, -⟩ := box2_cells HG.out
    obtain ⟨y2, y3, y4, y5⟩ := box2_cells HR.out
    cases hrd : rd N 20 root with
    | none =>
      rw [hrd] at hz
      have hno : o = none := Hnone.out (fun t ht => by have := (spec_is.2 ht).2.1; rw [hrd] at this; simp at this)
      simp only [Option.isSome_none]
      go_wp2_with fail
      obtain ⟨W3, hW3⟩ : ∃ W3, ((W2.setCell ⟨s + 1, 0, none⟩ (.slice none 0 0)).setCell ⟨s + 1, 1, none⟩ (.slice none 0 0)) = W3 := ⟨_, rfl⟩
      have zr : s + 1 < W2.heap.size := box_lt HR.out
      have o2 : Out (s + 1) (s + 1 + 1) W2 W3 := by
        subst hW3
        exact ((Out.refl (s + 1) (s + 1 + 1) W2).setCell (b := s + 1) (by omega) (by omega) 0 _).setCell (b := s + 1) (by omega) (by omega) 1 _
      have R : W3.heap[s + 1]? = some (.cells #[.slice none 0 0, .slice none 0 0] 67 (0, 0)) := by
        subst hW3
        exact box2_set HR.out
      rw [hW3]
      obtain ⟨t0, t1, -, -⟩ := box2_cells R
      have z4 := Hhs.out
      have g9 : Below w.heap.size w W3 := (gw2).trans ((o2.below (by omega)).mono (by omega))
      exact bodyPost_ret (v := .tuple #[sz0, .bool false]) (by simp [results, Try.results58, go_sem, t0, t1]) rfl (OfA.no hno rfl g9)
    | some r =>
      rw [hrd] at hz
      obtain ⟨hz1, sx⟩ := hz r rfl
      have hRd := rd_sound 20 root r hrd
      have Hrd : Hid _ := hrd
      simp only [Option.isSome_some]
      obtain ⟨n, z'⟩ := r
      simp only at hz1 sx hRd
      subst hz1
      clear hrd hz
      by_cases hz0 : z = 0
      · subst hz0
        have sn : SN W2 20 (nv x xn xc x' xn' xc') n := (sx.sn).below bw2
        have hfl : (flat n).length ≤ 100000000 := Nat.le_trans hRd.len (Nat.le_trans (bk_ksum N) (by omega))
        have cD := l7Deep_any 20 _ n true W2 sn hRd.wf hfl (by omega)
        have hdpl := dp_le 20 W2 _ n true sn
        obtain ⟨dn, hdn⟩ : ∃ dn, dp n true = dn := ⟨_, rfl⟩
        rw [hdn] at cD hdpl
        have Hdn : Hid _ := hdn
        clear hdn
        by_cases hd0 : dn = 0
        · subst hd0
          have hno : o = none := Hnone.out (fun t ht => by
            obtain ⟨-, h1, h2, -, -⟩ := spec_is.2 ht
            rw [Hrd.out] at h1
            simp only [Option.some.injEq, Prod.mk.injEq, and_true] at h1
            subst h1
            exact h2 Hdn.out)
          go_wp2_with (go_at_call 74; refine (cD).mono ?_; rintro e w3 ⟨rfl, b3⟩; have HR3 : Hid (w3.heap[s + 1]? = some (.cells #[.slice none 0 0, .slice none 0 0] 67 (0, 0))) := box_on HR.out b3; obtain ⟨i2, i3, i4, i5⟩ := box2_cells HR3.out)
          obtain ⟨W3, hW3⟩ : ∃ W3, ((w3.setCell ⟨s + 1, 0, none⟩ (.slice none 0 0)).setCell ⟨s + 1, 1, none⟩ (.slice none 0 0)) = W3 := ⟨_, rfl⟩
          have zr : s + 1 < w3.heap.size := box_lt HR3.out
          have o2 : Out (s + 1) (s + 1 + 1) w3 W3 := by
            subst hW3
            exact ((Out.refl (s + 1) (s + 1 + 1) w3).setCell (b := s + 1) (by omega) (by omega) 0 _).setCell (b := s + 1) (by omega) (by omega) 1 _
          have R : W3.heap[s + 1]? = some (.cells #[.slice none 0 0, .slice none 0 0] 67 (0, 0)) := by
            subst hW3
            exact box2_set HR3.out
          rw [hW3]
          obtain ⟨t0, t1, -, -⟩ := box2_cells R
          have z4 := Hhs.out
          have g9 : Below w.heap.size w W3 := (Below.comp gw2 b3).trans ((o2.below (by omega)).mono (by omega))
          exact bodyPost_ret (v := .tuple #[sz0, .bool false]) (by simp [results, Try.results58, go_sem, t0, t1]) rfl (OfA.no hno rfl g9)
        · have hd1 : ((dn : Int) == 0) = false := by simp; omega
          go_wp2_with (go_at_call 74; refine (cD).mono ?_; rintro e w3 ⟨rfl, b3⟩; have HR3 : Hid (w3.heap[s + 1]? = some (.cells #[.slice none 0 0, .slice none 0 0] 67 (0, 0))) := box_on HR.out b3; have HG3 : Hid (w3.heap[w2.heap.size]? = some (.cells #[.slice x xn xc, .slice x' xn' xc'] 67 (0, 0))) := box_on HG.out b3; obtain ⟨j0, j1, -, -⟩ := box2_cells HG3.out)
          have sn3 := sn.below b3
          have cK := l7Keys_any 20 _ n w3 sn3 hRd.wf hfl
          have Hnil : Hid (∀ t, Is N root t → t = n) := fun t ht => by
            have h1 := (spec_is.2 ht).2.1
            rw [Hrd.out] at h1
            simp only [Option.some.injEq, Prod.mk.injEq, and_true] at h1
            exact h1.symm
          have gw3 := Below.comp gw2 b3
          have HSX : Hid (SX w2 (fun b => b < w.heap.size ∨ W0.heap.size ≤ b) 20 (nv x xn xc x' xn' xc') n) := sx
          have bb3 : Below w2.heap.size w2 w3 := Below.comp bw2 b3
          have zA2 : s + 1 < W0.heap.size := box_lt HA2.out
          clear y0 y1 y2 y3 y4 y5 hW2 cD sn sx
          go_wp2_with fail
          refine (cK).mono ?_
          rintro e w4 ⟨b4, u, rfl, au, cu, rfl, hu1, hu2⟩
          have HR4 : Hid (w4.heap[s + 1]? = some (.cells #[.slice none 0 0, .slice none 0 0] 67 (0, 0))) := box_on HR3.out b4
          have HG4 : Hid (w4.heap[w2.heap.size]? = some (.cells #[.slice x xn xc, .slice x' xn' xc'] 67 (0, 0))) := box_on HG3.out b4
          have bb4 : Below w2.heap.size w2 w4 := Below.comp bb3 b4
          have gw4 := Below.comp gw3 b4
          clear cK j0 j1 sn3
          obtain ⟨l, hl⟩ : ∃ l, flat n = l := ⟨_, rfl⟩
          rw [hl] at hu1 hu2 hfl ⊢
          have Hl : Hid _ := hl
          clear hl
          obtain ⟨m, hm⟩ : ∃ m, l.length = m := ⟨_, rfl⟩
          unfold Ints at hu2
          rw [hm] at hu1 hu2 hfl ⊢
          have Hm : Hid _ := hm
          clear hm
          obtain ⟨j0, j1, -, -⟩ := box2_cells HG4.out
          obtain ⟨j2, j3, j4, j5⟩ := box2_cells HR4.out
          go_wp2_with fail
          go_loopw [42] (fun i wr => ∃ k : Nat, k ≤ m ∧ i = .int .i64 k ∧ (∀ i, i < k → (0 ≤ gi l i ∧ gi l i ≤ 1000000) ∧ (0 < i → gi l (i - 1) < gi l i)) ∧ wr = w4) (fun i _ => m - (intOf i).toNat)
          case atStart => exact ⟨0, Nat.zero_le _, rfl, fun i hi => absurd hi (by omega), rfl⟩
          case round =>
            obtain ⟨k, hk, rfl, hP, rfl⟩ := hrel
            have HP : Hid _ := hP
            clear hP
            by_cases hlt : k < m
            · obtain ⟨ub, uo, rfl, hcell⟩ := hu2 (by omega)
              have kc : wr.cell? ⟨ub, uo + k, none⟩ = some (iv (gi l k)) := hcell k hlt
              have hnoR : ((0 ≤ gi l k ∧ gi l k ≤ 1000000) ∧ (0 < k → gi l (k - 1) < gi l k)) ∨ o = none := by
                by_cases hh : (0 ≤ gi l k ∧ gi l k ≤ 1000000) ∧ (0 < k → gi l (k - 1) < gi l k)
                · exact .inl hh
                · refine .inr (Hnone.out (fun t ht => hh ?_))
                  have e := Hnil.out t ht
                  subst e
                  obtain ⟨-, -, -, h3, -⟩ := spec_is.2 ht
                  rw [Hl.out] at h3
                  have hkl : k < l.length := by rw [Hm.out]; exact hlt
                  refine ⟨by rw [gi_eq hkl]; exact h3.2 _ (List.getElem_mem hkl), fun h0 => ?_⟩
                  rw [gi_eq hkl, gi_eq (by omega)]
                  exact List.pairwise_iff_getElem.1 h3.1 (k - 1) k (by omega) hkl (by omega)
              have c47 := fun W => l1In_any (gi l k) 0 1000000 W
              have Hcell : Hid _ := hcell
              have HnoR : Hid _ := hnoR
              clear hcell hnoR hu2
              by_cases hk0 : k = 0
              · have HK0 : Hid _ := hk0
                have q1 : decide ((0 : Int) < (k : Int)) = false := decide_eq_false (by omega)
                have q1' : ¬ ((0 : Int) < (k : Int)) := by omega
                clear hk0
                generalize hK : gi l k = K at kc c47 HnoR
                have HK : Hid _ := hK
                clear hK
                by_cases hin : 0 ≤ K ∧ K ≤ 1000000
                · have e1 : (decide (0 ≤ K) && decide (K ≤ 1000000)) = true := by simp; exact hin
                  rw [e1] at c47
                  go_wp2_with (go_at_call 47; refine (c47 _).mono ?_; rintro e w9 ⟨rfl, h9⟩; have h9' := h9.symm; subst h9')
                  go_roundw
                  case rel =>
                    refine ⟨k + 1, by omega, by go_num, fun i hi => ?_, trivial⟩
                    by_cases e : i = k
                    · subst e
                      exact ⟨by rw [HK.out]; exact hin, fun h0 => absurd HK0.out (by omega)⟩
                    · exact HP.out i (by omega)
                  case measure => simp [intOf]; omega
                · have e1 : (decide (0 ≤ K) && decide (K ≤ 1000000)) = false := by
                    rw [Bool.and_eq_false_iff]
                    simp only [decide_eq_false_iff_not]
                    omega
                  rw [e1] at c47
                  have hno : o = none := by rcases HnoR.out with h | h; exact absurd h.1 hin; exact h
                  go_wp2_with (go_at_call 47; refine (c47 _).mono ?_; rintro e w9 ⟨rfl, h9⟩; have h9' := h9.symm; subst h9')
                  obtain ⟨W3, hW3⟩ : ∃ W3, ((wr.setCell ⟨s + 1, 0, none⟩ (.slice none 0 0)).setCell ⟨s + 1, 1, none⟩ (.slice none 0 0)) = W3 := ⟨_, rfl⟩
                  have zr : s + 1 < wr.heap.size := box_lt HR4.out
                  have o2 : Out (s + 1) (s + 1 + 1) wr W3 := by
                    subst hW3
                    exact ((Out.refl (s + 1) (s + 1 + 1) wr).setCell (b := s + 1) (by omega) (by omega) 0 _).setCell (b := s + 1) (by omega) (by omega) 1 _
                  have R : W3.heap[s + 1]? = some (.cells #[.slice none 0 0, .slice none 0 0] 67 (0, 0)) := by
                    subst hW3
                    exact box2_set HR4.out
                  rw [hW3]
                  obtain ⟨t0, t1, -, -⟩ := box2_cells R
                  have z4 := Hhs.out
                  have g9 : Below w.heap.size w W3 := (gw4).trans ((o2.below (by omega)).mono (by omega))
                  exact bodyPost_ret (v := .tuple #[sz0, .bool false]) (by simp [results, Try.results58, go_sem, t0, t1]) rfl (OfA.no hno rfl g9)
              · have q1 : (0 : Int) < (k : Int) := by omega
                have kp : wr.cell? ⟨ub, uo + (k - 1), none⟩ = some (iv (gi l (k - 1))) := Hcell.out (k - 1) (by omega)
                have ek : ((k : Int) - 1) = ((k - 1 : Nat) : Int) := by omega
                have hk9 : k - 1 < m := by omega
                generalize hK : gi l k = K at kc c47 HnoR
                generalize hL : gi l (k - 1) = L at kp HnoR
                have HK : Hid _ := hK
                have HL : Hid _ := hL
                clear hK hL
                have HK1 : Hid _ := hk0
                clear hk0
                by_cases hin : 0 ≤ K ∧ K ≤ 1000000
                · have e1 : (decide (0 ≤ K) && decide (K ≤ 1000000)) = true := by simp; exact hin
                  rw [e1] at c47
                  by_cases hLK : K ≤ L
                  · have hno : o = none := by rcases HnoR.out with h | h; exact absurd (h.2 (by omega)) (by omega); exact h
                    go_wp2_with (go_at_call 47; refine (c47 _).mono ?_; rintro e w9 ⟨rfl, h9⟩; have h9' := h9.symm; subst h9')
                    obtain ⟨W3, hW3⟩ : ∃ W3, ((wr.setCell ⟨s + 1, 0, none⟩ (.slice none 0 0)).setCell ⟨s + 1, 1, none⟩ (.slice none 0 0)) = W3 := ⟨_, rfl⟩
                    have zr : s + 1 < wr.heap.size := box_lt HR4.out
                    have o2 : Out (s + 1) (s + 1 + 1) wr W3 := by
                      subst hW3
                      exact ((Out.refl (s + 1) (s + 1 + 1) wr).setCell (b := s + 1) (by omega) (by omega) 0 _).setCell (b := s + 1) (by omega) (by omega) 1 _
                    have R : W3.heap[s + 1]? = some (.cells #[.slice none 0 0, .slice none 0 0] 67 (0, 0)) := by
                      subst hW3
                      exact box2_set HR4.out
                    rw [hW3]
                    obtain ⟨t0, t1, -, -⟩ := box2_cells R
                    have z4 := Hhs.out
                    have g9 : Below w.heap.size w W3 := (gw4).trans ((o2.below (by omega)).mono (by omega))
                    exact bodyPost_ret (v := .tuple #[sz0, .bool false]) (by simp [results, Try.results58, go_sem, t0, t1]) rfl (OfA.no hno rfl g9)
                  · go_wp2_with (go_at_call 47; refine (c47 _).mono ?_; rintro e w9 ⟨rfl, h9⟩; have h9' := h9.symm; subst h9')
                    go_roundw
                    case rel =>
                      refine ⟨k + 1, by omega, by go_num, fun i hi => ?_, trivial⟩
                      by_cases e : i = k
                      · subst e
                        exact ⟨by rw [HK.out]; exact hin, fun h0 => by rw [HK.out, HL.out]; omega⟩
                      · exact HP.out i (by omega)
                    case measure => simp [intOf]; omega
                · have e1 : (decide (0 ≤ K) && decide (K ≤ 1000000)) = false := by
                    rw [Bool.and_eq_false_iff]
                    simp only [decide_eq_false_iff_not]
                    omega
                  rw [e1] at c47
                  have hno : o = none := by rcases HnoR.out with h | h; exact absurd h.1 hin; exact h
                  go_wp2_with (go_at_call 47; refine (c47 _).mono ?_; rintro e w9 ⟨rfl, h9⟩; have h9' := h9.symm; subst h9')
                  obtain ⟨W3, hW3⟩ : ∃ W3, ((wr.setCell ⟨s + 1, 0, none⟩ (.slice none 0 0)).setCell ⟨s + 1, 1, none⟩ (.slice none 0 0)) = W3 := ⟨_, rfl⟩
                  have zr : s + 1 < wr.heap.size := box_lt HR4.out
                  have o2 : Out (s + 1) (s + 1 + 1) wr W3 := by
                    subst hW3
                    exact ((Out.refl (s + 1) (s + 1 + 1) wr).setCell (b := s + 1) (by omega) (by omega) 0 _).setCell (b := s + 1) (by omega) (by omega) 1 _
                  have R : W3.heap[s + 1]? = some (.cells #[.slice none 0 0, .slice none 0 0] 67 (0, 0)) := by
                    subst hW3
                    exact box2_set HR4.out
                  rw [hW3]
                  obtain ⟨t0, t1, -, -⟩ := box2_cells R
                  have z4 := Hhs.out
                  have g9 : Below w.heap.size w W3 := (gw4).trans ((o2.below (by omega)).mono (by omega))
                  exact bodyPost_ret (v := .tuple #[sz0, .bool false]) (by simp [results, Try.results58, go_sem, t0, t1]) rfl (OfA.no hno rfl g9)
            · have hkm : k = m := by omega
              have hRis : Hid (Ris l) := by
                refine ⟨List.pairwise_iff_getElem.2 (fun i j hi hj hij => ?_), fun x hx => ?_⟩
                · have key : ∀ d i, i + d + 1 < l.length → gi l i < gi l (i + d + 1) := by
                    intro d
                    induction d with
                    | zero => intro i hi; have := (HP.out (i + 1) (by rw [hkm, ← Hm.out]; omega)).2 (by omega); simpa using this
                    | succ d ihd =>
                      intro i hi
                      have h1 := ihd i (by omega)
                      have h2 := (HP.out (i + d + 1 + 1) (by rw [hkm, ← Hm.out]; omega)).2 (by omega)
                      simp only [Nat.add_sub_cancel] at h2
                      have e : i + (d + 1) + 1 = i + d + 1 + 1 := by omega
                      rw [e]
                      omega
                  have := key (j - i - 1) i (by omega)
                  rw [show i + (j - i - 1) + 1 = j by omega, gi_eq hi, gi_eq hj] at this
                  exact this
                · obtain ⟨i, hi, rfl⟩ := List.mem_iff_getElem.1 hx
                  have := (HP.out i (by rw [hkm, ← Hm.out]; exact hi)).1
                  rwa [gi_eq hi] at this
              have HKM : Hid _ := hkm
              clear hkm
              by_cases h200 : m ≤ 200
              · have hyes : o = some n := (Hho.out n).2 (spec_is.1 ⟨Hr.out, Hrd.out, by rw [Hdn.out]; exact hd0, by rw [Hl.out]; exact hRis.out, by rw [Hl.out, Hm.out]; exact h200⟩)
                go_wp2_with fail
                obtain ⟨W3, hW3⟩ : ∃ W3, ((wr.setCell ⟨s + 1, 0, none⟩ (.slice x xn xc)).setCell ⟨s + 1, 1, none⟩ (.slice x' xn' xc')) = W3 := ⟨_, rfl⟩
                have zr : s + 1 < wr.heap.size := box_lt HR4.out
                have o2 : Out (s + 1) (s + 1 + 1) wr W3 := by
                  subst hW3
                  exact ((Out.refl (s + 1) (s + 1 + 1) wr).setCell (b := s + 1) (by omega) (by omega) 0 _).setCell (b := s + 1) (by omega) (by omega) 1 _
                have R : W3.heap[s + 1]? = some (.cells #[.slice x xn xc, .slice x' xn' xc'] 67 (0, 0)) := by
                  subst hW3
                  exact box2_set HR4.out
                rw [hW3]
                obtain ⟨t0, t1, -, -⟩ := box2_cells R
                have z4 := Hhs.out
                have g9 : Below w.heap.size w W3 := (gw4).trans ((o2.below (by omega)).mono (by omega))
                exact bodyPost_ret (v := .tuple #[nv x xn xc x' xn' xc', .bool true]) (by simp [results, Try.results58, go_sem, t0, t1]; omega) rfl (OfA.yes hyes rfl g9 (((HSX.out.keep (Kp.of_below bb4)).keep (Kp.of_out o2 (fun b hb => by omega))).sn))
              · have hno : o = none := Hnone.out (fun t ht => by
                  have e := Hnil.out t ht
                  subst e
                  have h5 := (spec_is.2 ht).2.2.2.2
                  rw [Hl.out, Hm.out] at h5
                  exact h200 h5)
                go_wp2_with fail
                obtain ⟨W3, hW3⟩ : ∃ W3, ((wr.setCell ⟨s + 1, 0, none⟩ (.slice x xn xc)).setCell ⟨s + 1, 1, none⟩ (.slice x' xn' xc')) = W3 := ⟨_, rfl⟩
                have zr : s + 1 < wr.heap.size := box_lt HR4.out
                have o2 : Out (s + 1) (s + 1 + 1) wr W3 := by
                  subst hW3
                  exact ((Out.refl (s + 1) (s + 1 + 1) wr).setCell (b := s + 1) (by omega) (by omega) 0 _).setCell (b := s + 1) (by omega) (by omega) 1 _
                have R : W3.heap[s + 1]? = some (.cells #[.slice x xn xc, .slice x' xn' xc'] 67 (0, 0)) := by
                  subst hW3
                  exact box2_set HR4.out
                rw [hW3]
                obtain ⟨t0, t1, -, -⟩ := box2_cells R
                have z4 := Hhs.out
                have g9 : Below w.heap.size w W3 := (gw4).trans ((o2.below (by omega)).mono (by omega))
                exact bodyPost_ret (v := .tuple #[nv x xn xc x' xn' xc', .bool false]) (by simp [results, Try.results58, go_sem, t0, t1]; omega) rfl (OfA.no hno rfl g9)
      · have hz2 : (z != 0) = true := by simp; exact hz0
        have hno : o = none := Hnone.out (fun t ht => by
          have h1 := (spec_is.2 ht).2.1
          rw [Hrd.out] at h1
          simp only [Option.some.injEq, Prod.mk.injEq] at h1
          exact hz0 h1.2)
        go_wp2_with fail
        obtain ⟨W3, hW3⟩ : ∃ W3, ((W2.setCell ⟨s + 1, 0, none⟩ (.slice none 0 0)).setCell ⟨s + 1, 1, none⟩ (.slice none 0 0)) = W3 := ⟨_, rfl⟩
        have zr : s + 1 < W2.heap.size := box_lt HR.out
        have o2 : Out (s + 1) (s + 1 + 1) W2 W3 := by
          subst hW3
          exact ((Out.refl (s + 1) (s + 1 + 1) W2).setCell (b := s + 1) (by omega) (by omega) 0 _).setCell (b := s + 1) (by omega) (by omega) 1 _
        have R : W3.heap[s + 1]? = some (.cells #[.slice none 0 0, .slice none 0 0] 67 (0, 0)) := by
          subst hW3
          exact box2_set HR.out
        rw [hW3]
        obtain ⟨t0, t1, -, -⟩ := box2_cells R
        have z4 := Hhs.out
        have g9 : Below w.heap.size w W3 := (gw2).trans ((o2.below (by omega)).mono (by omega))
        exact bodyPost_ret (v := .tuple #[sz0, .bool false]) (by simp [results, Try.results58, go_sem, t0, t1]) rfl (OfA.no hno rfl g9)
  · have hr1 : (root != (N.length : Int) - 1) = true := by simp; exact hr
    have hno : o = none := Hnone.out (fun t ht => hr (spec_is.2 ht).1)
    go_enter Try.func58, Try.ntmps58
    go_wp2_with fail
    obtain ⟨W3, hW3⟩ : ∃ W3, ((W0.setCell ⟨s + 1, 0, none⟩ (.slice none 0 0)).setCell ⟨s + 1, 1, none⟩ (.slice none 0 0)) = W3 := ⟨_, rfl⟩
    have zr : s + 1 < W0.heap.size := box_lt HA2.out
    have o2 : Out (s + 1) (s + 1 + 1) W0 W3 := by
      subst hW3
      exact ((Out.refl (s + 1) (s + 1 + 1) W0).setCell (b := s + 1) (by omega) (by omega) 0 _).setCell (b := s + 1) (by omega) (by omega) 1 _
    have R : W3.heap[s + 1]? = some (.cells #[.slice none 0 0, .slice none 0 0] 67 (0, 0)) := by
      subst hW3
      exact box2_set HA2.out
    rw [hW3]
    obtain ⟨t0, t1, -, -⟩ := box2_cells R
    have z4 := Hhs.out
    have g9 : Below w.heap.size w W3 := (q0).trans ((o2.below (by omega)).mono (by omega))
    exact bodyPost_ret (v := .tuple #[sz0, .bool false]) (by simp [results, Try.results58, go_sem, t0, t1]) rfl (OfA.no hno rfl g9)
end Go.Proofs.Ytggkpcgjmanelaa
