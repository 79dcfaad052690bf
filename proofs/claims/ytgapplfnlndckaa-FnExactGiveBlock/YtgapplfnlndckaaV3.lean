import Derived.Test.YtgapplfnlndckaaV2
import Derived.Test.YtgapplfnlndckaaT3
/- spec.TakeBlock. -/
namespace Go.Proofs.Ytgapplfnlndckaa
open Go.ChangeShapes Go.WideShapes Go.ChangeAt Go.RowKit
set_option linter.unusedVariables false
open Room

attribute [local go_sem] Oper.semAt_some

/-- The best so far. -/
def Bst (F : List Ex) (o : Int) (k : Nat) (be : Int) : Prop :=
  (be = -1 ∧ ∀ i, i < k → (gx F i).2 < o) ∨ ∃ j : Nat, be = (j : Int) ∧ j < k ∧ o ≤ (gx F j).2 ∧ (∀ i, i < k → o ≤ (gx F i).2 → (gx F j).2 ≤ (gx F i).2) ∧ ∀ i, i < j → o ≤ (gx F i).2 → (gx F j).2 < (gx F i).2
theorem bst_skip {F : List Ex} {o : Int} {k : Nat} {be : Int} (h : Bst F o k be) (hk : (gx F k).2 < o) : Bst F o (k + 1) be := by
  rcases h with ⟨h1, h2⟩ | ⟨j, h1, h2, h3, h4, h5⟩
  · refine .inl ⟨h1, fun i hi => ?_⟩
    rcases Nat.lt_succ_iff_lt_or_eq.1 hi with q | q
    · exact h2 i q
    · subst q; exact hk
  · refine .inr ⟨j, h1, by omega, h3, fun i hi ho => ?_, h5⟩
    rcases Nat.lt_succ_iff_lt_or_eq.1 hi with q | q
    · exact h4 i q ho
    · subst q; omega
theorem bst_new {F : List Ex} {o : Int} {k : Nat} (h : Bst F o k (-1)) (hk : o ≤ (gx F k).2) : Bst F o (k + 1) (k : Int) := by
  rcases h with ⟨h1, h2⟩ | ⟨j, h1, _⟩
  · refine .inr ⟨k, rfl, by omega, hk, fun i hi ho => ?_, fun i hi ho => ?_⟩
    · rcases Nat.lt_succ_iff_lt_or_eq.1 hi with q | q
      · have := h2 i q; omega
      · subst q; omega
    · have := h2 i hi; omega
  · omega
theorem bst_less {F : List Ex} {o : Int} {k j : Nat} (h : Bst F o k (j : Int)) (hk : o ≤ (gx F k).2) (hl : (gx F k).2 < (gx F j).2) : Bst F o (k + 1) (k : Int) := by
  rcases h with ⟨h1, h2⟩ | ⟨i, h1, h2, h3, h4, h5⟩
  · omega
  · obtain rfl : j = i := by omega
    refine .inr ⟨k, rfl, by omega, hk, fun i hi ho => ?_, fun i hi ho => ?_⟩
    · rcases Nat.lt_succ_iff_lt_or_eq.1 hi with q | q
      · have := h4 i q ho; omega
      · subst q; omega
    · have := h4 i hi ho; omega
theorem bst_keep {F : List Ex} {o : Int} {k j : Nat} (h : Bst F o k (j : Int)) (hl : ¬ (gx F k).2 < (gx F j).2) : Bst F o (k + 1) (j : Int) := by
  rcases h with ⟨h1, h2⟩ | ⟨i, h1, h2, h3, h4, h5⟩
  · omega
  · obtain rfl : j = i := by omega
    refine .inr ⟨j, rfl, by omega, h3, fun i hi ho => ?_, h5⟩
    rcases Nat.lt_succ_iff_lt_or_eq.1 hi with q | q
    · exact h4 i q ho
    · subst q; omega
theorem bst_lt {F : List Ex} {o : Int} {k j : Nat} (h : Bst F o k (j : Int)) : j < k := by
  rcases h with ⟨h1, h2⟩ | ⟨i, h1, h2, _⟩ <;> omega
theorem bst_end {F : List Ex} {o : Int} {j : Nat} (h : Bst F o F.length (j : Int)) : Best F o j := by
  rcases h with ⟨h1, h2⟩ | ⟨i, h1, h2, h3, h4, h5⟩
  · omega
  · obtain rfl : j = i := by omega
    exact ⟨h2, h3, h4, h5⟩
theorem owns_out {w w' : World} {B C E : Nat} {v : Value} {l : List Ex} (h : OwnR w B v l) (ho : Out C E w w') (hE : E ≤ B) : OwnR w' B v l := by
  refine ⟨h.1, ?_⟩
  rcases h.2 with q | ⟨g, cap, cur, h1, hb, hg, r⟩
  · exact .inl q
  · exact .inr ⟨g, cap, cur, h1, hb, (ho.block g (box_lt hg) (.inr (by omega))).trans hg, r⟩
theorem cutF_len {p : Int} {o : Nat} : ∀ {n : Nat} {l : List Ex}, (cutF p o n l).length = l.length + n
  | 0, l => rfl
  | n + 1, l => by rw [cutF, cutF_len, put_len]; omega

set_option maxHeartbeats 4000000 in
theorem specTake_any (b : Int) (a : Option Addr) (ca : Nat) (a' : Option Addr) (ca' : Nat) (F U : List Ex) (o : Int) (w : World) (hn : F.length ≤ 1048576) (hn' : U.length ≤ 1048576) (hca : F.length ≤ ca) (hca' : U.length ≤ ca') (ha : Exs w a F) (ha' : Exs w a' U) :
    Calls Try.prog 19 #[fv b a F.length ca a' U.length ca', .int .i64 o] w fun e w' => Below w.heap.size w w' ∧ AnsE w.heap.size w' (tkA b F U o) e := by
  obtain ⟨D, hD⟩ : ∃ D, w.heap.size = D := ⟨_, rfl⟩
  obtain ⟨W0, hW0⟩ : ∃ W0, (w.alloc (.cells #[.int .i64 b, .slice a F.length ca, .slice a' U.length ca'] 24)).alloc (.cells #[.int .i64 0, .slice none 0 0, .slice none 0 0] 24) = W0 := ⟨_, rfl⟩
  have g0 : Below w.heap.size w W0 := by subst hW0; exact ba2 _ _ _
  obtain ⟨B1, B2⟩ : W0.heap[D]? = some (.cells #[.int .i64 b, .slice a F.length ca, .slice a' U.length ca'] 24 (0, 0)) ∧ W0.heap[D + 1]? = some (.cells #[.int .i64 0, .slice none 0 0, .slice none 0 0] 24 (0, 0)) := by subst hW0 hD; exact al2 _ _ _
  have HB : Hid (W0.heap[D]? = some (.cells #[.int .i64 b, .slice a F.length ca, .slice a' U.length ca'] 24 (0, 0))) := B1
  have HR : Hid (W0.heap[D + 1]? = some (.cells #[.int .i64 0, .slice none 0 0, .slice none 0 0] 24 (0, 0))) := B2
  have z0 : D + 1 < W0.heap.size := box_lt B2
  obtain ⟨i0, i1, i2, -, -, -⟩ := box3_cells B1
  clear B1 B2
  have cg := specGood_any b a ca a' ca' F U W0 hn hn' (ha.below g0) (ha'.below g0)
  have NO : Hid (∀ (W : World), Below w.heap.size w W → ∀ e, e = .returned (.tuple #[fv 0 none 0 0 none 0 0, .int .i64 0, .bool false]) → tkA b F U o = noA → AnsE w.heap.size W (tkA b F U o) e) := fun W hW e he h => by
    rw [h]
    exact ⟨_, he, FreeAt.nil (by have := hW.size; omega)⟩
  have c31 := fun W => l1In_any o 0 b W
  obtain ⟨r, hr⟩ : ∃ r, good b F U = r := ⟨_, rfl⟩
  rw [hr] at cg
  obtain ⟨t, ht⟩ : ∃ t, (decide (0 ≤ o) && decide (o ≤ b)) = t := ⟨_, rfl⟩
  rw [ht] at c31
  have HRr : Hid (good b F U = r) := hr
  have HT : Hid ((decide (0 ≤ o) && decide (o ≤ b)) = t) := ht
  clear hr ht
  go_enter Try.func19, Try.ntmps19
  go_wp2_with fail
  refine cg.mono ?_
  rintro e w1 ⟨rfl, b1⟩
  clear hW0 i0 i1 i2 cg
  have g1 := Below.comp g0 b1
  have HR1 : Hid (w1.heap[D + 1]? = some (.cells #[.int .i64 0, .slice none 0 0, .slice none 0 0] 24 (0, 0))) := box_on HR.out b1
  have HB1 : Hid (w1.heap[D]? = some (.cells #[.int .i64 b, .slice a F.length ca, .slice a' U.length ca'] 24 (0, 0))) := box_on HB.out b1
  obtain ⟨i0, i1, i2, -, -, -⟩ := box3_cells HB1.out
  obtain ⟨r0, r1, r2, q0, q1, q2⟩ := box3_cells HR1.out
  cases r with
  | false =>
    have hnone : tkA b F U o = noA := by unfold tkA; rw [if_neg (by rw [HRr.out]; simp)]
    go_wp2
    obtain ⟨X, hX⟩ : ∃ X, ((w1.setCell ⟨D + 1, 0, none⟩ (.int .i64 0)).setCell ⟨D + 1, 1, none⟩ (.slice none 0 0)).setCell ⟨D + 1, 2, none⟩ (.slice none 0 0) = X := ⟨_, rfl⟩
    have R : X.heap[D + 1]? = some (.cells #[.int .i64 0, .slice none 0 0, .slice none 0 0] 24 (0, 0)) := by subst hX; exact box3_set HR1.out
    have bX : Below w.heap.size w X := by subst hX; exact g1.trans ((box3_out w1 (D + 1) _ _ _).below (by have := b1.size; omega) |>.mono (by omega))
    rw [hX]
    clear hX r0 r1 r2 q0 q1 q2
    obtain ⟨t0, t1, t2, -, -, -⟩ := box3_cells R
    refine bodyPost_ret (v := .tuple #[fv 0 none 0 0 none 0 0, .int .i64 0, .bool false]) (by simp [results, Try.results19, go_sem, t0, t1, t2]) rfl ⟨bX, NO.out X bX _ rfl hnone⟩
  | true =>
    go_wp2_with fail
    refine (c31 _).mono ?_
    rintro e w2 ⟨rfl, hw2⟩
    rw [hw2]
    clear hw2
    cases t with
    | false =>
      have hnone : tkA b F U o = noA := by
        unfold tkA
        by_cases ho : 0 ≤ o
        · rw [if_pos ⟨HRr.out, ho⟩]
          have G := gd_of HRr.out
          have hob : b < o := by
            have := HT.out
            by_cases h : o ≤ b
            · simp [ho, h] at this
            · omega
          rw [bk_none fun i hi => by have := ord_le G G.lf hi; omega]
        · rw [if_neg (fun h => ho h.2)]
      go_wp2
      obtain ⟨X, hX⟩ : ∃ X, ((w1.setCell ⟨D + 1, 0, none⟩ (.int .i64 0)).setCell ⟨D + 1, 1, none⟩ (.slice none 0 0)).setCell ⟨D + 1, 2, none⟩ (.slice none 0 0) = X := ⟨_, rfl⟩
      have R : X.heap[D + 1]? = some (.cells #[.int .i64 0, .slice none 0 0, .slice none 0 0] 24 (0, 0)) := by subst hX; exact box3_set HR1.out
      have bX : Below w.heap.size w X := by subst hX; exact g1.trans ((box3_out w1 (D + 1) _ _ _).below (by have := b1.size; omega) |>.mono (by omega))
      rw [hX]
      clear hX r0 r1 r2 q0 q1 q2
      obtain ⟨t0, t1, t2, -, -, -⟩ := box3_cells R
      refine bodyPost_ret (v := .tuple #[fv 0 none 0 0 none 0 0, .int .i64 0, .bool false]) (by simp [results, Try.results19, go_sem, t0, t1, t2]) rfl ⟨bX, NO.out X bX _ rfl hnone⟩
    | true =>
      have hot : 0 ≤ o ∧ o ≤ b := by have := HT.out; simpa using this
      have G := gd_of HRr.out
      have HTA : Hid (tkA b F U o = (match bk F o with | some k => ⟨b, cutF (gx F k).1 o.toNat ((gx F k).2 - o).toNat (without F k), put ((gx F k).1, o) U, (gx F k).1, true⟩ | none => noA)) := by
        show _ = _
        unfold tkA
        rw [if_pos ⟨HRr.out, hot.1⟩]
        rfl
      have hlf := len_of G.lf (by have := pw_pos b; omega)
      have hlu := len_of G.lu (by have := pw_pos b; omega)
      have hpb : pw b ≤ 256 := by
        have := pw_le (k := b.toNat) (by have := G.b8; omega)
        have e1 : ((b.toNat : Nat) : Int) = b := by have := G.b0; omega
        rw [e1] at this
        exact this
      have HG : Hid (Gd b F U) := G
      have hFl : F.length ≤ 256 := by omega
      have hUl : U.length ≤ 256 := by omega
      clear G HT HRr c31 hlf hlu hpb r0 r1 r2 q0 q1 q2
      go_wp2
      clear i0 i1 i2
      go_loopw [7, 26] (fun be i wr => ∃ (k : Nat) (bi : Int), k ≤ F.length ∧ be = .int .i64 bi ∧ i = .int .i64 k ∧ Hid (Bst F o k bi) ∧ Below w1.heap.size w1 wr) (fun _ i _ => F.length - (intOf i).toNat)
      case atStart => exact ⟨0, -1, Nat.zero_le _, rfl, rfl, .inl ⟨rfl, fun i hi => absurd hi (by omega)⟩, Below.refl _ _⟩
      case round =>
        obtain ⟨k, bi, hk, rfl, rfl, HBs, hb⟩ := hrel
        have hbw := Below.comp g1 hb
        by_cases hlt : k < F.length
        · skip
          obtain ⟨bb, off, rfl, hcell⟩ := (ha.below hbw) (by omega)
          obtain ⟨k0, k1⟩ := hcell k hlt
          have hlt' : (k : Int) < (F.length : Int) := by omega
          obtain ⟨x, hx⟩ : ∃ x, gx F k = x := ⟨_, rfl⟩
          rw [hx] at k0 k1
          have HX : Hid (gx F k = x) := hx
          clear hx
          obtain ⟨p, q⟩ := x
          simp only at k0 k1
          obtain ⟨W2, hW2⟩ : ∃ W2, wr.alloc (.cells #[.int .i64 p, .int .i64 q] 43) = W2 := ⟨_, rfl⟩
          have b2 : Below wr.heap.size wr W2 := by subst hW2; exact below_alloc _ _
          have hE : W2.heap[wr.heap.size]? = some (.cells #[.int .i64 p, .int .i64 q] 43 (0, 0)) := by subst hW2; exact al1 _ _
          obtain ⟨e0, e1, -, -⟩ := box2_cells hE
          obtain ⟨d0, d1, d2, -, -, -⟩ := box3_cells (box_on (box_on HB1.out hb) b2)
          clear hE
          by_cases hoq : o ≤ q
          · have hoq' : decide (o ≤ q) = true := decide_eq_true hoq
            rcases HBs.out with ⟨rfl, -⟩ | ⟨j, rfl, hj, -⟩
            · have hm1 : decide ((-1 : Int) < 0) = true := by decide
              have HN : Hid (Bst F o (k + 1) (k : Int)) := bst_new HBs.out (by rw [HX.out]; exact hoq)
              clear hcell
              go_wp2
              clear hW2
              go_quiet (fail)
              go_wp2
              go_roundw
              case rel => exact ⟨k + 1, (k : Int), by omega, rfl, by go_num, HN, Below.comp hb (below_drewN b2 _)⟩
              case measure => simp [intOf]; omega
            · obtain ⟨m0, m1⟩ := hcell j (by omega)
              obtain ⟨z, hz⟩ : ∃ z, (gx F j).2 = z := ⟨_, rfl⟩
              rw [hz] at m1
              have HZ : Hid ((gx F j).2 = z) := hz
              have m1' := cell_on m1 b2
              have hj0 : decide ((j : Int) < 0) = false := decide_eq_false (by omega)
              have hjF : (j : Int) < (F.length : Int) := by omega
              clear hz hcell m0 m1
              by_cases hqz : q < z
              · have hqz' : decide (q < z) = true := decide_eq_true hqz
                have HN : Hid (Bst F o (k + 1) (k : Int)) := bst_less HBs.out (by rw [HX.out]; exact hoq) (by rw [HX.out, HZ.out]; exact hqz)
                go_wp2
                clear hW2
                go_quiet (fail)
                go_wp2
                go_roundw
                case rel => exact ⟨k + 1, (k : Int), by omega, rfl, by go_num, HN, Below.comp hb (below_drewN b2 _)⟩
                case measure => simp [intOf]; omega
              · have hqz' : decide (q < z) = false := decide_eq_false hqz
                have HN : Hid (Bst F o (k + 1) (j : Int)) := bst_keep HBs.out (by rw [HX.out, HZ.out]; exact hqz)
                go_wp2
                clear hW2
                go_quiet (fail)
                go_wp2
                go_roundw
                case rel => exact ⟨k + 1, (j : Int), by omega, rfl, by go_num, HN, Below.comp hb (below_drewN b2 _)⟩
                case measure => simp [intOf]; omega
          · have hoq' : decide (o ≤ q) = false := decide_eq_false hoq
            have HN : Hid (Bst F o (k + 1) bi) := bst_skip HBs.out (by rw [HX.out]; omega)
            clear hcell
            go_wp2
            clear hW2
            go_quiet (fail)
            go_wp2
            go_roundw
            case rel => exact ⟨k + 1, bi, by omega, rfl, by go_num, HN, Below.comp hb (below_drewN b2 _)⟩
            case measure => simp [intOf]; omega
        · skip
          have hkn : k = F.length := by omega
          subst hkn
          have HRr : Hid (wr.heap[D + 1]? = some (.cells #[.int .i64 0, .slice none 0 0, .slice none 0 0] 24 (0, 0))) := box_on HR1.out hb
          have HBr : Hid (wr.heap[D]? = some (.cells #[.int .i64 b, .slice a F.length ca, .slice a' U.length ca'] 24 (0, 0))) := box_on HB1.out hb
          rcases HBs.out with ⟨rfl, hno⟩ | ⟨j, rfl, hj, -⟩
          · have hnone : tkA b F U o = noA := by rw [HTA.out, bk_none hno]
            obtain ⟨r0, r1, r2, q0, q1, q2⟩ := box3_cells HRr.out
            clear hno
            go_wp2
            obtain ⟨X, hX⟩ : ∃ X, ((wr.setCell ⟨D + 1, 0, none⟩ (.int .i64 0)).setCell ⟨D + 1, 1, none⟩ (.slice none 0 0)).setCell ⟨D + 1, 2, none⟩ (.slice none 0 0) = X := ⟨_, rfl⟩
            have R : X.heap[D + 1]? = some (.cells #[.int .i64 0, .slice none 0 0, .slice none 0 0] 24 (0, 0)) := by subst hX; exact box3_set HRr.out
            have bX : Below w.heap.size w X := by subst hX; exact hbw.trans ((box3_out wr (D + 1) _ _ _).below (by have := b1.size; have := hb.size; omega) |>.mono (by omega))
            rw [hX]
            clear hX r0 r1 r2 q0 q1 q2
            obtain ⟨t0, t1, t2, -, -, -⟩ := box3_cells R
            refine bodyPost_ret (v := .tuple #[fv 0 none 0 0 none 0 0, .int .i64 0, .bool false]) (by simp [results, Try.results19, go_sem, t0, t1, t2]) rfl ⟨bX, NO.out X bX _ rfl hnone⟩
          · have hBk := bst_end HBs.out
            have G := HG.out
            have hB1 := lst_mem G.lf (tk_mem hBk.1)
            have iB := isB_iff.1 hB1.1
            obtain ⟨oo, rfl⟩ : ∃ oo : Nat, o = (oo : Int) := ⟨o.toNat, by omega⟩
            obtain ⟨n, hnq⟩ : ∃ n : Nat, (gx F j).2 = ((oo + n : Nat) : Int) := ⟨((gx F j).2 - oo).toNat, by have := hBk.2.1; omega⟩
            have hq8 : oo + n ≤ 8 := by rw [hnq] at iB; omega
            have hTA := HTA.out
            rw [bk_some hBk] at hTA
            have en : ((gx F j).2 - (oo : Int)).toNat = n := by rw [hnq]; omega
            simp only [en, Int.toNat_natCast] at hTA
            have hxB := hB1.1
            have hc42 := fun W h => l6Without_any a ca F j W (by omega) hca hj h
            have hfl : (without F j).length + 1 = F.length := by unfold without; simp; omega
            obtain ⟨L0, hL0⟩ : ∃ L0, without F j = L0 := ⟨_, rfl⟩
            have hL0' : F.take j ++ F.drop (j + 1) = L0 := hL0
            rw [hL0'] at hc42
            rw [hL0] at hTA hfl
            clear hL0 hL0'
            obtain ⟨bb, off, hab, hcell⟩ := (ha.below hbw) (by omega)
            obtain ⟨k0, k1⟩ := hcell j hj
            have hj' : (j : Int) < (F.length : Int) := by omega
            have hj0 : ¬ (j : Int) < 0 := by omega
            obtain ⟨x, hx⟩ : ∃ x, gx F j = x := ⟨_, rfl⟩
            rw [hx] at k0 k1 hTA hnq iB hxB
            obtain ⟨y1, y2⟩ := x
            simp only at k0 k1 hTA hnq iB
            have HTA2 : Hid _ := hTA
            have HX2 : Hid (y2 = ((oo + n : Nat) : Int)) := hnq
            have HXB : Hid (isB (y1, ((oo + n : Nat) : Int)) = true) := by show _ = _; rw [← hnq]; exact hxB
            have hp0 : 0 ≤ y1 ∧ y1 ≤ 1073741824 := by omega
            clear hTA hnq iB hxB hx hcell G hB1 en hBk HTA HG HBs
            obtain ⟨E, hE⟩ : ∃ E, wr.heap.size = E := ⟨_, rfl⟩
            obtain ⟨W2, hW2⟩ : ∃ W2, wr.alloc (.cells #[.int .i64 y1, .int .i64 y2] 43) = W2 := ⟨_, rfl⟩
            have b2 : Below wr.heap.size wr W2 := by subst hW2; exact below_alloc _ _
            have HE : Hid (W2.heap[E]? = some (.cells #[.int .i64 y1, .int .i64 y2] 43 (0, 0))) := by subst hW2 hE; exact al1 _ _
            have HB2 : Hid (W2.heap[D]? = some (.cells #[.int .i64 b, .slice a F.length ca, .slice a' U.length ca'] 24 (0, 0))) := box_on HBr.out b2
            have HR2 : Hid (W2.heap[D + 1]? = some (.cells #[.int .i64 0, .slice none 0 0, .slice none 0 0] 24 (0, 0))) := box_on HRr.out b2
            obtain ⟨d0, d1, d2, -, -, -⟩ := box3_cells HBr.out
            obtain ⟨d3, d4, d5, -, -, -⟩ := box3_cells HB2.out
            have hbw2 := Below.comp hbw b2
            have zE : D + 1 < E := by have := box_lt HRr.out; omega
            go_wp2_with fail
            rw [← hab]
            clear hab
            refine (hc42 _ (ha.below hbw2)).mono ?_
            rintro e w3 ⟨b3, v3, rfl, own3⟩
            obtain ⟨x3, c3, e3⟩ := owns_form own3
            subst e3
            obtain ⟨Z, hZ⟩ : ∃ Z, W2.heap.size = Z := ⟨_, rfl⟩
            have HO3 : Hid (OwnR w3 Z (.slice x3 L0.length c3) L0) := hZ ▸ own3
            have HE3 : Hid (w3.heap[E]? = some (.cells #[.int .i64 y1, .int .i64 y2] 43 (0, 0))) := box_on HE.out b3
            have HB3 : Hid (w3.heap[D]? = some (.cells #[.int .i64 b, .slice a F.length ca, .slice a' U.length ca'] 24 (0, 0))) := box_on HB2.out b3
            have HR3 : Hid (w3.heap[D + 1]? = some (.cells #[.int .i64 0, .slice none 0 0, .slice none 0 0] 24 (0, 0))) := box_on HR2.out b3
            have hb3 : Below D w w3 := hD ▸ Below.comp hbw2 b3
            have zZ : E < Z := by have := box_lt HE.out; omega
            have zZ3 : Z ≤ w3.heap.size := by have := b3.size; omega
            clear own3 hW2 k0 k1 d0 d1 d2 d3 d4 d5 hc42
            go_wp2
            go_loopw [11] (fun fr wi => ∃ (jj : Nat) (L : List Ex) (x : Option Addr) (c : Nat), fr = .slice x L.length c ∧ Hid (OwnR wi Z (.slice x L.length c) L) ∧ wi.heap[D]? = some (.cells #[.int .i64 b, .slice a F.length ca, .slice a' U.length ca'] 24 (0, 0)) ∧ wi.heap[D + 1]? = some (.cells #[.int .i64 0, .slice none 0 0, .slice none 0 0] 24 (0, 0)) ∧ wi.heap[E]? = some (.cells #[.int .i64 y1, .int .i64 ((oo + jj : Nat) : Int)] 43 (0, 0)) ∧ jj ≤ n ∧ L.length + jj ≤ 300 ∧ cutF y1 oo jj L = cutF y1 oo n L0 ∧ Below D w wi ∧ Z ≤ wi.heap.size) (fun _ wi => over E oo wi)
            case atStart => exact ⟨n, L0, x3, c3, rfl, HO3, HB3.out, HR3.out, by rw [HE3.out, HX2.out], Nat.le_refl _, by omega, rfl, hb3, zZ3⟩
            case round =>
              obtain ⟨jj, L, x, c, rfl, HO, B1, B2, B3, hjj, hLl, hcut, hbi, zi⟩ := hrel
              have J1 : Hid (wr.heap[D]? = some (.cells #[.int .i64 b, .slice a F.length ca, .slice a' U.length ca'] 24 (0, 0))) := B1
              have J2 : Hid (wr.heap[D + 1]? = some (.cells #[.int .i64 0, .slice none 0 0, .slice none 0 0] 24 (0, 0))) := B2
              have J3 : Hid (wr.heap[E]? = some (.cells #[.int .i64 y1, .int .i64 ((oo + jj : Nat) : Int)] 43 (0, 0))) := B3
              have HCT : Hid (cutF y1 oo jj L = cutF y1 oo n L0) := hcut
              obtain ⟨e0, e1, f0, f1⟩ := box2_cells B3
              clear B1 B2 B3 hcut
              cases jj with
              | zero =>
                simp only [Nat.add_zero] at J3 e1
                have hLM : L = cutF y1 oo n L0 := HCT.out
                rw [← hLM] at HTA2
                clear HCT hLM
                have hgt : ¬ (oo : Int) < (oo : Int) := by omega
                have hbiw : Below w.heap.size w wr := hD ▸ hbi
                have c43 := fun W (h : Below w.heap.size w W) => l6Put_any a' ca' U (y1, (oo : Int)) W (by omega) hca' (ha'.below h)
                obtain ⟨MU, hMU⟩ : ∃ MU, put (y1, (oo : Int)) U = MU := ⟨_, rfl⟩
                rw [hMU] at c43 HTA2
                clear hMU e0 e1 f0 f1
                have SB : Hid (∀ W, Out (D + 1) (D + 1 + 1) wr W → W.cell? ⟨D, 0, none⟩ = some (.int .i64 b) ∧ W.cell? ⟨D, 2, none⟩ = some (.slice a' U.length ca') ∧ W.cell? ⟨E, 0, none⟩ = some (.int .i64 y1) ∧ W.cell? ⟨E, 1, none⟩ = some (.int .i64 (oo : Int)) ∧ Out (D + 1) (D + 1 + 1) wr W) := fun W z => by
                  obtain ⟨h0, -, h2, -⟩ := box3_cells (box_out J1.out z (.inl (by omega)))
                  obtain ⟨h3, h4, -⟩ := box2_cells (box_out J3.out z (.inr (by omega)))
                  exact ⟨h0, h2, h3, h4, z⟩
                obtain ⟨s0, s2, s3, s4, -⟩ := SB.out wr (Out.refl _ _ _)
                obtain ⟨oL, -, hLc⟩ := HO.out.own
                have HOL : Hid (Own wr Z wr.heap.size x L) := oL
                clear oL
                go_wp2
                clear s0 s2 s3 s4
                go_region_held3 (fun W => W.cell? ⟨D, 0, none⟩ = some (.int .i64 b) ∧ W.cell? ⟨D, 2, none⟩ = some (.slice a' U.length ca') ∧ W.cell? ⟨E, 0, none⟩ = some (.int .i64 y1) ∧ W.cell? ⟨E, 1, none⟩ = some (.int .i64 (oo : Int)) ∧ Out (D + 1) (D + 1 + 1) wr W)
                  ((refine SB.out _ ?_; first | assumption | exact Out.drew1 _ | exact Out.trans (by assumption) (box3_out _ _ _ _ _)))
                  ((go_at_call 43; refine (c43 _ (Below.drew hbiw)).mono ?_; rintro e w6 ⟨b6, v6, rfl, own6⟩; obtain ⟨x6, c6, e6⟩ := owns_form own6; subst e6; have o6 : Out (D + 1) (D + 1 + 1) wr w6 := (Out.drew1 wr).trans (Out.of_below b6); have B6 : Hid (w6.heap[D + 1]? = some (.cells #[.int .i64 0, .slice none 0 0, .slice none 0 0] 24 (0, 0))) := box_on (w := wr.drew) J2.out b6; have HO6 : Hid (Own w6 wr.heap.size w6.heap.size x6 MU) := own6.own.1; have HL6 : Hid (Own w6 Z wr.heap.size x L) := HOL.out.below ((Below.drew (Below.refl _ _)).trans b6); clear own6; obtain ⟨r0, r1, r2, q0, q1, q2⟩ := box3_cells B6.out))
                all_goals go_wp2
                all_goals
                  obtain ⟨W7, hW7⟩ : ∃ W7, ((w6.setCell ⟨D + 1, 0, none⟩ (.int .i64 b)).setCell ⟨D + 1, 1, none⟩ (.slice x L.length c)).setCell ⟨D + 1, 2, none⟩ (.slice x6 MU.length c6) = W7 := ⟨_, rfl⟩
                  have o7 : Out (D + 1) (D + 1 + 1) w6 W7 := by subst hW7; exact box3_out _ _ _ _ _
                  have R7 : W7.heap[D + 1]? = some (.cells #[.int .i64 b, .slice x L.length c, .slice x6 MU.length c6] 24 (0, 0)) := by subst hW7; exact box3_set B6.out
                  rw [hW7]
                  clear hW7 r0 r1 r2 q0 q1 q2
                  obtain ⟨t0, t1, t2, -, -, -⟩ := box3_cells R7
                  have z6 : wr.heap.size ≤ w6.heap.size := o6.size
                  have z7 := o7.size
                  have gW : Below D w W7 := hbi.trans (((o6.trans o7).below (by omega)).mono (by omega))
                  refine bodyPost_ret (v := .tuple #[fv b x L.length c x6 MU.length c6, .int .i64 y1, .bool true]) (by simp [results, Try.results19, go_sem, t0, t1, t2]) rfl ?_
                  refine ⟨by first | exact gW | exact (hD ▸ gW), ?_⟩
                  rw [HTA2.out]
                  exact ⟨_, rfl, x, c, x6, c6, wr.heap.size, rfl, by omega, by omega, (HL6.out.out o7 (.inr (by omega))).mono (by omega) (Nat.le_refl _), (HO6.out.out o7 (.inr (by omega))).mono (Nat.le_refl _) (by omega)⟩
              | succ jj =>
                obtain ⟨pn, rfl⟩ : ∃ pn : Nat, y1 = (pn : Int) := ⟨y1.toNat, by omega⟩
                obtain ⟨T, hT⟩ : ∃ T, ((oo + (jj + 1) : Nat) : Int) = T := ⟨_, rfl⟩
                obtain ⟨Q, hQ⟩ : ∃ Q, ((oo + jj : Nat) : Int) = Q := ⟨_, rfl⟩
                have hTQ : T - 1 = Q := by omega
                have hoT : (oo : Int) < T := by omega
                rw [hT] at J3 e1
                have c38 := fun W => l6Buddy_any pn (oo + jj) (by omega) (by omega) W
                have hbud : bud ((pn : Int), ((oo + jj : Nat) : Int)) = ((pn : Int) + pw ((oo + jj : Nat) : Int), ((oo + jj : Nat) : Int)) := bud_half (q := oo + n) (by omega) HXB.out
                have hstep : cutF (pn : Int) oo (jj + 1) L = cutF (pn : Int) oo jj (put ((pn : Int) + pw ((oo + jj : Nat) : Int), ((oo + jj : Nat) : Int)) L) := rfl
                rw [hbud] at c38
                rw [hQ] at c38 hstep
                obtain ⟨Y, hY⟩ : ∃ Y, (pn : Int) + pw Q = Y := ⟨_, rfl⟩
                rw [hY] at c38 hstep
                have HST : Hid (cutF (pn : Int) oo jj (put (Y, Q) L) = cutF (pn : Int) oo n L0) := by show _ = _; rw [← hstep]; exact HCT.out
                have HQ : Hid (((oo + jj : Nat) : Int) = Q) := hQ
                have HT : Hid (((oo + (jj + 1) : Nat) : Int) = T) := hT
                have hwT : IntKind.i64.wrap (T - 1) = Q := by rw [wrapI (by omega) (by omega)]; exact hTQ
                have hT1 : 0 < T ∧ T ≤ 9 := by omega
                have hTp : (oo : Int) + 1 ≤ T ∧ T = ((oo + (jj + 1) : Nat) : Int) := ⟨by omega, hT.symm⟩
                have HTP : Hid (T = ((oo + (jj + 1) : Nat) : Int) ∧ Q = ((oo + jj : Nat) : Int)) := ⟨hT.symm, hQ.symm⟩
                obtain ⟨oL, -, hLc⟩ := HO.out.own
                have hpl : (put (Y, Q) L).length = L.length + 1 := put_len
                clear hT hQ hY hbud hstep HCT hTp
                obtain ⟨wA, hA⟩ : ∃ wA, wr.setCell ⟨E, 1, none⟩ (.int .i64 Q) = wA := ⟨_, rfl⟩
                have oA : Out E (E + 1) wr wA := by subst hA; exact out_setCell _ _ _ _
                have A3 : Hid (wA.heap[E]? = some (.cells #[.int .i64 (pn : Int), .int .i64 Q] 43 (0, 0))) := by subst hA; exact block_set J3.out
                have A1 : Hid (wA.heap[D]? = some (.cells #[.int .i64 b, .slice a F.length ca, .slice a' U.length ca'] 24 (0, 0))) := box_out J1.out oA (.inl (by omega))
                have A2 : Hid (wA.heap[D + 1]? = some (.cells #[.int .i64 0, .slice none 0 0, .slice none 0 0] 24 (0, 0))) := box_out J2.out oA (.inl (by omega))
                have rA : Exs wA x L := MineX.row (oL.out oA (.inr (by omega)))
                have hbA : Below D w wA := hbi.trans ((oA.below (by omega)).mono (by omega))
                have zA := oA.size
                obtain ⟨g0', g1', -, -⟩ := box2_cells A3.out
                clear oL
                go_wp2_with fail
                refine (c38 _).mono ?_
                rintro e w4 ⟨rfl, b4⟩
                clear hA e0 e1 f0 f1
                go_wp2_with fail
                refine (l6Put_any x c L (Y, Q) _ (by omega) hLc (rA.below b4)).mono ?_
                rintro e w5 ⟨b5, v5, rfl, own5⟩
                obtain ⟨x5, c5, e5⟩ := owns_form own5
                subst e5
                have b45 := Below.comp b4 b5
                have R1 := box_on A1.out b45
                have R2 := box_on A2.out b45
                have R3 := box_on A3.out b45
                have hb5 : Below D w w5 := hbA.trans (b45.mono (by omega))
                have HO5 : Hid (OwnR w5 Z (.slice x5 (put (Y, Q) L).length c5) (put (Y, Q) L)) := owns_mono own5 (by have := b4.size; omega)
                have z5 : Z ≤ w5.heap.size := by have := b45.size; omega
                clear own5 g0' g1'
                go_wp2
                go_roundw
                case rel => exact ⟨jj, put (Y, Q) L, x5, c5, by rw [put_len], HO5, R1, R2, by rw [R3, HQ.out], by omega, by rw [hpl]; omega, HST.out, hb5, z5⟩
                case measure =>
                  have c1 := (box2_cells R3).2.1
                  have c2 := (box2_cells J3.out).2.1
                  simp only [over, c1, c2]
                  obtain ⟨h1, h2⟩ := HTP.out
                  omega
end Go.Proofs.Ytgapplfnlndckaa
