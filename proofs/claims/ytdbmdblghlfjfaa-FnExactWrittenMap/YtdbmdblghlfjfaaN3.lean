import Derived.Test.YtdbmdblghlfjfaaN2
/- spec.WrittenMap. -/
namespace Go.Proofs.Ytdbmdblghlfjfaa
open Go.ChangeShapes Go.WideShapes Go.ChangeAt Go.RowKit
set_option linter.unusedVariables false
open Mp

attribute [local go_sem] Oper.semAt_some

theorem szN_bd : ∀ {l : List Pc}, (∀ p, p ∈ l → pok p) → 0 ≤ szN l ∧ szN l ≤ l.length * 200
  | [], _ => by simp [szN]
  | p :: l, h => by
    have h1 := szN_bd (l := l) (fun q hq => h q (by simp [hq]))
    have h2 := h p (by simp)
    unfold pok at h2
    unfold szN
    rw [List.length_cons]
    omega

set_option maxRecDepth 20000 in
set_option maxHeartbeats 4000000 in
theorem specWritten_any (a : Option Addr) (c : Nat) (l : List Pc) (f d : Int) (G : Bool) (hG : G = true ↔ GM l) (w : World) (hn : l.length ≤ 1048576) (hc : l.length ≤ c) (hfi : i64 f) (ha : Pcs w a l) :
    Calls Try.prog 29 #[mv a l.length c, .int .i64 f, .int .i64 d] w fun e w' => Below w.heap.size w w' ∧ Mpa w' w.heap.size e (wmR G l f d) (wmO G l f d) := by
  obtain ⟨D, hD⟩ : ∃ D, w.heap.size = D := ⟨_, rfl⟩
  obtain ⟨W0, hW0⟩ : ∃ W0, (w.alloc (.cells #[.slice a l.length c] 29)).alloc (.cells #[.slice none 0 0] 29) = W0 := ⟨_, rfl⟩
  have q0 : Below w.heap.size w W0 := by subst hW0; exact ba2 _ _ _
  obtain ⟨A1, A2⟩ : W0.heap[D]? = some (.cells #[.slice a l.length c] 29 (0, 0)) ∧ W0.heap[D + 1]? = some (.cells #[.slice none 0 0] 29 (0, 0)) := by subst hW0 hD; exact al2 _ _ _
  have HA : Hid _ := And.intro A1 A2
  have i0 := (box1_cells A1).1
  clear A1 A2
  have c1 := specGood_any a c l G hG W0 hn hc (ha.below q0)
  have cst := fun W => l9Stretch_any f d W hfi
  unfold wmR wmO
  cases G with
  | false =>
    simp only [Bool.false_and, cond_false]
    clear hG ha cst
    generalize l.length = n at *
    go_enter Try.func29, Try.ntmps29
    go_wp2_with fail
    refine c1.mono ?_
    rintro e w1 ⟨rfl, b1⟩
    clear hW0 i0
    have HD' : Hid (w1.heap[D + 1]? = some (.cells #[.slice none 0 0] 29 (0, 0))) := box_on HA.out.2 (b1)
    obtain ⟨y0, y1⟩ := box1_cells HD'.out
    go_wp2_with fail
    obtain ⟨W9, hW9⟩ : ∃ W9, w1.setCell ⟨D + 1, 0, none⟩ (.slice none 0 0) = W9 := ⟨_, rfl⟩
    have o9 : Out (D + 1) (D + 1 + 1) w1 W9 := by subst hW9; exact out_setCell _ _ _ _
    have R9 : W9.heap[D + 1]? = some (.cells #[(.slice none 0 0)] 29 (0, 0)) := by subst hW9; exact (block_set HD'.out).trans rfl
    rw [hW9]
    have t0 := (box1_cells R9).1
    have z9 := o9.size
    have gg : Below w.heap.size w w1 := Below.comp q0 b1
    have z1 := gg.size
    have zD := box_lt HD'.out
    have zD2 : w.heap.size ≤ D + 1 := by omega
    exact bodyPost_ret (v := .tuple #[mv none 0 0, .bool false]) (by simp [results, Try.results29, go_sem, t0]) rfl ⟨by first | exact gg.trans ((o9.below (by omega)).mono (by omega)) | (rw [← hD]; exact gg.trans ((o9.below (by omega)).mono (by omega))), Mpa.none⟩
  | true =>
    have hgm := hG.1 rfl
    cases hst : stB f d with
    | false =>
      rw [hst] at cst
      simp only [Bool.true_and, Bool.false_and, cond_false]
      clear hG ha hgm hst
      generalize l.length = n at *
      go_enter Try.func29, Try.ntmps29
      go_wp2_with fail
      refine c1.mono ?_
      rintro e wa ⟨rfl, b1⟩
      clear hW0 i0
      go_wp2_with fail
      refine (cst _).mono ?_
      rintro e w1 ⟨rfl, rfl⟩
      have HD' : Hid (w1.heap[D + 1]? = some (.cells #[.slice none 0 0] 29 (0, 0))) := box_on HA.out.2 (b1)
      obtain ⟨y0, y1⟩ := box1_cells HD'.out
      go_wp2_with fail
      obtain ⟨W9, hW9⟩ : ∃ W9, w1.setCell ⟨D + 1, 0, none⟩ (.slice none 0 0) = W9 := ⟨_, rfl⟩
      have o9 : Out (D + 1) (D + 1 + 1) w1 W9 := by subst hW9; exact out_setCell _ _ _ _
      have R9 : W9.heap[D + 1]? = some (.cells #[(.slice none 0 0)] 29 (0, 0)) := by subst hW9; exact (block_set HD'.out).trans rfl
      rw [hW9]
      have t0 := (box1_cells R9).1
      have z9 := o9.size
      have gg : Below w.heap.size w w1 := Below.comp q0 b1
      have z1 := gg.size
      have zD := box_lt HD'.out
      have zD2 : w.heap.size ≤ D + 1 := by omega
      exact bodyPost_ret (v := .tuple #[mv none 0 0, .bool false]) (by simp [results, Try.results29, go_sem, t0]) rfl ⟨by first | exact gg.trans ((o9.below (by omega)).mono (by omega)) | (rw [← hD]; exact gg.trans ((o9.below (by omega)).mono (by omega))), Mpa.none⟩
    | true =>
      rw [hst] at cst
      obtain ⟨hf0, hd0, hd2⟩ := stB_iff.1 hst
      have hgd := (gm_gd.1 hgm).2
      have hl40 := hgm.1
      simp only [Bool.true_and]
      clear hst hG
      have hsp := sp_all (f := f) (e := f + d) (by omega) hgd
      have hio := innL_gd (f := f) (e := f + d) hgd
      have nI := len_innL (f := f) (e := f + d) l
      have nO := len_outL (f := f) (e := f + d) l
      have c61 : ∀ W, Below w.heap.size w W → Calls Try.prog 61 #[.slice a l.length c, .int .i64 f, .int .i64 d] W fun e w' => Below W.heap.size W w' ∧ ∃ v1 v2, e = .returned (.tuple #[v1, v2]) ∧ OwnP w' W.heap.size v1 (outL f (f + d) l) ∧ OwnP w' W.heap.size v2 (innL f (f + d) l) := fun W hb => l9Cut_any a c l f d W hl40 hgd.1 ⟨hf0, hd0, hd2⟩ (ha.below hb)
      have HJn : Hid (∀ W x cx, Pcs W x (spL f (f + d) l) → Calls Try.prog 54 #[.slice x (spL f (f + d) l).length cx] W fun e w' => Below W.heap.size W w' ∧ ∃ x cx, e = .returned (mv x (jnP (wtL f (f + d) l)).length cx) ∧ (jnP (wtL f (f + d) l)).length ≤ cx ∧ MineP w' W.heap.size w'.heap.size x (jnP (wtL f (f + d) l)).length (gp (jnP (wtL f (f + d) l)))) := fun W x cx h => by
        have := l9Joined_any x cx _ W (by unfold spL; rw [len_fold, len_wr]; omega) hsp.1 h
        rwa [hsp.2.1] at this
      have hjl : (jnP (wtL f (f + d) l)).length ≤ 1000 := by
        have := len_jnP (spL f (f + d) l)
        rw [hsp.2.1] at this
        unfold spL at this
        rw [len_fold, len_wr] at this
        omega
      have HGo : Hid (∀ W x cx, (jnP (wtL f (f + d) l)).length ≤ cx → Pcs W x (jnP (wtL f (f + d) l)) → Calls Try.prog 13 #[mv x (jnP (wtL f (f + d) l)).length cx] W fun e w' => e = .returned (.bool (decide ((jnP (wtL f (f + d) l)).length ≤ 40))) ∧ Below W.heap.size W w') := fun W x cx h1 h2 => specGood_any x cx _ _ (by
        rw [gm_gd, decide_eq_true_iff]
        exact ⟨fun h => ⟨h, hsp.2.2⟩, fun h => h.1⟩) W (by omega) h1 h2
      obtain ⟨F, hF⟩ : ∃ F : Nat → List Pc, (fun k => ((wrL (innL f (f + d) l)).take k).foldl putP (outL f (f + d) l)) = F := ⟨_, rfl⟩
      obtain ⟨S, hS⟩ : ∃ S : Nat → Int, (fun k => szN ((innL f (f + d) l).take k)) = S := ⟨_, rfl⟩
      have HF0 : Hid (F 0 = outL f (f + d) l ∧ F (innL f (f + d) l).length = spL f (f + d) l) := by
        subst hF
        refine ⟨rfl, ?_⟩
        show ((wrL (innL f (f + d) l)).take _).foldl putP _ = _
        rw [List.take_of_length_le (by rw [len_wr]; omega)]
        rfl
      have HFk : Hid (∀ k, k < (innL f (f + d) l).length → F (k + 1) = putP (F k) (wrP (gp (innL f (f + d) l) k)) ∧ (F k).length ≤ 1000) := fun k hk => by
        subst hF
        refine ⟨?_, ?_⟩
        · show ((wrL (innL f (f + d) l)).take (k + 1)).foldl putP _ = putP (((wrL (innL f (f + d) l)).take k).foldl putP _) _
          rw [take_gp (by rw [len_wr]; exact hk), List.foldl_append, gp_wr hk]
          rfl
        · show (((wrL (innL f (f + d) l)).take k).foldl putP _).length ≤ _
          rw [len_fold, List.length_take, len_wr]
          omega
      have HS0 : Hid (S 0 = 0 ∧ S (innL f (f + d) l).length = szN (innL f (f + d) l)) := by
        subst hS
        exact ⟨rfl, by show szN (List.take _ _) = _; rw [List.take_length]⟩
      have HSk : Hid (∀ k, k < (innL f (f + d) l).length → S (k + 1) = S k + (gp (innL f (f + d) l) k).n ∧ 0 ≤ S k ∧ S k ≤ 8000) := fun k hk => by
        subst hS
        refine ⟨?_, ?_⟩
        · show szN (List.take (k + 1) _) = szN (List.take k _) + _
          rw [take_gp hk, szN_app]
          simp [szN]
        · have := szN_bd (l := (innL f (f + d) l).take k) (fun p hp => hio.1 p (List.mem_of_mem_take hp))
          have h2 : ((innL f (f + d) l).take k).length ≤ 40 := by simp; omega
          constructor
          · exact this.1
          · show szN (List.take k _) ≤ 8000
            omega
      have HOx : Hid (∀ k, k < (innL f (f + d) l).length → pok (gp (innL f (f + d) l) k)) := fun k hk => hio.1 _ (gp_mem hk)
      have HPut : Hid (∀ W x cx k, k < (innL f (f + d) l).length → (F k).length ≤ cx → Pcs W x (F k) → Calls Try.prog 55 #[.slice x (F k).length cx, pv (wrP (gp (innL f (f + d) l) k))] W fun e w' => Below W.heap.size W w' ∧ ∃ v, e = .returned v ∧ OwnP w' W.heap.size v (F (k + 1))) := fun W x cx k hk h1 h2 => by
        rw [(HFk.out k hk).1]
        exact l9Put_any x cx (F k) _ W (HFk.out k hk).2 h1 h2
      obtain ⟨Q, hQ⟩ : ∃ Q, szN (innL f (f + d) l) = Q := ⟨_, rfl⟩
      rw [hQ] at HS0 ⊢
      generalize jnP (wtL f (f + d) l) = J at *
      generalize spL f (f + d) l = U at *
      have HZ0 : Hid (¬ Q = d → (decide (Q = d) && decide (J.length ≤ 40)) = false ∧ (bif decide (Q = d) && decide (J.length ≤ 40) then J else []) = []) := fun h => by rw [decide_eq_false h]; exact ⟨rfl, rfl⟩
      have HT0 : Hid (Q = d → (decide (Q = d) && decide (J.length ≤ 40)) = decide (J.length ≤ 40) ∧ (bif decide (Q = d) && decide (J.length ≤ 40) then J else []) = bif decide (J.length ≤ 40) then J else []) := fun h => by rw [decide_eq_true h]; exact ⟨rfl, rfl⟩
      generalize (bif decide (Q = d) && decide (J.length ≤ 40) then J else []) = RR at *
      generalize (decide (Q = d) && decide (J.length ≤ 40)) = OO at *
      clear hF hS hsp hio nO hjl ha hgd hgm HFk hQ
      have hm1000 : (innL f (f + d) l).length ≤ 1000 := by omega
      clear nI hl40
      generalize outL f (f + d) l = LO at *
      unfold OwnP at c61
      have HOf : Hid (∀ (W : World) (B : Nat) (v : Value), W.ownsRow B 40 4 v (innL f (f + d) l).length (cpp (innL f (f + d) l)) → ∃ x c, v = .slice x (innL f (f + d) l).length c ∧ RowP W x (innL f (f + d) l).length (gp (innL f (f + d) l))) := fun W B v h => by
        obtain ⟨x, c, h1, -, h2⟩ := OwnP.form h
        exact ⟨x, c, h1, MineP.row h2⟩
      generalize cpp (innL f (f + d) l) = CI at *
      generalize gp (innL f (f + d) l) = g at *
      generalize (innL f (f + d) l).length = m at *
      generalize l.length = n at *
      go_enter Try.func29, Try.ntmps29
      go_wp2_with fail
      refine c1.mono ?_
      rintro e wa ⟨rfl, b1⟩
      clear hW0 i0
      have i0 := (box1_cells (box_on HA.out.1 b1)).1
      have g1 := Below.comp q0 b1
      go_wp2_with fail
      refine (cst _).mono ?_
      rintro e w1 ⟨rfl, rfl⟩
      go_wp2_with fail
      refine (c61 _ g1).mono ?_
      rintro e w2 ⟨b2, v1, v2, rfl, o1, o2⟩
      clear i0 c61 cst c1
      obtain ⟨xo, co, rfl, hco, mo⟩ := OwnP.form o1
      obtain ⟨xi, ci, rfl, ri⟩ := HOf.out _ _ _ o2
      have b12 := Below.comp b1 b2
      have g2 := Below.comp q0 b12
      have HRo : Hid (Pcs w2 xo LO) := MineP.row mo
      clear o1 o2 mo HOf b1 b2 g1
      rw [← HF0.out.1] at hco HRo ⊢
      go_wp2_with fail
      go_loopw [34, 8, 10] (fun i o t wr => ∃ (k : Nat) (x : Option Addr) (cx : Nat), k ≤ m ∧ i = .int .i64 k ∧ o = .slice x (F k).length cx ∧ t = .int .i64 (S k) ∧ (F k).length ≤ cx ∧ Hid (Pcs wr x (F k)) ∧ Below w2.heap.size w2 wr) (fun i _ _ _ => m - (intOf i).toNat)
      case atStart => exact ⟨0, xo, co, Nat.zero_le _, rfl, rfl, by rw [HS0.out.1], hco, HRo, Below.refl _ _⟩
      case round =>
        obtain ⟨k, x, cx, hk, rfl, rfl, rfl, hcx, HP, hb⟩ := hrel
        by_cases hlt : k < m
        · obtain ⟨bb, off, rfl, hcell⟩ := (ri.below hb) (by omega)
          obtain ⟨k0, k1, k2, k3⟩ := hcell k hlt
          clear hcell ri
          have hokx := HOx.out k hlt
          obtain ⟨s1, s2, s3⟩ := HSk.out k hlt
          have cPu := fun W h => HPut.out W x cx k hlt hcx h
          clear HOx HPut HSk
          obtain ⟨y, hy⟩ : ∃ y, g k = y := ⟨_, rfl⟩
          rw [hy] at hokx k0 k1 k2 k3 s1 cPu
          clear hy
          obtain ⟨y0, y1, y2, y3⟩ := y
          unfold wrP at cPu
          unfold pok at hokx
          simp only at *
          have ev : IntKind.i64.wrap (S k + y1) = S (k + 1) := by rw [s1]; exact wrapI (by omega) (by omega)
          clear s1
          obtain ⟨W1, hW1⟩ : ∃ W1, wr.alloc (.cells #[.int .i64 y0, .int .i64 y1, .int .i64 y2, .bool y3] 40) = W1 := ⟨_, rfl⟩
          obtain ⟨E, hE⟩ : ∃ E, wr.heap.size = E := ⟨_, rfl⟩
          have b1 : Below wr.heap.size wr W1 := by subst hW1; exact below_alloc _ _
          have HE1 : W1.heap[E]? = some (.cells #[.int .i64 y0, .int .i64 y1, .int .i64 y2, .bool y3] 40 (0, 0)) := by subst hW1 hE; exact al1 _ _
          obtain ⟨e0, e1, e2, e3⟩ := box4_cells HE1
          have e4 : W1.frozen? ⟨E, 3, none⟩ = false := free_of_block HE1
          clear HE1
          have b2 : Below wr.heap.size wr (W1.setCell ⟨E, 3, none⟩ (.bool false)) := b1.setCell (show wr.heap.size ≤ E by omega) _
          have cP1 := cPu _ (RowP.below HP.out b2)
          clear cPu HP
          generalize (F k).length = NF at *
          go_wp2_with fail
          refine cP1.mono ?_
          rintro e w3 ⟨b3, v, rfl, ho⟩
          obtain ⟨xu, cu, rfl, hcu, hmu⟩ := OwnP.form ho
          have b23 := Below.comp hb (Below.comp b2 b3)
          have HRu : Hid (Pcs w3 xu (F (k + 1))) := MineP.row hmu
          clear ho hmu cP1 hW1 e0 e1 e2 e3 e4
          go_wp2_with fail
          go_roundw
          case rel => exact ⟨k + 1, xu, cu, by omega, by go_num, rfl, rfl, hcu, HRu, b23⟩
          case measure => simp [intOf]; omega
        · obtain rfl : k = m := by omega
          have HU : Hid (F k = U ∧ S k = Q) := ⟨HF0.out.2, HS0.out.2⟩
          rw [HU.out.1] at hcx HP ⊢
          rw [HU.out.2]
          have b1r := Below.comp b12 hb
          have gr := Below.comp q0 b1r
          have cJ := HJn.out wr x cx HP.out
          have cG := HGo.out
          clear HPut HJn HGo HOx ri HP HF0 HS0 HSk HU HRo
          go_wp2_with fail
          refine cJ.mono ?_
          rintro e w4 ⟨b4, xj, cj, rfl, hcj, hmx⟩
          clear cJ
          obtain ⟨W5, hW5⟩ : ∃ W5, w4.alloc (.cells #[.slice xj J.length cj] 29) = W5 := ⟨_, rfl⟩
          obtain ⟨E, hE⟩ : ∃ E, w4.heap.size = E := ⟨_, rfl⟩
          have b5 : Below w4.heap.size w4 W5 := by subst hW5; exact below_alloc _ _
          have HE1 : Hid (W5.heap[E]? = some (.cells #[.slice xj J.length cj] 29 (0, 0))) := by subst hW5 hE; exact al1 _ _
          have e0 := (box1_cells HE1.out).1
          have b45 := Below.comp b4 b5
          have b15 := Below.comp b1r b45
          by_cases hQd : Q = d
          · have hOR := HT0.out hQd
            obtain ⟨Ob, hOb⟩ : ∃ Ob, decide (J.length ≤ 40) = Ob := ⟨_, rfl⟩
            rw [hOb] at cG hOR
            have HOR : Hid _ := hOR
            clear hOb hOR HT0 HZ0
            have cG1 := cG W5 xj cj hcj ((MineP.row hmx).below b5)
            have HMx : Hid (MineP W5 wr.heap.size w4.heap.size xj J.length (gp J)) := Mine.below hmx b5
            clear cG hmx
            go_wp2_with fail
            refine cG1.mono ?_
            rintro e w6 ⟨rfl, b6⟩
            clear cG1 hW5 e0
            have b16 := Below.comp b15 b6
            have hD3 : D + 1 < wr.heap.size := box_lt (box_on HA.out.2 b1r)
            have HZ : Hid (w.heap.size ≤ wr.heap.size ∧ w4.heap.size ≤ w6.heap.size) := ⟨gr.size, (Below.comp b5 b6).size⟩
            have e0 := (box1_cells (box_on HE1.out b6)).1
            have HD' : Hid (w6.heap[D + 1]? = some (.cells #[.slice none 0 0] 29 (0, 0))) := box_on HA.out.2 b16
            cases Ob with
            | false =>
              obtain ⟨hO0, hR0⟩ := HOR.out
              simp only [cond_false] at hR0
              subst hO0 hR0
              obtain ⟨y0, y1⟩ := box1_cells HD'.out
              go_wp2_with fail
              obtain ⟨W9, hW9⟩ : ∃ W9, w6.setCell ⟨D + 1, 0, none⟩ (.slice none 0 0) = W9 := ⟨_, rfl⟩
              have o9 : Out (D + 1) (D + 1 + 1) w6 W9 := by subst hW9; exact out_setCell _ _ _ _
              have R9 : W9.heap[D + 1]? = some (.cells #[(.slice none 0 0)] 29 (0, 0)) := by subst hW9; exact (block_set HD'.out).trans rfl
              rw [hW9]
              have t0 := (box1_cells R9).1
              have z9 := o9.size
              have gg : Below w.heap.size w w6 := Below.comp q0 b16
              have z1 := gg.size
              have zD := box_lt HD'.out
              have zD2 : w.heap.size ≤ D + 1 := by omega
              exact bodyPost_ret (v := .tuple #[mv none 0 0, .bool false]) (by simp [results, Try.results29, go_sem, t0]) rfl ⟨by first | exact gg.trans ((o9.below (by omega)).mono (by omega)) | (rw [← hD]; exact gg.trans ((o9.below (by omega)).mono (by omega))), Mpa.none⟩
            | true =>
              obtain ⟨hO0, hR0⟩ := HOR.out
              simp only [cond_true] at hR0
              subst hO0 hR0
              obtain ⟨y0, y1⟩ := box1_cells HD'.out
              go_wp2_with fail
              obtain ⟨W9, hW9⟩ : ∃ W9, w6.setCell ⟨D + 1, 0, none⟩ (.slice xj RR.length cj) = W9 := ⟨_, rfl⟩
              have o9 : Out (D + 1) (D + 1 + 1) w6 W9 := by subst hW9; exact out_setCell _ _ _ _
              have R9 : W9.heap[D + 1]? = some (.cells #[(.slice xj RR.length cj)] 29 (0, 0)) := by subst hW9; exact (block_set HD'.out).trans rfl
              rw [hW9]
              have t0 := (box1_cells R9).1
              have z9 := o9.size
              have gg : Below w.heap.size w w6 := Below.comp q0 b16
              have z1 := gg.size
              have zD := box_lt HD'.out
              have zD2 : w.heap.size ≤ D + 1 := by omega
              have h1 := HZ.out
              refine bodyPost_ret (v := .tuple #[mv xj RR.length cj, .bool true]) (by simp [results, Try.results29, go_sem, t0]) rfl ⟨gg.trans ((o9.below (by omega)).mono (by omega)), xj, cj, rfl, hcj, ?_⟩
              exact Mine.mono (Mine.out (Mine.below HMx.out b6) o9 (.inr (by omega))) (by omega) (by omega)
          · obtain ⟨hO0, hR0⟩ := HZ0.out hQd
            subst hO0 hR0
            clear cG hmx HT0 HZ0
            have HD' : Hid (W5.heap[D + 1]? = some (.cells #[.slice none 0 0] 29 (0, 0))) := box_on HA.out.2 b15
            obtain ⟨y0, y1⟩ := box1_cells HD'.out
            go_wp2_with fail
            obtain ⟨W9, hW9⟩ : ∃ W9, W5.setCell ⟨D + 1, 0, none⟩ (.slice none 0 0) = W9 := ⟨_, rfl⟩
            have o9 : Out (D + 1) (D + 1 + 1) W5 W9 := by subst hW9; exact out_setCell _ _ _ _
            have R9 : W9.heap[D + 1]? = some (.cells #[(.slice none 0 0)] 29 (0, 0)) := by subst hW9; exact (block_set HD'.out).trans rfl
            rw [hW9]
            have t0 := (box1_cells R9).1
            have z9 := o9.size
            have gg : Below w.heap.size w W5 := Below.comp q0 b15
            have z1 := gg.size
            have zD := box_lt HD'.out
            have zD2 : w.heap.size ≤ D + 1 := by omega
            exact bodyPost_ret (v := .tuple #[mv none 0 0, .bool false]) (by simp [results, Try.results29, go_sem, t0]) rfl ⟨by first | exact gg.trans ((o9.below (by omega)).mono (by omega)) | (rw [← hD]; exact gg.trans ((o9.below (by omega)).mono (by omega))), Mpa.none⟩
end Go.Proofs.Ytdbmdblghlfjfaa
