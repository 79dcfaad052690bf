import Derived.Test.YtienhdlhlddemaaTC
/- The specification: a cow of one's own. -/
namespace Go.Proofs.Ytienhdlhlddemaa
open Go.ChangeShapes Go.WideShapes Go.ChangeAt Go.RowKit
set_option linter.unusedVariables false
open Hd

attribute [local go_sem] Oper.semAt_some

theorem own_empty (w : World) (e : TypeId) (size : Nat) : (w.alloc (.cells #[] e)).ownsRow w.heap.size e size (.slice (some ⟨w.heap.size, 0, none⟩) 0 0) 0 [] := ⟨by simp, .inr ⟨w.heap.size, 0, #[], rfl, Nat.le_refl _, al1 _ _, Nat.le_refl _, Nat.zero_le _, by simp, by simp⟩⟩
theorem owns_outS {w w' : World} {B B' C' : Nat} {e : TypeId} {size n : Nat} {v : Value} {xs : List Value} (h : w.ownsRow B e size v n xs) (ho : Out B' C' w w') (hC : C' ≤ B) : w'.ownsRow B e size v n xs := by
  refine ⟨h.1, ?_⟩
  rcases h.2 with h2 | ⟨g, cap, cur, e1, hb, hg, h3⟩
  · exact .inl h2
  · exact .inr ⟨g, cap, cur, e1, hb, box_out hg ho (by omega), h3⟩
theorem IB.outT {w w' : World} {b : Nat} {u : Value} {l : List Int} {g : Nat} {c : Array Value} {e : TypeId} (h : IB w 0 w.heap.size u l g) (ho : Out b (b + 1) w w') (hb : w.heap[b]? = some (.cells c e (0, 0))) (he : e ≠ 3) : IB w' 0 w'.heap.size u l g := by
  obtain ⟨a, k, e1, hc, hr⟩ := h
  refine ⟨a, k, e1, hc, fun hn => ?_⟩
  obtain ⟨r1, r2, r3, cs, r4, r5⟩ := hr hn
  have hne : g ≠ b := fun e2 => by
    subst e2
    rw [r4] at hb
    simp at hb
    exact he hb.2.symm
  have h4 := box_out r4 ho (by omega)
  exact ⟨r1, r2, box_lt h4, cs, h4, r5⟩
theorem OwnCe.outT {w w' : World} {B b : Nat} {v : Value} {L : List Ce} {c : Array Value} {e : TypeId} (h : OwnCe w B v L) (ho : Out b (b + 1) w w') (hB : b + 1 ≤ B) (hb : w.heap[b]? = some (.cells c e (0, 0))) (he : e ≠ 3) : OwnCe w' B v L := by
  obtain ⟨ks, h1, h2⟩ := h
  exact ⟨ks, owns_outS h1 ho hB, fun i hi => by obtain ⟨g, hg⟩ := h2 i hi; exact ⟨g, hg.outT ho hb he⟩⟩
theorem IB.outC {w w' : World} {B C b : Nat} {u : Value} {l : List Int} {g : Nat} {c : Array Value} {e : TypeId} (h : IB w B C u l g) (ho : Out b (b + 1) w w') (hb : w.heap[b]? = some (.cells c e (0, 0))) (he : e ≠ 3) : IB w' B C u l g := by
  obtain ⟨a, k, e1, hc, hr⟩ := h
  refine ⟨a, k, e1, hc, fun hn => ?_⟩
  obtain ⟨r1, r2, r3, cs, r4, r5⟩ := hr hn
  have hne : g ≠ b := fun e2 => by
    subst e2
    rw [r4] at hb
    simp at hb
    exact he hb.2.symm
  exact ⟨r1, r2, r3, cs, box_out r4 ho (by omega), r5⟩
/-- A row of cells, their kids' rows below a mark. -/
def OwnCk (w : World) (B M : Nat) (v : Value) (L : List Ce) : Prop :=
  ∃ ks : Nat → Option Addr × Nat, w.ownsRow B 42 3 v L.length (cvs L ks) ∧ ∀ i, i < L.length → ∃ g, IB w 0 M (.slice (ks i).1 (gc L i).kd.length (ks i).2) (gc L i).kd g
theorem OwnCk.below {w w' : World} {B M : Nat} {v : Value} {L : List Ce} (h : OwnCk w B M v L) (hb : Below w.heap.size w w') : OwnCk w' B M v L := by
  obtain ⟨ks, h1, h2⟩ := h
  exact ⟨ks, owns_below h1 hb, fun i hi => by obtain ⟨g, hg⟩ := h2 i hi; exact ⟨g, hg.below hb⟩⟩
theorem OwnCk.outT {w w' : World} {B M b : Nat} {v : Value} {L : List Ce} {c : Array Value} {e : TypeId} (h : OwnCk w B M v L) (ho : Out b (b + 1) w w') (hB : b + 1 ≤ B) (hb : w.heap[b]? = some (.cells c e (0, 0))) (he : e ≠ 3) : OwnCk w' B M v L := by
  obtain ⟨ks, h1, h2⟩ := h
  exact ⟨ks, owns_outS h1 ho hB, fun i hi => by obtain ⟨g, hg⟩ := h2 i hi; exact ⟨g, hg.outC ho hb he⟩⟩
theorem src_new3 (w : World) (x y z : Value) (t : TypeId) : (1 : Nat) = 0 ∨ ∃ ad, some (⟨w.heap.size, 0, none⟩ : Addr) = some ad ∧ ∀ j u, [x, y, z][j]? = some u → (w.alloc (.cells #[x, y, z] t)).cell? (ad.add j) = some u := by
  refine .inr ⟨_, rfl, fun j u hj => ?_⟩
  rw [addN, Nat.zero_add]
  exact cell_of_block (al1 _ _) (by simpa using hj)
set_option maxHeartbeats 4000000 in
theorem own14_any (v : Value) (c : Co) (w : World) (hc : CowAt w v c) (hn : c.cs.length ≤ 80) (hk : ∀ i, i < c.cs.length → (gc c.cs i).kd.length ≤ 4) (hm : c.rs.length ≤ 8) :
    Calls Try.prog 18 #[v] w fun e w' => Below w.heap.size w w' ∧ ∃ M u r, e = .returned (.agg #[u, r, .int .i64 c.lv]) ∧ OwnCk w' w.heap.size M u c.cs ∧ OwnI w' M r c.rs ∧ w.heap.size ≤ M := by
  obtain ⟨a, ca, a', ca', rfl, -, -, hI, hR⟩ := hc
  have HI : Hid (∀ W, Below w.heap.size w W → Ces W a c.cs) := fun W h => hI.below h
  have HR : Hid (∀ W, Below w.heap.size w W → Ints W a' c.rs) := fun W h => At.below hR h
  have Hk : Hid _ := hk
  clear hI hR hk
  unfold kv
  obtain ⟨W0, hW0⟩ : ∃ W0, (w.alloc (.cells #[.slice a c.cs.length ca, .slice a' c.rs.length ca', .int .i64 c.lv] 29)).alloc (.cells #[.slice none 0 0, .slice none 0 0, .int .i64 0] 29) = W0 := ⟨_, rfl⟩
  have q0 : Below w.heap.size w W0 := by subst hW0; exact ba2 _ _ _
  obtain ⟨B1, B2⟩ : W0.heap[w.heap.size]? = some (.cells #[.slice a c.cs.length ca, .slice a' c.rs.length ca', .int .i64 c.lv] 29 (0, 0)) ∧ W0.heap[w.heap.size + 1]? = some (.cells #[.slice none 0 0, .slice none 0 0, .int .i64 0] 29 (0, 0)) := by subst hW0; exact al2 _ _ _
  have HB1 : Hid _ := B1
  have HB2 : Hid _ := B2
  obtain ⟨i0, i1, i2⟩ := box3_one B1
  clear B1 B2
  have HN : Hid (∃ n, n = c.cs.length) := ⟨_, rfl⟩
  go_enter Try.func18, Try.ntmps18
  go_wp2
  clear i0 i1 i2 hW0
  go_loopw [3, 9] (fun s3 s9 wr => ∃ j : Nat, j ≤ c.cs.length ∧ s9 = .int .i64 j ∧ Hid (OwnCe wr W0.heap.size s3 (c.cs.take j)) ∧ Below W0.heap.size W0 wr) (fun _ s9 _ => c.cs.length - (intOf s9).toNat)
  case atStart => exact ⟨0, by omega, rfl, OwnCe.nil _ _, Below.refl _ _⟩
  case round =>
    obtain ⟨j, hj, rfl, HO, hb⟩ := hrel
    have hbw := Below.comp q0 hb
    by_cases hlt : j < c.cs.length
    · have hlt' : (j : Int) < (c.cs.length : Int) := by omega
      obtain ⟨b, off, rfl, hcell⟩ := (HI.out wr hbw) (by omega)
      obtain ⟨ka, kc, k0, k1, k2, k3, k4⟩ := hcell j hlt
      have hkl := Hk.out j hlt
      have HK3 : Hid (∀ W, Below wr.heap.size wr W → Ints W ka (gc c.cs j).kd) := fun W h => k3.below h
      clear hcell k3
      have HT : Hid (c.cs.take (j + 1) = c.cs.take j ++ [gc c.cs j]) := by show _ = _; rw [List.take_succ_eq_append_getElem hlt, gc_eq hlt]
      have hM : (c.cs.take j).length = j := by rw [List.length_take]; omega
      generalize hx : gc c.cs j = x at *
      obtain ⟨ct, lf, kd⟩ := x
      simp only at k0 k1 k2 hkl
      obtain ⟨ks, own1, hks⟩ := HO.out
      have Hks : Hid _ := hks
      obtain ⟨y, yc, rfl⟩ := owns_form own1
      rw [hM] at own1
      rw [hM]
      have HM : Hid _ := hM
      clear hks HO hM hx
      generalize c.cs.take j = P at *
      obtain ⟨nl, hnl⟩ : ∃ nl, kd.length = nl := ⟨_, rfl⟩
      have HNL : Hid _ := hnl
      rw [hnl] at k2 hkl
      obtain ⟨W2, hW2⟩ : ∃ W2, wr.alloc (.cells #[.int .i64 ct, .string lf, .slice ka nl kc] 42) = W2 := ⟨_, rfl⟩
      have b2 : Below wr.heap.size wr W2 := by subst hW2; exact below_alloc _ _
      have X2 : Hid (W2.heap[wr.heap.size]? = some (.cells #[.int .i64 ct, .string lf, .slice ka nl kc] 42 (0, 0))) := by subst hW2; exact al1 _ _
      obtain ⟨W3, hW3⟩ : ∃ W3, W2.alloc (.cells #[] 3) = W3 := ⟨_, rfl⟩
      have b3 : Below W2.heap.size W2 W3 := by subst hW3; exact below_alloc _ _
      have own0 : W3.ownsRow W2.heap.size 3 1 (.slice (some ⟨W2.heap.size, 0, none⟩) 0 0) 0 [] := by subst hW3; exact own_empty _ _ _
      obtain ⟨x0, x1, x2, f0, f1, f2⟩ := box3_cells (box_on X2.out b3)
      have sr : nl = 0 ∨ ∃ ad, ka = some ad ∧ ∀ j u, (cis kd)[j]? = some u → W3.cell? (ad.add j) = some u := by rw [← hnl]; exact At.src (HK3.out _ (Below.comp b2 b3))
      have hcl : (cis kd).length = nl * 1 := by rw [cis_len, hnl, Nat.mul_one]
      have z3 : W2.heap.size ≤ W3.heap.size := b3.size
      clear hnl
      have KEY : Hid (∀ (v4 : Value) (w4 : World), w4.ownsRow W2.heap.size 3 1 v4 (0 + nl) ([] ++ cis kd) → W3.grownBy w4 (Value.slice (some ⟨W2.heap.size, 0, none⟩) 0 0).ownBlock →
          ∃ y4 c4 W5 W6, v4 = .slice y4 nl c4 ∧ w4.setCell ⟨wr.heap.size, 2, none⟩ (.slice y4 nl c4) = W5 ∧ W5.alloc (.cells #[.int .i64 ct, .string lf, .slice y4 nl c4] 42) = W6 ∧
            (w4.cell? ⟨wr.heap.size, 2, none⟩ = some (.slice ka nl kc) ∧ w4.frozen? ⟨wr.heap.size, 2, none⟩ = false) ∧
            (W5.cell? ⟨wr.heap.size, 0, none⟩ = some (.int .i64 ct) ∧ W5.cell? ⟨wr.heap.size, 1, none⟩ = some (.string lf) ∧ W5.cell? ⟨wr.heap.size, 2, none⟩ = some (.slice y4 nl c4)) ∧
            Below wr.heap.size wr W6 ∧ W6.ownsRow W0.heap.size 42 3 (.slice y j yc) j (cvs P ks) ∧
            ((1 : Nat) = 0 ∨ ∃ ad, some (⟨W5.heap.size, 0, none⟩ : Addr) = some ad ∧ ∀ j u, [.int .i64 ct, .string lf, .slice y4 nl c4][j]? = some u → W6.cell? (ad.add j) = some u) ∧
            ∃ g, IB W6 0 W6.heap.size (.slice y4 nl c4) kd g) := fun v4 w4 own4 gr4 => by
        have b4 : Below W2.heap.size W2 w4 := grown_on b3 z3 own0 gr4
        rw [Nat.zero_add, List.nil_append] at own4
        have own4' : OwnI w4 W2.heap.size v4 kd := by unfold OwnI; rw [HNL.out]; exact own4
        obtain ⟨g4, ib4⟩ := own4'.ib
        obtain ⟨y4, c4, rfl, h4, -⟩ := id ib4
        have ib4' := ib4
        rw [HNL.out] at ib4'
        rw [HNL.out]
        have X4 := box_on X2.out b4
        obtain ⟨x0, x1, x2, f0, f1, f2⟩ := box3_cells X4
        have o5 : Out wr.heap.size (wr.heap.size + 1) w4 (w4.setCell ⟨wr.heap.size, 2, none⟩ (.slice y4 nl c4)) := out_setCell _ _ _ _
        have X5 : (w4.setCell ⟨wr.heap.size, 2, none⟩ (.slice y4 nl c4)).heap[wr.heap.size]? = some (.cells #[.int .i64 ct, .string lf, .slice y4 nl c4] 42 (0, 0)) := block_set X4
        have b45 : Below wr.heap.size wr (w4.setCell ⟨wr.heap.size, 2, none⟩ (.slice y4 nl c4)) := (Below.comp b2 b4).trans (o5.below (Nat.le_of_lt (box_lt X4)))
        have b6 := below_alloc (w4.setCell ⟨wr.heap.size, 2, none⟩ (.slice y4 nl c4)) (.cells #[.int .i64 ct, .string lf, .slice y4 nl c4] 42)
        have ib6 := ((ib4'.out' o5 (.inr (box_lt X2.out))).below b6)
        exact ⟨y4, c4, _, _, rfl, rfl, rfl, ⟨x2, f2⟩, box3_one X5, Below.comp b45 b6, owns_below own1 (Below.comp b45 b6), src_new3 _ _ _ _ _, g4, ib6.mono (Nat.zero_le _) (Nat.le_trans o5.size b6.size)⟩
      have KEY2 : Hid (∀ (v7 : Value) (W6 w7 : World) (y4 : Option Addr) (c4 : Nat), Below wr.heap.size wr W6 → W6.ownsRow W0.heap.size 42 3 (.slice y j yc) j (cvs P ks) → (∃ g, IB W6 0 W6.heap.size (.slice y4 nl c4) kd g) →
          w7.ownsRow W0.heap.size 42 3 v7 (j + 1) (cvs P ks ++ [.int .i64 ct, .string lf, .slice y4 nl c4]) → W6.grownBy w7 (Value.slice y j yc).ownBlock → OwnCe w7 W0.heap.size v7 (P ++ [⟨ct, lf, kd⟩]) ∧ Below W0.heap.size W0 w7) := fun v7 W6 w7 y4 c4 b6 own6 h4 own7 gr7 => by
        have b06 := Below.comp hb b6
        refine ⟨?_, grown_on b06 b06.size own6 gr7⟩
        refine OwnCe.snoc (ks := ks) (y := (y4, c4)) ?_ (fun i hi => ?_) ?_
        · rw [HM.out]
          show w7.ownsRow _ _ _ _ _ (cvs P ks ++ [_, _, .slice y4 kd.length c4])
          rw [HNL.out]
          exact own7
        · obtain ⟨g, hg⟩ := Hks.out i (by omega)
          exact ⟨g, ((hg.below b6).mono (Nat.le_refl _) b6.size).grown own6 (by decide) gr7⟩
        · obtain ⟨g, hg⟩ := h4
          refine ⟨g, ?_⟩
          show IB w7 0 w7.heap.size (.slice y4 kd.length c4) kd g
          rw [HNL.out]
          exact hg.grown own6 (by decide) gr7
      go_wp2_with (first
        | (at_builtin; refine wpList_append_src rfl _ _ 23 rfl W2.heap.size 3 _ 1 8 Try.underlying23 info3 rfl (by decide) (.slice (some ⟨W2.heap.size, 0, none⟩) 0 0) 0 [] rfl own0 ka nl kc (cis kd) rfl hcl sr (cis_one _) (by omega) (by decide) z3 ?_; intro v4 w4 own4 gr4; obtain ⟨y4, c4, W5, W6, rfl, hW5, hW6, ⟨u0, u1⟩, ⟨u2, u3, u4⟩, b6, own6, sr6, hi6⟩ := KEY.out v4 w4 own4 gr4; have HI6 : Hid _ := hi6; have b06 : Below W0.heap.size W0 W6 := Below.comp hb b6; have z6 := b06.size; clear hi6 own4 gr4)
        | (at_builtin; refine wpList_append_src rfl _ _ 27 rfl W0.heap.size 42 _ 3 48 Try.underlying27 infoC rfl (by decide) (.slice y j yc) j (cvs P ks) rfl own6 (some ⟨W5.heap.size, 0, none⟩) 1 1 [.int .i64 ct, .string lf, .slice y4 nl c4] rfl rfl sr6 (by simp [Value.oneCell']) (by omega) (by decide) z6 ?_; intro v7 w7 own7 gr7; obtain ⟨oc7, b7⟩ := KEY2.out v7 W6 w7 y4 c4 b6 own6 HI6.out own7 gr7; have OC7 : Hid _ := oc7; clear oc7 own7 gr7 own6))
      go_roundw
      case rel => exact ⟨j + 1, by omega, by go_num, by rw [HT.out]; exact OC7.out, b7⟩
      case measure => simp [intOf]; omega
    · have hjn : j = c.cs.length := by omega
      subst hjn
      have hfin : c.cs.take c.cs.length = c.cs := List.take_of_length_le (Nat.le_refl _)
      have HO2 : Hid (OwnCe wr W0.heap.size u3 c.cs) := by have h6 := HO.out; rw [hfin] at h6; exact h6
      have hF := HO2.out
      obtain ⟨ks, own1, -⟩ := hF
      obtain ⟨y, yc, rfl⟩ := owns_form own1
      clear own1 hfin HO
      have X0 : Hid _ := box_on HB1.out hb
      have Y0 : Hid _ := box_on HB2.out hb
      obtain ⟨x0, x1, x2, f0, f1, f2⟩ := box3_cells X0.out
      have hyl : (Value.slice y c.cs.length yc) = .slice y c.cs.length yc := rfl
      obtain ⟨Wa, hWa⟩ : ∃ Wa, wr.setCell ⟨w.heap.size, 0, none⟩ (.slice y c.cs.length yc) = Wa := ⟨_, rfl⟩
      have oa : Out w.heap.size (w.heap.size + 1) wr Wa := by subst hWa; exact out_setCell _ _ _ _
      have Xa : Hid (Wa.heap[w.heap.size]? = some (.cells #[.slice y c.cs.length yc, .slice a' c.rs.length ca', .int .i64 c.lv] 29 (0, 0))) := by subst hWa; exact block_set X0.out
      have Ya : Hid (Wa.heap[w.heap.size + 1]? = _) := box_out Y0.out oa (by omega)
      have hzB : w.heap.size + 1 < W0.heap.size := box_lt HB2.out
      have HOa : Hid (OwnCe Wa W0.heap.size (.slice y c.cs.length yc) c.cs) := HO2.out.outT oa (by omega) X0.out (by decide)
      have ba : Below w.heap.size w Wa := hbw.trans (oa.below (Nat.le_of_lt (box_lt X0.out)))
      obtain ⟨Wb, hWb⟩ : ∃ Wb, Wa.alloc (.cells #[] 3) = Wb := ⟨_, rfl⟩
      have bb : Below Wa.heap.size Wa Wb := by subst hWb; exact below_alloc _ _
      have own0 : Wb.ownsRow Wa.heap.size 3 1 (.slice (some ⟨Wa.heap.size, 0, none⟩) 0 0) 0 [] := by subst hWb; exact own_empty _ _ _
      have bwb := Below.comp ba bb
      have sr : c.rs.length = 0 ∨ ∃ ad, a' = some ad ∧ ∀ j u, (cis c.rs)[j]? = some u → Wb.cell? (ad.add j) = some u := At.src (HR.out _ bwb)
      have hcl : (cis c.rs).length = c.rs.length * 1 := by rw [cis_len, Nat.mul_one]
      have z3 : Wa.heap.size ≤ Wb.heap.size := bb.size
      obtain ⟨v0, v1, v2⟩ := box3_one (box_on Xa.out bb)
      have KEY : Hid (∀ (v4 : Value) (w4 : World), w4.ownsRow Wa.heap.size 3 1 v4 (0 + c.rs.length) ([] ++ cis c.rs) → Wb.grownBy w4 (Value.slice (some ⟨Wa.heap.size, 0, none⟩) 0 0).ownBlock →
          ∃ y4 c4 Wc Wd, v4 = .slice y4 c.rs.length c4 ∧ w4.setCell ⟨w.heap.size, 1, none⟩ (.slice y4 c.rs.length c4) = Wc ∧
            ((Wc.setCell ⟨w.heap.size + 1, 0, none⟩ (.slice y c.cs.length yc)).setCell ⟨w.heap.size + 1, 1, none⟩ (.slice y4 c.rs.length c4)).setCell ⟨w.heap.size + 1, 2, none⟩ (.int .i64 c.lv) = Wd ∧
            (w4.cell? ⟨w.heap.size, 1, none⟩ = some (.slice a' c.rs.length ca') ∧ w4.frozen? ⟨w.heap.size, 1, none⟩ = false) ∧
            (Wc.cell? ⟨w.heap.size, 0, none⟩ = some (.slice y c.cs.length yc) ∧ Wc.cell? ⟨w.heap.size, 1, none⟩ = some (.slice y4 c.rs.length c4) ∧ Wc.cell? ⟨w.heap.size, 2, none⟩ = some (.int .i64 c.lv)) ∧
            (Wc.cell? ⟨w.heap.size + 1, 0, none⟩ = some (.slice none 0 0) ∧ Wc.cell? ⟨w.heap.size + 1, 1, none⟩ = some (.slice none 0 0) ∧ Wc.cell? ⟨w.heap.size + 1, 2, none⟩ = some (.int .i64 0)) ∧
            (Wc.frozen? ⟨w.heap.size + 1, 0, none⟩ = false ∧ Wc.frozen? ⟨w.heap.size + 1, 1, none⟩ = false ∧ Wc.frozen? ⟨w.heap.size + 1, 2, none⟩ = false) ∧
            (Wd.cell? ⟨w.heap.size + 1, 0, none⟩ = some (.slice y c.cs.length yc) ∧ Wd.cell? ⟨w.heap.size + 1, 1, none⟩ = some (.slice y4 c.rs.length c4) ∧ Wd.cell? ⟨w.heap.size + 1, 2, none⟩ = some (.int .i64 c.lv)) ∧
            Below w.heap.size w Wd ∧ OwnCk Wd W0.heap.size Wa.heap.size (.slice y c.cs.length yc) c.cs ∧ OwnI Wd Wa.heap.size (.slice y4 c.rs.length c4) c.rs) := fun v4 w4 own4 gr4 => by
        have b4 : Below Wa.heap.size Wa w4 := grown_on bb z3 own0 gr4
        rw [Nat.zero_add, List.nil_append] at own4
        have own4' : OwnI w4 Wa.heap.size v4 c.rs := own4
        obtain ⟨g4, ib4⟩ := own4'.ib
        obtain ⟨y4, c4, rfl, h4, -⟩ := id ib4
        have X4 := box_on Xa.out b4
        have Y4 := box_on Ya.out b4
        obtain ⟨x0, x1, x2, f0, f1, f2⟩ := box3_cells X4
        have hzW := oa.size
        have hzr := hb.size
        have oc : Out w.heap.size (w.heap.size + 1) w4 (w4.setCell ⟨w.heap.size, 1, none⟩ (.slice y4 c.rs.length c4)) := out_setCell _ _ _ _
        have Xc : (w4.setCell ⟨w.heap.size, 1, none⟩ (.slice y4 c.rs.length c4)).heap[w.heap.size]? = some (.cells #[.slice y c.cs.length yc, .slice y4 c.rs.length c4, .int .i64 c.lv] 29 (0, 0)) := block_set X4
        have HOk : OwnCk Wa W0.heap.size Wa.heap.size (.slice y c.cs.length yc) c.cs := HOa.out
        have OC1 := (HOk.below b4).outT oc (by omega) X4 (by decide)
        have OI1 : OwnI _ Wa.heap.size (.slice y4 c.rs.length c4) c.rs := owns_outS own4' oc (by omega)
        generalize hWc : w4.setCell ⟨w.heap.size, 1, none⟩ (.slice y4 c.rs.length c4) = Wc at *
        have Yc := box_out Y4 oc (by omega)
        have od : Out (w.heap.size + 1) (w.heap.size + 1 + 1) Wc (((Wc.setCell ⟨w.heap.size + 1, 0, none⟩ (.slice y c.cs.length yc)).setCell ⟨w.heap.size + 1, 1, none⟩ (.slice y4 c.rs.length c4)).setCell ⟨w.heap.size + 1, 2, none⟩ (.int .i64 c.lv)) := (((Out.refl _ _ _).setCell (Nat.le_refl _) (Nat.lt_succ_self _) _ _).setCell (Nat.le_refl _) (Nat.lt_succ_self _) _ _).setCell (Nat.le_refl _) (Nat.lt_succ_self _) _ _
        have Yd : (((Wc.setCell ⟨w.heap.size + 1, 0, none⟩ (.slice y c.cs.length yc)).setCell ⟨w.heap.size + 1, 1, none⟩ (.slice y4 c.rs.length c4)).setCell ⟨w.heap.size + 1, 2, none⟩ (.int .i64 c.lv)).heap[w.heap.size + 1]? = some (.cells #[.slice y c.cs.length yc, .slice y4 c.rs.length c4, .int .i64 c.lv] 29 (0, 0)) := box3_set Yc
        obtain ⟨p0, p1, p2, q0', q1', q2'⟩ := box3_cells Yc
        have bc : Below w.heap.size w Wc := (Below.comp ba b4).trans (oc.below (Nat.le_of_lt (box_lt X4)))
        exact ⟨y4, c4, Wc, _, rfl, hWc, rfl, ⟨x1, f1⟩, box3_one Xc, ⟨p0, p1, p2⟩, ⟨q0', q1', q2'⟩, box3_one Yd, bc.trans ((od.below (Nat.le_of_lt (box_lt Yc))).mono (by omega)), OC1.outT od (by omega) Yc (by decide), owns_outS OI1 od (by omega)⟩
      go_wp2_with (at_builtin; refine wpList_append_src rfl _ _ 23 rfl Wa.heap.size 3 _ 1 8 Try.underlying23 info3 rfl (by decide) (.slice (some ⟨Wa.heap.size, 0, none⟩) 0 0) 0 [] rfl own0 a' c.rs.length ca' (cis c.rs) rfl hcl sr (cis_one _) (by omega) (by decide) z3 ?_; intro v4 w4 own4 gr4; obtain ⟨y4, c4, Wc, Wd, rfl, hWc, hWd, ⟨e0, e1⟩, ⟨e2, e3, e4⟩, ⟨e5, e6, e7⟩, ⟨e8, e9, e10⟩, hT, bd, ocd, oid⟩ := KEY.out v4 w4 own4 gr4; have HT : Hid _ := hT; have HBD : Hid _ := bd; have HOC : Hid _ := ocd; have HOI : Hid _ := oid; clear hT bd ocd oid own4 gr4)
      obtain ⟨t0, t1, t2⟩ := HT.out
      obtain ⟨ks', o1, o2⟩ := HOC.out
      exact bodyPost_ret (v := .agg #[.slice y c.cs.length yc, .slice y4 c.rs.length c4, .int .i64 c.lv]) (by simp [results, Try.results18, go_sem, t0, t1, t2]) rfl ⟨HBD.out, _, _, _, rfl, ⟨ks', owns_mono o1 q0.size, o2⟩, HOI.out, ba.size⟩
end Go.Proofs.Ytienhdlhlddemaa
