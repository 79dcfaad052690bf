import Derived.Test.YtdbmdblghlfjfaaD1
import Derived.Test.YtdbmdblghlfjfaaY4
import Derived.Test.YtdbmdblghlfjfaaX7
import Derived.Test.YtdbmdblghlfjfaaP5
/- Both HolesOfs. -/
namespace Go.Proofs.Ytdbmdblghlfjfaa
open Go.ChangeShapes Go.WideShapes Go.ChangeAt Go.RowKit
set_option linter.unusedVariables false
open Mp

attribute [local go_sem] Oper.semAt_some

/-- What HolesOf answers. -/
def hoO (G : Bool) (t : Int) : Bool := G && (decide (0 ≤ t) && decide (t ≤ 200))
def hoR (G : Bool) (t : Int) (l : List Pc) : List Ex := bif hoO G t then holS t 0 l else []
theorem len_hoR {G : Bool} {t : Int} {l : List Pc} : (hoR G t l).length ≤ l.length + 1 := by
  unfold hoR
  cases hoO G t
  · simp
  · exact len_holS
theorem isStretch_any (x y : Int) (w : World) (hx : i64 x) : Calls Try.prog 63 #[.int .i64 x, .int .i64 y] w fun e w' => e = .returned (.bool (decide (0 ≤ x) && (decide (0 ≤ y) && decide (y ≤ 200 - x)))) ∧ w' = w := by
  unfold i64 at hx
  by_cases h0 : 0 ≤ x
  · have e1 : IntKind.i64.wrap (200 - x) = 200 - x := wrapI (by omega) (by omega)
    go_enter Try.func63, Try.ntmps63
    go_wp2
    all_goals
      go_ret
      refine ⟨?_, rfl⟩
      simp_all <;> omega
  · go_enter Try.func63, Try.ntmps63
    go_wp2
    all_goals
      go_ret
      refine ⟨?_, rfl⟩
      simp_all <;> omega
theorem drop_gp {l : List Pc} {k : Nat} (h : k < l.length) : l.drop k = gp l k :: l.drop (k + 1) := by
  rw [gp_eq h, List.drop_eq_getElem_cons h]

set_option maxHeartbeats 4000000 in
theorem implHoles_any (a : Option Addr) (c : Nat) (l : List Pc) (t : Int) (G : Bool) (hG : G = true ↔ GM l) (w : World) (hn : l.length ≤ 1048576) (hc : l.length ≤ c) (hf : ∀ p, p ∈ l → Few p) (ha : Pcs w a l) :
    Calls Try.prog 34 #[mv a l.length c, .int .i64 t] w fun e w' => Below w.heap.size w w' ∧ ∃ x cx, e = .returned (.tuple #[.slice x (hoR G t l).length cx, .bool (hoO G t)]) ∧ Own w' w.heap.size w'.heap.size x (hoR G t l) := by
  obtain ⟨W0, hW0⟩ : ∃ W0, w.alloc (.cells #[.slice a l.length c] 29) = W0 := ⟨_, rfl⟩
  have q0 : Below w.heap.size w W0 := by subst hW0; exact below_alloc _ _
  have HA : Hid (W0.heap[w.heap.size]? = some (.cells #[.slice a l.length c] 29 (0, 0))) := by subst hW0; exact al1 _ _
  have i0 := (box1_cells HA.out).1
  have c1 := implGood_any a c l G hG W0 hn hc hf (ha.below q0)
  have cst := fun W => isStretch_any 0 t W (by unfold i64; omega)
  have HC : Hid (GM l → 0 ≤ t ∧ t ≤ 200 → ∀ W, Below w.heap.size w W → Calls Try.prog 56 #[.slice a l.length c, .int .i64 t] W fun e w' => Below W.heap.size W w' ∧ TwoR w' e (cutA t l) (cutB t l)) := fun h ht W hb => cutPieces_any a c l t W (by have := h.1; omega) hc h.rs ht (ha.below hb)
  unfold hoR hoO
  cases G with
  | false =>
    clear HC hG ha hf cst
    generalize l.length = n at *
    go_enter Try.func34, Try.ntmps34
    go_wp2_with (go_at_call 15; refine c1.mono ?_; rintro e w1 ⟨rfl, b1⟩)
    go_ret2
    exact ⟨Below.comp q0 b1, none, 0, rfl, .inl rfl⟩
  | true =>
    have hgm := hG.1 rfl
    have e63 : (decide ((0 : Int) ≤ 0) && (decide (0 ≤ t) && decide (t ≤ 200 - 0))) = (decide (0 ≤ t) && decide (t ≤ 200)) := by simp
    rw [e63] at cst
    clear e63
    obtain ⟨v, hv⟩ : ∃ v, (decide (0 ≤ t) && decide (t ≤ 200)) = v := ⟨_, rfl⟩
    rw [hv] at cst ⊢
    cases v with
    | false =>
      clear HC hG ha hf hgm
      generalize l.length = n at *
      go_enter Try.func34, Try.ntmps34
      go_wp2_with (first | (go_at_call 15; refine c1.mono ?_; rintro e w1 ⟨rfl, b1⟩) | (go_at_call 63; refine (cst _).mono ?_; rintro e w2 ⟨rfl, rfl⟩))
      go_ret2
      exact ⟨Below.comp q0 b1, none, 0, rfl, .inl rfl⟩
    | true =>
      have ht : 0 ≤ t ∧ t ≤ 200 := by simpa using hv
      have c2 := HC.out hgm ht
      have hrs := cutA_rs (t := t) hgm.rs
      have heq := hol_eq (t := t) (l := l) (at' := 0) hgm.rs (fun p hp => by have := hgm.rs.1 p hp; unfold pok at this; omega) ht.1
      have hlA : (cutA t l).length ≤ 40 := Nat.le_trans len_cutA hgm.1
      have HRs : Hid (Rs (cutA t l)) := hrs.1
      have HEq : Hid _ := heq
      simp only [Bool.true_and, cond_true]
      clear HC hG ha hf hv hgm hrs heq
      generalize cutB t l = LB at *
      generalize cutA t l = LA at *
      generalize holS t 0 l = R at *
      generalize l.length = n at *
      go_enter Try.func34, Try.ntmps34
      go_wp2_with fail
      refine c1.mono ?_
      rintro e w1 ⟨rfl, b1⟩
      clear hW0 i0
      have i0 := (box1_cells (box_on HA.out b1)).1
      have g1 := Below.comp q0 b1
      go_wp2_with fail
      refine (cst _).mono ?_
      rintro e w2 ⟨rfl, rfl⟩
      go_wp2_with fail
      refine (c2 _ g1).mono ?_
      rintro e w3 ⟨b3, x1, cc1, x2, cc2, rfl, hc1, -, hA, -⟩
      have g3 := Below.comp g1 b3
      clear i0 c1 c2 cst
      unfold Pcs at hA
      obtain ⟨Z, hZ⟩ : ∃ Z, w3.heap.size = Z := ⟨_, rfl⟩
      have HOkA : Hid (∀ i, i < LA.length → pok (gp LA i)) := fun i hi => HRs.out.ok hi
      have HDr : Hid (∀ i, i < LA.length → LA.drop i = gp LA i :: LA.drop (i + 1)) := fun i hi => drop_gp hi
      have HDe : Hid (LA.drop LA.length = []) := by show _ = _; simp
      have HEq0 : Hid (R = holI t 0 (LA.drop 0)) := by show _ = _; rw [List.drop_zero]; exact HEq.out
      clear HRs HEq
      generalize gp LA = g at *
      obtain ⟨Dr, hDr⟩ : ∃ Dr : Nat → List Pc, (fun i => LA.drop i) = Dr := ⟨_, rfl⟩
      have hDr' : ∀ i, LA.drop i = Dr i := fun i => by rw [← hDr]
      simp only [hDr'] at HDr HDe HEq0
      clear hDr hDr'
      generalize LA.length = m at *
      generalize LB.length = m2 at *
      go_wp2_with fail
      go_loopw [29, 9, 8] (fun i q o wr => ∃ (k : Nat) (F : Int) (acc : List Ex) (v : Value), k ≤ m ∧ i = .int .i64 k ∧ q = .int .i64 F ∧ v = o ∧ acc.length ≤ k ∧ Hid (OwnR wr Z v acc) ∧ 0 ≤ F ∧ F ≤ 400 ∧ Hid (R = acc ++ holI t F (Dr k)) ∧ Below Z w3 wr ∧ Z ≤ wr.heap.size) (fun i _ _ _ => m - (intOf i).toNat)
      case atStart => exact ⟨0, 0, [], _, Nat.zero_le _, rfl, rfl, rfl, by simp, OwnR.nil _ _, by omega, by omega, HEq0, Below.refl _ _, by omega⟩
      case round =>
        obtain ⟨k, F, acc, v, hk, rfl, rfl, rfl, hal, HO, hF0, hF1, HU, hb, hz⟩ := hrel
        have hbW : Below w3.heap.size w3 wr := hZ ▸ hb
        by_cases hlt : k < m
        · obtain ⟨bb, off, rfl, hcell⟩ := (hA.below hbW) (by omega)
          obtain ⟨k0, k1, k2, k3⟩ := hcell k hlt
          clear hcell
          have hpk := HOkA.out k hlt
          have HU2 : Hid (R = (acc ++ btw F (g k).f) ++ holI t ((g k).f + (g k).n) (Dr (k + 1))) := by
            show _ = _
            rw [HU.out, HDr.out k hlt, List.append_assoc]; rfl
          have cF := fun W => inFile_any (g k) W
          unfold pok at hpk
          have cE := fun W => endOf_any (g k).f (g k).n W (by omega) (by omega)
          generalize g k = x at *
          obtain ⟨pf, pn, pa, pz⟩ := x
          simp only at *
          obtain ⟨W1, hW1⟩ : ∃ W1, wr.alloc (.cells #[.int .i64 pf, .int .i64 pn, .int .i64 pa, .bool pz] 40) = W1 := ⟨_, rfl⟩
          obtain ⟨E, hE⟩ : ∃ E, wr.heap.size = E := ⟨_, rfl⟩
          have bE : Below wr.heap.size wr W1 := by subst hW1; exact below_alloc _ _
          have HE : Hid (W1.heap[E]? = some (.cells #[.int .i64 pf, .int .i64 pn, .int .i64 pa, .bool pz] 40 (0, 0))) := by subst hW1 hE; exact al1 _ _
          obtain ⟨e0, e1, e2, e3⟩ := box4_cells HE.out
          have z1 : Z ≤ W1.heap.size := Nat.le_trans hz bE.size
          have own1 : OwnR W1 Z v acc := owns_below HO.out bE
          have cA := addBetween_any v acc F pf W1 Z own1 z1 (by omega) (by omega) (by omega)
          have hge := owns_ge own1
          have hoE : ∀ j, v.ownBlock = some j → j < E := fun j hj => by
            rcases HO.out.2 with ⟨h1, _⟩ | ⟨gg, cap, cur, h1, _, hg, _⟩
            · rw [h1] at hj; simp [Value.ownBlock] at hj
            · rw [h1] at hj
              simp [Value.ownBlock] at hj
              have := box_lt hg
              omega
          have hlen : (acc ++ btw F pf).length ≤ k + 1 := by have := btw_len F pf; simp; omega
          have HHge : Hid _ := hge
          have HoE : Hid _ := hoE
          clear own1 hge hoE HO HU
          generalize hacc : acc ++ btw F pf = acc2 at *
          clear hacc
          go_wp2_with fail
          refine cA.mono ?_
          rintro e w4 ⟨x4, c4, rfl, own4, gr4⟩
          clear hW1 e0 e1 e2 e3 k0 k1 k2 k3
          have bE4 : w4.heap[E]? = some (.cells #[.int .i64 pf, .int .i64 pn, .int .i64 pa, .bool pz] 40 (0, 0)) := (gr4.block E (box_lt HE.out) (fun h => by have := HoE.out E h.symm; omega)).trans HE.out
          obtain ⟨e0, e1, e2, e3⟩ := box4_cells bE4
          have b4 : Below Z w3 w4 := (hb.trans (bE.mono hz)).trans (Grown.below gr4 z1 HHge.out)
          have z4 : Z ≤ w4.heap.size := Nat.le_trans z1 gr4.size
          have HO4 : Hid (OwnR w4 Z (.slice x4 acc2.length c4) acc2) := own4
          clear own4 gr4 bE4 cA
          generalize hql : acc2.length = na at *
          go_wp2_with fail
          refine (cF _).mono ?_
          rintro e w5 ⟨rfl, b5⟩
          clear e0 e1 e2 e3
          go_wp2_with fail
          refine (cE _).mono ?_
          rintro e w6 ⟨rfl, b6⟩
          have b46 := Below.comp b5 b6
          go_wp2_with fail
          go_roundw
          case rel => exact ⟨k + 1, pf + pn, acc2, _, by omega, by go_num, rfl, rfl, by omega, owns_below HO4.out b46, by omega, by omega, HU2, b4.trans (b46.mono z4), Nat.le_trans z4 b46.size⟩
          case measure => simp [intOf]; omega
        · obtain rfl : k = m := by omega
          have hR : R = acc ++ btw F t := by rw [HU.out, HDe.out]; rfl
          have cA := addBetween_any v acc F t wr Z HO.out hz (by omega) (by omega) (by omega)
          have hge := owns_ge HO.out
          rw [← hR] at cA
          clear HU HEq0 HDr HDe HOkA hR HO
          go_wp2_with fail
          refine cA.mono ?_
          rintro e w4 ⟨x4, c4, rfl, own4, gr4⟩
          have b4 : Below Z w3 w4 := hb.trans (Grown.below gr4 hz hge)
          obtain ⟨o1, -, -⟩ := OwnR.own own4
          have HO4 : Hid (Own w4 Z w4.heap.size x4 R) := o1
          have hzz : w.heap.size ≤ Z := by have := g3.size; omega
          clear own4 gr4 o1
          go_wp2_with fail
          go_ret2
          exact ⟨Below.comp g3 (hZ ▸ b4), x4, c4, rfl, Mine.mono HO4.out hzz (Nat.le_refl _)⟩
set_option maxHeartbeats 4000000 in
theorem specHoles_any (a : Option Addr) (c : Nat) (l : List Pc) (t : Int) (G : Bool) (hG : G = true ↔ GM l) (w : World) (hn : l.length ≤ 1048576) (hc : l.length ≤ c) (ha : Pcs w a l) :
    Calls Try.prog 33 #[mv a l.length c, .int .i64 t] w fun e w' => Below w.heap.size w w' ∧ ∃ x cx, e = .returned (.tuple #[.slice x (hoR G t l).length cx, .bool (hoO G t)]) ∧ Own w' w.heap.size w'.heap.size x (hoR G t l) := by
  obtain ⟨W0, hW0⟩ : ∃ W0, w.alloc (.cells #[.slice a l.length c] 29) = W0 := ⟨_, rfl⟩
  have q0 : Below w.heap.size w W0 := by subst hW0; exact below_alloc _ _
  have HA : Hid (W0.heap[w.heap.size]? = some (.cells #[.slice a l.length c] 29 (0, 0))) := by subst hW0; exact al1 _ _
  have i0 := (box1_cells HA.out).1
  have c1 := specGood_any a c l G hG W0 hn hc (ha.below q0)
  have cst := fun W => l1In_any t 0 200 W
  unfold hoR hoO
  cases G with
  | false =>
    clear hG ha cst
    generalize l.length = n at *
    go_enter Try.func33, Try.ntmps33
    go_wp2_with (go_at_call 13; refine c1.mono ?_; rintro e w1 ⟨rfl, b1⟩)
    go_ret2
    exact ⟨Below.comp q0 b1, none, 0, rfl, .inl rfl⟩
  | true =>
    have hgm := hG.1 rfl
    obtain ⟨v, hv⟩ : ∃ v, (decide (0 ≤ t) && decide (t ≤ 200)) = v := ⟨_, rfl⟩
    rw [hv] at cst ⊢
    cases v with
    | false =>
      clear hG ha hgm
      generalize l.length = n at *
      go_enter Try.func33, Try.ntmps33
      go_wp2_with (first | (go_at_call 13; refine c1.mono ?_; rintro e w1 ⟨rfl, b1⟩) | (go_at_call 47; refine (cst _).mono ?_; rintro e w2 ⟨rfl, rfl⟩))
      go_ret2
      exact ⟨Below.comp q0 b1, none, 0, rfl, .inl rfl⟩
    | true =>
      have ht : 0 ≤ t ∧ t ≤ 200 := by simpa using hv
      have hl40 := hgm.1
      have HOkA : Hid (∀ i, i < l.length → pok (gp l i)) := gm_ok hgm
      have HDr : Hid (∀ i, i < l.length → l.drop i = gp l i :: l.drop (i + 1)) := fun i hi => drop_gp hi
      have HDe : Hid (l.drop l.length = []) := by show _ = _; simp
      have HEq0 : Hid (holS t 0 l = holS t 0 (l.drop 0)) := by show _ = _; rw [List.drop_zero]
      simp only [Bool.true_and, cond_true]
      clear hG hv hgm
      obtain ⟨Dr, hDr⟩ : ∃ Dr : Nat → List Pc, (fun i => l.drop i) = Dr := ⟨_, rfl⟩
      have hDr' : ∀ i, l.drop i = Dr i := fun i => by rw [← hDr]
      simp only [hDr'] at HDr HDe HEq0
      clear hDr hDr'
      generalize holS t 0 l = R at *
      unfold Pcs at ha
      generalize gp l = g at *
      generalize l.length = n at *
      go_enter Try.func33, Try.ntmps33
      go_wp2_with fail
      refine c1.mono ?_
      rintro e w1 ⟨rfl, b1⟩
      clear hW0 i0
      have i0 := (box1_cells (box_on HA.out b1)).1
      have g3 := Below.comp q0 b1
      go_wp2_with fail
      refine (cst _).mono ?_
      rintro e w3 ⟨rfl, rfl⟩
      obtain ⟨Z, hZ⟩ : ∃ Z, w3.heap.size = Z := ⟨_, rfl⟩
      go_wp2_with fail
      clear i0 c1 cst
      go_loopw [22, 7, 6] (fun i q o wr => ∃ (k : Nat) (F : Int) (acc : List Ex) (v : Value), k ≤ n ∧ i = .int .i64 k ∧ q = .int .i64 F ∧ v = o ∧ acc.length ≤ k ∧ Hid (OwnR wr Z v acc) ∧ 0 ≤ F ∧ F ≤ 400 ∧ Hid (R = acc ++ holS t F (Dr k)) ∧ Below Z w3 wr ∧ Z ≤ wr.heap.size) (fun i _ _ _ => n - (intOf i).toNat)
      case atStart => exact ⟨0, 0, [], _, Nat.zero_le _, rfl, rfl, rfl, by simp, OwnR.nil _ _, by omega, by omega, HEq0, Below.refl _ _, by omega⟩
      case round =>
        obtain ⟨k, F, acc, v, hk, rfl, rfl, rfl, hal, HO, hF0, hF1, HU, hb, hz⟩ := hrel
        have hbW : Below w3.heap.size w3 wr := hZ ▸ hb
        by_cases hlt : k < n
        · obtain ⟨bb, off, rfl, hcell⟩ := (ha.below (Below.comp g3 hbW)) (by omega)
          obtain ⟨k0, k1, k2, k3⟩ := hcell k hlt
          clear hcell
          have hpk := HOkA.out k hlt
          have HU2 : Hid (R = (acc ++ (if F < min (g k).f t then [(F, min (g k).f t - F)] else [])) ++ holS t ((g k).f + (g k).n) (Dr (k + 1))) := by
            show _ = _
            rw [HU.out, HDr.out k hlt, List.append_assoc]; rfl
          unfold pok at hpk
          generalize g k = x at *
          obtain ⟨pf, pn, pa, pz⟩ := x
          simp only at *
          obtain ⟨W1, hW1⟩ : ∃ W1, wr.alloc (.cells #[.int .i64 pf, .int .i64 pn, .int .i64 pa, .bool pz] 40) = W1 := ⟨_, rfl⟩
          obtain ⟨E, hE⟩ : ∃ E, wr.heap.size = E := ⟨_, rfl⟩
          have bE : Below wr.heap.size wr W1 := by subst hW1; exact below_alloc _ _
          have HE : Hid (W1.heap[E]? = some (.cells #[.int .i64 pf, .int .i64 pn, .int .i64 pa, .bool pz] 40 (0, 0))) := by subst hW1 hE; exact al1 _ _
          obtain ⟨e0, e1, e2, e3⟩ := box4_cells HE.out
          have z1 : Z ≤ W1.heap.size := Nat.le_trans hz bE.size
          have own1 : OwnR W1 Z v acc := owns_below HO.out bE
          have b1w : Below Z w3 W1 := hb.trans (bE.mono hz)
          obtain ⟨xv0, cv0, ev0⟩ := owns_form own1
          subst ev0
          have hoE : ∀ j, (Value.slice xv0 acc.length cv0).ownBlock = some j → j < E := fun j hj => by
            rcases HO.out.2 with ⟨h1, _⟩ | ⟨gg, cap, cur, h1, _, hg, _⟩
            · rw [h1] at hj; simp [Value.ownBlock] at hj
            · rw [h1] at hj
              simp [Value.ownBlock] at hj
              have := box_lt hg
              omega
          have hob' : some E ≠ (Value.slice xv0 acc.length cv0).ownBlock := fun h => by have := hoE E h.symm; omega
          have HOw : Hid (OwnR W1 Z (.slice xv0 acc.length cv0) acc) := own1
          clear hoE HO HU
          have ev1 : IntKind.i64.wrap (pf + pn) = pf + pn := wrapI (by omega) (by omega)
          by_cases hft : t < pf
          · have hm : min pf t = t := by omega
            by_cases hFt : F < t
            · rw [hm, if_pos hFt] at HU2
              have own1a := owns_below own1 (below_alloc W1 (.cells #[.int .i64 F, .int .i64 (t - F)] 73))
              have sr := src_one W1 F (t - F) 73
              have z1a : Z ≤ (W1.alloc (.cells #[.int .i64 F, .int .i64 (t - F)] 73)).heap.size := by simp; omega
              have el : (acc ++ [(F, t - F)]).length = acc.length + 1 := by simp
              have ec : cxs (acc ++ [(F, t - F)]) = cxs acc ++ cxs [(F, t - F)] := cxs_app _ _
              have HL : Hid _ := And.intro el ec
              have ev2 : IntKind.i64.wrap (t - F) = t - F := wrapI (by omega) (by omega)
              clear own1 el ec hm
              generalize hq : acc.length = na at *
              have HQ : Hid _ := hq
              clear hq
              go_wp2_with (at_builtin; refine wpList_append_src rfl _ _ 44 rfl Z 73 _ 2 16 Try.underlying44 info73 rfl (by decide) (.slice xv0 na cv0) na (cxs acc) rfl own1a (some ⟨W1.heap.size, 0, none⟩) 1 1 (cxs [(F, t - F)]) rfl rfl sr (cxs_one _) (by omega) (by decide) z1a ?_; intro v2 w2 own2 gr2'; obtain ⟨x2, c2, e2'⟩ := owns_form own2; subst e2'; have gr2 := grown_alloc gr2'; have bE2 : w2.heap[E]? = some (.cells #[.int .i64 pf, .int .i64 pn, .int .i64 pa, .bool pz] 40 (0, 0)) := (gr2.block E (box_lt HE.out) hob').trans HE.out; obtain ⟨f0, f1, f2, f3⟩ := box4_cells bE2; have HO2 : Hid (w2.ownsRow Z 73 2 (.slice x2 (na + 1) c2) (na + 1) (cxs acc ++ cxs [(F, t - F)])) := own2; have b2 : Below Z w3 w2 := b1w.trans (Grown.below gr2 z1 (owns_ge HOw.out)); have z2 : Z ≤ w2.heap.size := Nat.le_trans z1 gr2.size; clear gr2 gr2' own2 bE2)
              go_roundw
              case rel => exact ⟨k + 1, pf + pn, acc ++ [(F, t - F)], _, by omega, by go_num, rfl, rfl, by rw [HL.out.1]; omega, by show OwnR _ _ _ _; unfold OwnR; rw [HL.out.1, HL.out.2]; exact HO2.out, by omega, by omega, HU2, b2, z2⟩
              case measure => simp [intOf]; omega
            · rw [hm, if_neg hFt, List.append_nil] at HU2
              clear own1 hm
              go_wp2_with fail
              go_roundw
              case rel => exact ⟨k + 1, pf + pn, acc, _, by omega, by go_num, rfl, rfl, by omega, HOw, by omega, by omega, HU2, b1w, z1⟩
              case measure => simp [intOf]; omega
          · have hm : min pf t = pf := by omega
            by_cases hFt : F < pf
            · rw [hm, if_pos hFt] at HU2
              have own1a := owns_below own1 (below_alloc W1 (.cells #[.int .i64 F, .int .i64 (pf - F)] 73))
              have sr := src_one W1 F (pf - F) 73
              have z1a : Z ≤ (W1.alloc (.cells #[.int .i64 F, .int .i64 (pf - F)] 73)).heap.size := by simp; omega
              have el : (acc ++ [(F, pf - F)]).length = acc.length + 1 := by simp
              have ec : cxs (acc ++ [(F, pf - F)]) = cxs acc ++ cxs [(F, pf - F)] := cxs_app _ _
              have HL : Hid _ := And.intro el ec
              have ev2 : IntKind.i64.wrap (pf - F) = pf - F := wrapI (by omega) (by omega)
              clear own1 el ec hm
              generalize hq : acc.length = na at *
              have HQ : Hid _ := hq
              clear hq
              go_wp2_with (at_builtin; refine wpList_append_src rfl _ _ 44 rfl Z 73 _ 2 16 Try.underlying44 info73 rfl (by decide) (.slice xv0 na cv0) na (cxs acc) rfl own1a (some ⟨W1.heap.size, 0, none⟩) 1 1 (cxs [(F, pf - F)]) rfl rfl sr (cxs_one _) (by omega) (by decide) z1a ?_; intro v2 w2 own2 gr2'; obtain ⟨x2, c2, e2'⟩ := owns_form own2; subst e2'; have gr2 := grown_alloc gr2'; have bE2 : w2.heap[E]? = some (.cells #[.int .i64 pf, .int .i64 pn, .int .i64 pa, .bool pz] 40 (0, 0)) := (gr2.block E (box_lt HE.out) hob').trans HE.out; obtain ⟨f0, f1, f2, f3⟩ := box4_cells bE2; have HO2 : Hid (w2.ownsRow Z 73 2 (.slice x2 (na + 1) c2) (na + 1) (cxs acc ++ cxs [(F, pf - F)])) := own2; have b2 : Below Z w3 w2 := b1w.trans (Grown.below gr2 z1 (owns_ge HOw.out)); have z2 : Z ≤ w2.heap.size := Nat.le_trans z1 gr2.size; clear gr2 gr2' own2 bE2)
              go_roundw
              case rel => exact ⟨k + 1, pf + pn, acc ++ [(F, pf - F)], _, by omega, by go_num, rfl, rfl, by rw [HL.out.1]; omega, by show OwnR _ _ _ _; unfold OwnR; rw [HL.out.1, HL.out.2]; exact HO2.out, by omega, by omega, HU2, b2, z2⟩
              case measure => simp [intOf]; omega
            · rw [hm, if_neg hFt, List.append_nil] at HU2
              clear own1 hm
              go_wp2_with fail
              go_roundw
              case rel => exact ⟨k + 1, pf + pn, acc, _, by omega, by go_num, rfl, rfl, by omega, HOw, by omega, by omega, HU2, b1w, z1⟩
              case measure => simp [intOf]; omega
        · obtain rfl : k = n := by omega
          have hR : R = acc ++ (if F < t then [(F, t - F)] else []) := by rw [HU.out, HDe.out]; rfl
          obtain ⟨xv0, cv0, ev0⟩ := owns_form HO.out
          subst ev0
          by_cases hFt : F < t
          · rw [if_pos hFt] at hR
            have own1a := owns_below HO.out (below_alloc wr (.cells #[.int .i64 F, .int .i64 (t - F)] 73))
            have sr := src_one wr F (t - F) 73
            have z1a : Z ≤ (wr.alloc (.cells #[.int .i64 F, .int .i64 (t - F)] 73)).heap.size := by simp; omega
            have HO' : Hid (OwnR wr Z (.slice xv0 acc.length cv0) acc) := HO.out
            have el : R.length = acc.length + 1 := by rw [hR]; simp
            have ec : cxs R = cxs acc ++ cxs [(F, t - F)] := by rw [hR, cxs_app]
            have HL : Hid _ := And.intro el ec
            have ev2 : IntKind.i64.wrap (t - F) = t - F := wrapI (by omega) (by omega)
            clear HU HO el ec hR HEq0 HDr HDe HOkA
            generalize hq : acc.length = na at *
            go_wp2_with (at_builtin; refine wpList_append_src rfl _ _ 44 rfl Z 73 _ 2 16 Try.underlying44 info73 rfl (by decide) (.slice xv0 na cv0) na (cxs acc) rfl own1a (some ⟨wr.heap.size, 0, none⟩) 1 1 (cxs [(F, t - F)]) rfl rfl sr (cxs_one _) (by omega) (by decide) z1a ?_; intro v2 w2 own2 gr2'; obtain ⟨x2, c2, e2'⟩ := owns_form own2; subst e2'; have gr2 := grown_alloc gr2'; have b2 : Below Z w3 w2 := hb.trans (Grown.below gr2 hz (owns_ge HO'.out)); have HO2 : Hid (w2.ownsRow Z 73 2 (.slice x2 (na + 1) c2) (na + 1) (cxs acc ++ cxs [(F, t - F)])) := own2; clear own2 gr2 gr2')
            go_ret2
            have own3 : OwnR w2 Z (.slice x2 (na + 1) c2) R := by unfold OwnR; rw [HL.out.1, HL.out.2]; exact HO2.out
            have hzz : w.heap.size ≤ Z := by have := g3.size; omega
            exact ⟨Below.comp g3 (hZ ▸ b2), x2, c2, by rw [HL.out.1]; rfl, Mine.mono (OwnR.own own3).1 hzz (Nat.le_refl _)⟩
          · rw [if_neg hFt, List.append_nil] at hR
            have HO' : Hid (OwnR wr Z (.slice xv0 acc.length cv0) acc) := HO.out
            subst hR
            clear HU HO HEq0 HDr HDe HOkA
            have hzz : w.heap.size ≤ Z := by have := g3.size; omega
            go_wp2_with fail
            go_ret2
            first | exact ⟨Below.comp g3 (hZ ▸ hb), xv0, cv0, rfl, Mine.mono (OwnR.own HO'.out).1 hzz (Nat.le_refl _)⟩ | exact ⟨Below.comp g3 (hZ ▸ hb), xv0, ⟨cv0, rfl⟩, Mine.mono (OwnR.own HO'.out).1 hzz (Nat.le_refl _)⟩
end Go.Proofs.Ytdbmdblghlfjfaa
