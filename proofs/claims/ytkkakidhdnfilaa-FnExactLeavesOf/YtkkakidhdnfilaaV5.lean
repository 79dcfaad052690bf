import Derived.Test.YtkkakidhdnfilaaV4
/- The program: the leaves below a cell. -/
namespace Go.Proofs.Ytkkakidhdnfilaa
open Go.ChangeShapes Go.WideShapes Go.ChangeAt Go.RowKit
set_option linter.unusedVariables false
open Hd

attribute [local go_sem] Oper.semAt_some
attribute [local go_sem] m_leaf m_fork

theorem Strs.src {w : World} {a : Option Addr} {l : List ByteArray} (h : Strs w a l) : l.length = 0 ∨ ∃ ad, a = some ad ∧ ∀ j u, (css l)[j]? = some u → w.cell? (ad.add j) = some u := by
  by_cases h0 : l.length = 0
  · exact .inl h0
  · obtain ⟨b, off, rfl, hc⟩ := h h0
    refine .inr ⟨_, rfl, fun j u hj => ?_⟩
    have hlt : j < l.length := by have := (List.getElem?_eq_some_iff.1 hj).1; rwa [css_len] at this
    rw [addN, hc j hlt, ← hj, css_at hlt]
theorem len16 {L : List Ce} (hok : ∀ i, i < L.length → okC (gc L i) = true) (l : Nat) (hl : l ≤ 2) (k : Int) (hk : isO L (l + 1) k = true) : (lvf L (l + 1) k).length ≤ 16 := by
  rw [lvf_len hok l k hk]
  exact pow_lt l hl
theorem flat16 {L : List Ce} (hok : ∀ i, i < L.length → okC (gc L i) = true) (l : Nat) (hl : l ≤ 2) (K : List Int) (hK : ∀ x, x ∈ K → isO L l x = true) (h4 : K.length ≤ 4) (h0 : l ≠ 0) : (K.flatMap (lvf L l)).length ≤ 64 := by
  obtain ⟨l, rfl⟩ : ∃ l', l = l' + 1 := ⟨l - 1, by omega⟩
  rw [flat_len K (fun x hx => lvf_len hok l x (hK x hx))]
  have := pow_lt l (by omega)
  calc K.length * 4 ^ l ≤ 4 * 16 := Nat.mul_le_mul h4 this
    _ = 64 := rfl
set_option maxHeartbeats 4000000 in
theorem leaves_step {L : List Ce} (hok : ∀ i, i < L.length → okC (gc L i) = true) {ns rs : List Int} {lv : Int} (w0 : World) (v : Value) (hOp : OpAt w0 v L ns rs lv) (hn : L.length ≤ 80) (l : Nat) (hl : l ≤ 2)
    (IH : l ≠ 0 → ∀ (k : Int) (W : World), Below w0.heap.size w0 W → isO L l k = true → Calls Try.prog 55 #[v, .int .i64 k, .int .i64 (l : Int)] W fun e w' => Below W.heap.size W w' ∧ ∃ u, e = .returned u ∧ OwnS w' W.heap.size u (lvf L l k))
    (k : Int) (w : World) (hb : Below w0.heap.size w0 w) (hk : isO L (l + 1) k = true) :
    Calls Try.prog 55 #[v, .int .i64 k, .int .i64 ((l : Int) + 1)] w fun e w' => Below w.heap.size w w' ∧ ∃ u, e = .returned u ∧ OwnS w' w.heap.size u (lvf L (l + 1) k) := by
  obtain ⟨a, ka, b, kb, c, kc, rfl, -, -, -, hC, -, -⟩ := hOp
  obtain ⟨W0, hW0⟩ : ∃ W0, w.alloc (.cells #[.slice a L.length ka, .slice b ns.length kb, .slice c rs.length kc, .int .i64 lv] 64) = W0 := ⟨_, rfl⟩
  have q0 : Below w.heap.size w W0 := by subst hW0; exact below_alloc _ _
  have H1 : Hid (W0.heap[w.heap.size]? = some (.cells #[.slice a L.length ka, .slice b ns.length kb, .slice c rs.length kc, .int .i64 lv] 64 (0, 0))) := by subst hW0; exact al1 _ _
  obtain ⟨⟨i0, i1, i2, i3⟩, -⟩ := box4_cells H1.out
  have hb0 : Below w0.heap.size w0 W0 := hb.trans (q0.mono hb.size)
  have HIH : Hid _ := IH
  have Hk : Hid _ := hk
  have Hok : Hid _ := hok
  obtain ⟨R, hR⟩ : ∃ R, lvf L (l + 1) k = R := ⟨_, rfl⟩
  have HR : Hid _ := hR
  rw [hR]
  clear IH hR hk
  unfold ov at *
  by_cases hk1 : k = -1
  · subst hk1
    have cP := places_any l hl
    have hpw := pow_lt l hl
    have HE : Hid (R = List.replicate (4 ^ l) ⟨#[]⟩) := by show _ = _; rw [← HR.out, lvf, if_pos rfl]
    generalize 4 ^ l = N at *
    have hmk := make_any (P := Try.prog) 43 9 _ 1 16 Try.underlying43 info9 .i64 .i64 N (by omega) (by omega)
    simp only [Nat.mul_one] at hmk
    clear hC hok
    go_enter Try.func55, Try.ntmps55
    go_wp2_with fail
    refine (cP _).mono ?_
    rintro e w1' ⟨rfl, hw⟩
    have hw' := hw.symm
    subst hw'
    clear hw
    go_wp2_with fail
    go_ret
    exact ⟨Below.comp q0 (below_alloc _ _), _, rfl, by rw [HE.out]; exact owns_mono (ownS_made _ N (by omega)) q0.size⟩
  have hk1' : (k == -1) = false := by simpa using hk1
  obtain ⟨q, rfl⟩ : ∃ q : Nat, k = q := by
    rcases isO_succ.1 Hk.out with e | ⟨h1, -⟩
    · exact absurd e hk1
    · exact ⟨k.toNat, by have := h1.1; omega⟩
  obtain ⟨hq, hct, hkz, hkids⟩ := okC_kids Hk.out
  have hkn : (q : Int) < (L.length : Int) := by omega
  obtain ⟨bb, off, rfl, hcc⟩ := hC.below hb0 (by omega)
  have c0 : W0.cell? ⟨bb, off + q, none⟩ = some (cwV (gc L q)) := hcc q hq
  have hokq := hok q hq
  clear hC hok hcc
  by_cases hkd : (gc L q).kd = []
  · have HE : Hid (R = [(gc L q).lf]) := by show _ = _; rw [← HR.out, lvf, if_neg hk1, Int.toNat_natCast, if_pos hkd]
    rw [cwV_leaf hct hkd] at c0
    clear hct hokq hkd hkids hkz hk1
    generalize (gc L q).lf = lf at *
    have hA := fun W => as_ll (.string lf) W
    generalize L.length = n at *
    go_enter Try.func55, Try.ntmps55
    go_wp2
    go_ret
    exact ⟨Below.comp q0 (below_alloc _ _), _, rfl, by rw [HE.out]; exact owns_mono (OwnS.one _ lf) q0.size⟩
  · have HE : Hid (R = (gc L q).kd.flatMap (lvf L l)) := by show _ = _; rw [← HR.out, lvf, if_neg hk1, Int.toNat_natCast, if_neg hkd]
    have hl0 : l ≠ 0 := fun e => hkd (hkz.2 e)
    obtain ⟨p, r, s, t, hkk, hcv⟩ := cwV_fork hct hkd hokq
    rw [hcv] at c0
    have hA := fun W => as_fl (fv p r s t) W
    unfold fv at *
    rw [hkk] at HE hkids
    clear hct hokq hkd hcv hkz hk1 hkk
    have HI : Hid _ := HIH.out hl0
    have Hki : Hid _ := hkids
    have H64 : Hid (∀ j, ([p, r, s, t].take j |>.flatMap (lvf L l)).length ≤ 64) := fun j => flat16 Hok.out l hl _ (fun x hx => Hki.out x (List.mem_of_mem_take hx)) (by rw [List.length_take]; simp; omega) hl0
    have H16 : Hid (∀ x, x ∈ [p, r, s, t] → (lvf L l x).length ≤ 16) := fun x hx => by
      obtain ⟨l', rfl⟩ : ∃ l', l = l' + 1 := ⟨l - 1, by omega⟩
      exact len16 Hok.out l' (by omega) x (Hki.out x hx)
    clear hkids HIH
    obtain ⟨W1, hW1⟩ : ∃ W1, W0.alloc (.cells #[.int .i64 p, .int .i64 r, .int .i64 s, .int .i64 t] 97) = W1 := ⟨_, rfl⟩
    have q1 : Below W0.heap.size W0 W1 := by subst hW1; exact below_alloc _ _
    have H2 : Hid (W1.heap[W0.heap.size]? = some (.cells #[.int .i64 p, .int .i64 r, .int .i64 s, .int .i64 t] 97 (0, 0))) := by subst hW1; exact al1 _ _
    have H11 : Hid (W1.heap[w.heap.size]? = _) := box_on H1.out q1
    have hb1 : Below w.heap.size w W1 := Below.comp q0 q1
    have HB0 : Hid (∀ W, Below W1.heap.size W1 W → Below w0.heap.size w0 W) := fun W h => (hb0.trans (q1.mono hb0.size)).trans (h.mono (Nat.le_trans hb0.size q1.size))
    generalize hNN : L.length = n at *
    have HNN : Hid _ := hNN
    clear hNN
    have hF := fun W => forkKids_any p r s t W
    unfold fv at hF
    have el : IntKind.i64.wrap ((l : Int) + 1 - 1) = (l : Int) := by rw [show (l : Int) + 1 - 1 = (l : Int) by omega]; exact wrapI (by omega) (by omega)
    go_enter Try.func55, Try.ntmps55
    go_wp2_with fail
    refine (hF _).mono ?_
    rintro e w1 ⟨rfl, hw⟩
    rw [hW1] at hw
    have hw' := hw.symm
    subst hw'
    clear hw
    go_wp2_with fail
    clear hW0 hW1 i0 i1 i2 i3 c0 hA hF
    have HX : Hid (∀ j, j < 4 → ∀ W, Below W1.heap.size W1 W → W.cell? ⟨W0.heap.size, j, none⟩ = some (.int .i64 (gi [p, r, s, t] j))) := fun j hj W h => by
      obtain ⟨⟨u0, u1, u2, u3⟩, -⟩ := box4_cells (box_on H2.out h)
      match j, hj with
      | 0, _ => exact u0
      | 1, _ => exact u1
      | 2, _ => exact u2
      | 3, _ => exact u3
    go_loopw [9, 36] (fun s9 s36 wr => ∃ j : Nat, j ≤ 4 ∧ s36 = .int .i64 j ∧ Hid (OwnS wr W1.heap.size s9 (([p, r, s, t].take j).flatMap (lvf L l))) ∧ Below W1.heap.size W1 wr) (fun _ s36 _ => 4 - (intOf s36).toNat)
    case atStart => exact ⟨0, by omega, rfl, OwnS.nil _ _, Below.refl _ _⟩
    case round =>
      obtain ⟨j, hj, rfl, HO, hbw⟩ := hrel
      obtain ⟨⟨y0, y1, y2, y3⟩, -⟩ := box4_cells (box_on H11.out hbw)
      obtain ⟨y, yc, hy⟩ := owns_form HO.out
      subst hy
      by_cases hlt : j < 4
      · have u0 : wr.cell? ⟨W0.heap.size, j, none⟩ = some (.int .i64 (gi [p, r, s, t] j)) := HX.out j hlt wr hbw
        have hlt' : (j : Int) < 4 := by omega
        have hmem : gi [p, r, s, t] j ∈ [p, r, s, t] := by rw [gi_eq (by simpa using hlt)]; exact List.getElem_mem _
        have cI := HI.out (gi [p, r, s, t] j) wr (HB0.out _ hbw) (Hki.out _ hmem)
        have hl16 := H16.out _ hmem
        have hl64 := H64.out j
        have HT : Hid (([p, r, s, t].take (j + 1)).flatMap (lvf L l) = ([p, r, s, t].take j).flatMap (lvf L l) ++ lvf L l (gi [p, r, s, t] j)) := by
          show _ = _
          rw [List.take_succ_eq_append_getElem (by simpa using hlt), List.flatMap_append, gi_eq (by simpa using hlt)]
          simp
        clear hmem
        generalize gi [p, r, s, t] j = x at *
        generalize ([p, r, s, t].take j).flatMap (lvf L l) = P at *
        generalize lvf L l x = Q at *
        generalize hM : P.length = M at *
        have HM : Hid _ := hM
        have zW : W1.heap.size ≤ wr.heap.size := hbw.size
        go_wp2_with fail
        refine cI.mono ?_
        rintro e w4 ⟨b4, v4, rfl, own4⟩
        have b04 := Below.comp hbw b4
        obtain ⟨a4, c4, rfl, hc4, st4⟩ := OwnS.strs own4
        have sr4 := Strs.src st4
        have hcl : (css Q).length = Q.length * 1 := by rw [css_len, Nat.mul_one]
        have own5 : w4.ownsRow W1.heap.size 9 1 (.slice y M yc) M (css P) := by
          have h6 := owns_below HO.out b4
          rwa [hM] at h6
        have z4 : W1.heap.size ≤ w4.heap.size := b04.size
        clear own4 st4 cI u0 y0 y1 y2 y3 HO hM
        generalize hN2 : Q.length = N2 at *
        have HN2 : Hid _ := hN2
        clear hN2
        go_wp2_with (at_builtin; refine wpList_append_src rfl _ _ 43 rfl W1.heap.size 9 _ 1 16 Try.underlying43 info9 rfl (by decide) (.slice y M yc) M (css P) rfl own5 a4 N2 c4 (css Q) rfl hcl sr4 (css_one _) (by omega) (by decide) z4 ?_; intro v6 w6 own6 gr6; have b6 : Below W1.heap.size W1 w6 := grown_on b04 z4 own5 gr6; have OW6 : Hid (w6.ownsRow W1.heap.size 9 1 v6 (M + N2) (css P ++ css Q)) := own6; clear own6 gr6)
        go_roundw
        case rel =>
          refine ⟨j + 1, by omega, by go_num, ?_, b6⟩
          rw [HT.out]
          show OwnS _ _ _ _
          unfold OwnS
          rw [List.length_append, css_app, HM.out, HN2.out]
          exact OW6.out
        case measure => simp [intOf]; omega
      · have hj4 : j = 4 := by omega
        subst hj4
        have HO2 : Hid _ := HO.out
        have HF4 : Hid (([p, r, s, t].take 4).flatMap (lvf L l) = R) := HE.out.symm
        rw [HF4.out] at HO2
        generalize hQ : (([p, r, s, t].take 4).flatMap (lvf L l)).length = Q at *
        have HQ : Hid (R.length = Q) := by show _ = _; rw [← HF4.out]; exact hQ
        go_wp2
        go_ret
        refine ⟨Below.comp hb1 hbw, _, rfl, ?_⟩
        have h9 := owns_mono HO2.out hb1.size
        rw [HQ.out] at h9
        unfold OwnS
        rw [HQ.out]
        exact h9
theorem leaves_any {L : List Ce} (hok : ∀ i, i < L.length → okC (gc L i) = true) {ns rs : List Int} {lv : Int} (w0 : World) (v : Value) (hOp : OpAt w0 v L ns rs lv) (hn : L.length ≤ 80) : ∀ (l : Nat), l ≤ 2 → ∀ (k : Int) (W : World), Below w0.heap.size w0 W → isO L (l + 1) k = true →
    Calls Try.prog 55 #[v, .int .i64 k, .int .i64 ((l : Int) + 1)] W fun e w' => Below W.heap.size W w' ∧ ∃ u, e = .returned u ∧ OwnS w' W.heap.size u (lvf L (l + 1) k) := by
  intro l
  induction l with
  | zero => intro hl; exact leaves_step hok w0 v hOp hn 0 hl (fun h => absurd rfl h)
  | succ l ih => intro hl; exact leaves_step hok w0 v hOp hn (l + 1) hl (fun _ k W h1 h2 => ih (by omega) k W h1 h2)
end Go.Proofs.Ytkkakidhdnfilaa
