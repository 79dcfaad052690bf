import Derived.Test.YtienhdlhlddemaaE3
/- The program: a cell of a level, and all below. -/
namespace Go.Proofs.Ytienhdlhlddemaa
open Go.ChangeShapes Go.WideShapes Go.ChangeAt Go.RowKit
set_option linter.unusedVariables false
open Hd

attribute [local go_sem] Oper.semAt_some

/-- An open cow as a value. -/
abbrev ov (a : Option Addr) (n k : Nat) (b : Option Addr) (n' k' : Nat) (c : Option Addr) (n'' k'' : Nat) (lv : Int) : Value := .agg #[.slice a n k, .slice b n' k', .slice c n'' k'', .int .i64 lv]
/-- A row of cells as the program holds them. -/
abbrev Cws (w : World) (a : Option Addr) (L : List Ce) : Prop := At w a L.length (fun i => cwV (gc L i))
/-- An open cow, and where it can be read. -/
def OpAt (w : World) (v : Value) (L : List Ce) (ns rs : List Int) (lv : Int) : Prop :=
  ∃ a k b k' c k'', v = ov a L.length k b ns.length k' c rs.length k'' lv ∧ L.length ≤ k ∧ ns.length ≤ k' ∧ rs.length ≤ k'' ∧ Cws w a L ∧ Ints w b ns ∧ Ints w c rs
theorem OpAt.below {w w' : World} {v : Value} {L : List Ce} {ns rs : List Int} {lv : Int} (h : OpAt w v L ns rs lv) (hb : Below w.heap.size w w') : OpAt w' v L ns rs lv := by
  obtain ⟨a, k, b, k', c, k'', e, h1, h2, h3, h4, h5, h6⟩ := h
  exact ⟨a, k, b, k', c, k'', e, h1, h2, h3, h4.below hb, h5.below hb, h6.below hb⟩
theorem as_ll (v : Value) (w : World) : (Instr.typeAssert (.iface 72 v) 62 72 true).run Try.prog w = .ok (.tuple #[v, .bool true]) w := by kernel_rfl
theorem as_fl (v : Value) (w : World) : (Instr.typeAssert (.iface 74 v) 62 72 true).run Try.prog w = .ok (.tuple #[.string ⟨#[]⟩, .bool false]) w := by kernel_rfl
theorem m_leaf (v : Value) (w : World) : (Go.method 198 72 v "loop.example/g00261/impl.kidList").run Try.prog w = .ok (67, v) w := by kernel_rfl
theorem m_fork (v : Value) (w : World) : (Go.method 198 74 v "loop.example/g00261/impl.kidList").run Try.prog w = .ok (68, v) w := by kernel_rfl
attribute [local go_sem] m_leaf m_fork
theorem cwV_free {x : Ce} (h : x.ct = 0) : cwV x = .nilIface := by unfold cwV; rw [if_pos h]
theorem cwV_leaf {x : Ce} (h : ¬ x.ct = 0) (hk : x.kd = []) : cwV x = .iface 72 (.string x.lf) := by unfold cwV; rw [if_neg h, if_pos hk]
theorem cwV_fork {x : Ce} (h : ¬ x.ct = 0) (hk : ¬ x.kd = []) (ho : okC x = true) : ∃ p q r s, x.kd = [p, q, r, s] ∧ cwV x = .iface 74 (fv p q r s) := by
  unfold okC at ho
  rw [if_neg h, if_neg hk] at ho
  simp at ho
  match hkd : x.kd, ho.1 with
  | [p, q, r, s], _ => exact ⟨p, q, r, s, rfl, by unfold cwV; rw [if_neg h, if_neg hk, hkd]; rfl⟩
theorem isO_out {L : List Ce} {l : Nat} {k : Int} (h : k ≠ -1) (hr : ¬ inR L.length k) : isO L (l + 1) k = false := by
  rw [Bool.eq_false_iff]
  intro e
  rcases isO_succ.1 e with e | ⟨e, -⟩
  · exact h e
  · exact hr e
theorem isO_free {L : List Ce} {l q : Nat} (h : (gc L q).ct = 0) : isO L (l + 1) (q : Int) = false := by
  rw [Bool.eq_false_iff]
  intro e
  rcases isO_succ.1 e with e | ⟨-, e, -⟩
  · omega
  · exact e h
theorem isO_leaf {L : List Ce} {l q : Nat} (hq : q < L.length) (h : ¬ (gc L q).ct = 0) (hk : (gc L q).kd = []) : isO L (l + 1) (q : Int) = decide (l = 0) := by
  rw [Bool.eq_iff_iff, isO_succ, decide_eq_true_eq, Int.toNat_natCast, hk]
  constructor
  · rintro (e | ⟨-, -, e, -⟩)
    · omega
    · exact e.1 rfl
  · intro e
    exact .inr ⟨⟨by omega, by omega⟩, h, by simp [e], by simp⟩
theorem isO_fork {L : List Ce} {l q : Nat} (hq : q < L.length) (h : ¬ (gc L q).ct = 0) (hk : ¬ (gc L q).kd = []) : isO L (l + 1) (q : Int) = (!decide (l = 0) && (gc L q).kd.all (isO L l)) := by
  rw [Bool.eq_iff_iff, isO_succ, Int.toNat_natCast]
  simp only [Bool.and_eq_true, Bool.not_eq_true', decide_eq_false_iff_not, List.all_eq_true]
  constructor
  · rintro (e | ⟨-, -, e, e2⟩)
    · omega
    · exact ⟨fun e3 => hk (e.2 e3), e2⟩
  · rintro ⟨e, e2⟩
    exact .inr ⟨⟨by omega, by omega⟩, h, ⟨fun e3 => absurd e3 hk, fun e3 => absurd e3 e⟩, e2⟩
set_option maxHeartbeats 2000000 in
set_option maxRecDepth 20000 in
theorem isO_step {L : List Ce} (hok : ∀ i, i < L.length → okC (gc L i) = true) (hn : L.length ≤ 80) {ns rs : List Int} {lv : Int} (w0 : World) (v : Value) (ho : OpAt w0 v L ns rs lv) (l : Nat) (hl3 : l ≤ 2)
    (IH : l ≠ 0 → ∀ (k : Int) (w : World), Below w0.heap.size w0 w → Calls Try.prog 47 #[v, .int .i64 k, .int .i64 (l : Int)] w fun e w' => e = .returned (.bool (isO L l k)) ∧ Below w.heap.size w w')
    (k : Int) (w : World) (hb : Below w0.heap.size w0 w) :
    Calls Try.prog 47 #[v, .int .i64 k, .int .i64 ((l : Int) + 1)] w fun e w' => e = .returned (.bool (isO L (l + 1) k)) ∧ Below w.heap.size w w' := by
  obtain ⟨a, ka, b, kb, c, kc, rfl, -, -, -, hC, -, -⟩ := ho
  obtain ⟨oo, hoo⟩ : ∃ oo, isO L (l + 1) k = oo := ⟨_, rfl⟩
  have HO : Hid _ := hoo
  rw [hoo]
  clear hoo
  obtain ⟨W0, hW0⟩ : ∃ W0, w.alloc (.cells #[.slice a L.length ka, .slice b ns.length kb, .slice c rs.length kc, .int .i64 lv] 47) = W0 := ⟨_, rfl⟩
  have q0 : Below w.heap.size w W0 := by subst hW0; exact below_alloc _ _
  have H1 : Hid (W0.heap[w.heap.size]? = some (.cells #[.slice a L.length ka, .slice b ns.length kb, .slice c rs.length kc, .int .i64 lv] 47 (0, 0))) := by subst hW0; exact al1 _ _
  obtain ⟨⟨i0, i1, i2, i3⟩, -⟩ := box4_cells H1.out
  have hb0 : Below w0.heap.size w0 W0 := hb.trans (q0.mono hb.size)
  have HIH : Hid _ := IH
  clear IH
  unfold ov at *
  by_cases hk1 : k = -1
  · subst hk1
    have e0 : oo = true := by rw [← HO.out]; exact isO_succ.2 (.inl rfl)
    subst e0
    clear hC hok
    go_enter Try.func47, Try.ntmps47
    go_wp2
    go_ret
    exact ⟨rfl, q0⟩
  have hk1' : (k == -1) = false := by simpa using hk1
  by_cases hr : inR L.length k
  · obtain ⟨q, rfl⟩ : ∃ q : Nat, k = q := ⟨k.toNat, by have := hr.1; omega⟩
    have hq : q < L.length := by have := hr.2; omega
    have hkn : (q : Int) < (L.length : Int) := by omega
    have hkn2 : decide ((L.length : Int) ≤ (q : Int)) = false := by simp; omega
    obtain ⟨bb, off, rfl, hcc⟩ := hC.below hb0 (by omega)
    have c0 : W0.cell? ⟨bb, off + q, none⟩ = some (cwV (gc L q)) := hcc q hq
    have hokq := hok q hq
    clear hC hok hcc hr hk1
    by_cases h0 : (gc L q).ct = 0
    · have e0 : oo = false := by rw [← HO.out]; exact isO_free h0
      subst e0
      rw [cwV_free h0] at c0
      clear h0 hokq
      generalize L.length = n at *
      go_enter Try.func47, Try.ntmps47
      go_wp2
      go_ret
      exact ⟨rfl, q0⟩
    · by_cases hkd : (gc L q).kd = []
      · have e0 : Hid (oo = decide (l = 0)) := by show _ = _; rw [← HO.out]; exact isO_leaf hq h0 hkd
        rw [cwV_leaf h0 hkd] at c0
        clear h0 hokq hkd
        generalize (gc L q).lf = lf at *
        have hA := fun W => as_ll (.string lf) W
        generalize L.length = n at *
        by_cases hl0 : l = 0
        · have e1 : oo = true := by rw [e0.out, decide_eq_true hl0]
          subst e1 hl0
          rw [show ((0 : Nat) : Int) + 1 = 1 from rfl]
          clear e0 HIH hl3
          go_enter Try.func47, Try.ntmps47
          go_wp2_with fail
          refine (leafKids_any _ _).mono ?_
          rintro e w1 ⟨rfl, hw⟩
          have hw' := hw.symm
          subst hw'
          clear hw
          go_wp2_with fail
          refine wp_loop_rounds 1 ?_
          rw [rounds_succ]
          go_wp2
          go_ret
          exact ⟨rfl, q0⟩
        · have e1 : oo = false := by rw [e0.out, decide_eq_false hl0]
          have hlz : ((l : Int) + 1 == 1) = false := by simp; omega
          subst e1
          go_enter Try.func47, Try.ntmps47
          go_wp2
          go_ret
          exact ⟨rfl, q0⟩
      · have e0 : Hid (oo = (!decide (l = 0) && (gc L q).kd.all (isO L l))) := by show _ = _; rw [← HO.out]; exact isO_fork hq h0 hkd
        obtain ⟨p, r, s, t, hkk, hcv⟩ := cwV_fork h0 hkd hokq
        rw [hcv] at c0
        have hA := fun W => as_fl (fv p r s t) W
        unfold fv at *
        clear h0 hokq hkd hcv
        by_cases hl0 : l = 0
        · have e1 : oo = false := by rw [e0.out, decide_eq_true hl0]; rfl
          subst e1 hl0
          generalize L.length = n at *
          go_enter Try.func47, Try.ntmps47
          go_wp2
          go_ret
          exact ⟨rfl, q0⟩
        · have hlz : ((l : Int) + 1 == 1) = false := by simp; omega
          have hl3' : (l : Int) ≤ 2 := by omega
          have HI : Hid _ := HIH.out hl0
          have e1 : Hid (oo = [p, r, s, t].all (isO L l)) := by show _ = _; rw [e0.out, hkk, decide_eq_false hl0]; simp
          clear e0 hkk HIH hl0 hl3
          obtain ⟨W1, hW1⟩ : ∃ W1, W0.alloc (.cells #[.int .i64 p, .int .i64 r, .int .i64 s, .int .i64 t] 74) = W1 := ⟨_, rfl⟩
          have q1 : Below W0.heap.size W0 W1 := by subst hW1; exact below_alloc _ _
          have H2 : Hid (W1.heap[W0.heap.size]? = some (.cells #[.int .i64 p, .int .i64 r, .int .i64 s, .int .i64 t] 74 (0, 0))) := by subst hW1; exact al1 _ _
          have H11 : Hid (W1.heap[w.heap.size]? = _) := box_on H1.out q1
          have hb1 : Below w.heap.size w W1 := Below.comp q0 q1
          have HB0 : Hid (∀ W, Below W1.heap.size W1 W → Below w0.heap.size w0 W) := fun W h => (hb0.trans (q1.mono hb0.size)).trans (h.mono (Nat.le_trans hb0.size q1.size))
          generalize hNN : L.length = n at *
          have HNN : Hid _ := hNN
          clear hNN
          have hF := fun W => forkKids_any p r s t W
          unfold fv at hF
          go_enter Try.func47, Try.ntmps47
          go_wp2_with fail
          refine (hF _).mono ?_
          rintro e w1 ⟨rfl, hw⟩
          rw [hW1] at hw
          have hw' := hw.symm
          subst hw'
          clear hw
          go_wp2_with fail
          clear hW0 hW1 i0 i1 i2 i3 c0 hA hF
          have HX : Hid (∀ j, j < 4 → ∀ W, Below W1.heap.size W1 W → W.cell? ⟨W0.heap.size, j, none⟩ = some (.int .i64 (gi [p, r, s, t] j))) := fun j hj W h => by
            obtain ⟨⟨u0, u1, u2, u3⟩, -⟩ := box4_cells (box_on H2.out h)
            match j, hj with
            | 0, _ => exact u0
            | 1, _ => exact u1
            | 2, _ => exact u2
            | 3, _ => exact u3
          go_loopw [50] (fun s50 wr => ∃ j : Nat, j ≤ 4 ∧ s50 = .int .i64 j ∧ Hid (([p, r, s, t].take j).all (isO L l) = true) ∧ Below W1.heap.size W1 wr) (fun s50 _ => 4 - (intOf s50).toNat)
          case atStart => exact ⟨0, by omega, rfl, rfl, Below.refl _ _⟩
          case round =>
            obtain ⟨j, hj, rfl, HP, hbw⟩ := hrel
            obtain ⟨⟨y0, y1, y2, y3⟩, -⟩ := box4_cells (box_on H11.out hbw)
            by_cases hlt : j < 4
            · have u0 : wr.cell? ⟨W0.heap.size, j, none⟩ = some (.int .i64 (gi [p, r, s, t] j)) := HX.out j hlt wr hbw
              have cI := fun W h => HI.out (gi [p, r, s, t] j) W h
              have HT : Hid (([p, r, s, t].take (j + 1)).all (isO L l) = (([p, r, s, t].take j).all (isO L l) && isO L l (gi [p, r, s, t] j))) := by
                show _ = _
                rw [List.take_succ_eq_append_getElem (by simpa using hlt), List.all_append, gi_eq (by simpa using hlt)]
                simp
              have HN1 : Hid (isO L l (gi [p, r, s, t] j) = false → oo = false) := fun h => by
                rw [e1.out, Bool.eq_false_iff]
                intro e
                have := List.all_eq_true.1 e (gi [p, r, s, t] j) (by rw [gi_eq (by simpa using hlt)]; exact List.getElem_mem _)
                rw [h] at this
                cases this
              generalize gi [p, r, s, t] j = x at *
              obtain ⟨bx, hbx⟩ : ∃ bx, isO L l x = bx := ⟨_, rfl⟩
              rw [hbx] at cI HT HN1
              clear hbx
              cases bx with
              | true =>
                go_wp2_with fail
                refine (cI _ (HB0.out _ hbw)).mono ?_
                rintro e w1 ⟨rfl, b1⟩
                go_wp2_with fail
                go_roundw
                case rel => exact ⟨j + 1, by omega, by go_num, by rw [HT.out, HP.out]; rfl, Below.comp hbw b1⟩
                case measure => simp [intOf]; omega
              | false =>
                have e2 := HN1.out rfl
                subst e2
                go_wp2_with fail
                refine (cI _ (HB0.out _ hbw)).mono ?_
                rintro e w1 ⟨rfl, b1⟩
                go_wp2_with fail
                go_ret
                exact ⟨rfl, Below.comp hb1 (Below.comp hbw b1)⟩
            · have hj4 : j = 4 := by omega
              subst hj4
              have e2 : oo = true := by rw [e1.out]; exact HP.out
              subst e2
              go_wp2
              go_ret
              exact ⟨rfl, Below.comp hb1 hbw⟩
  · have e0 : oo = false := by rw [← HO.out]; exact isO_out hk1 hr
    subst e0
    clear hC hok
    by_cases hneg : k < 0
    · go_enter Try.func47, Try.ntmps47
      go_wp2
      go_ret
      exact ⟨rfl, q0⟩
    · have h5 : (L.length : Int) ≤ k := by unfold inR at hr; omega
      clear hr
      go_enter Try.func47, Try.ntmps47
      go_wp2
      go_ret
      exact ⟨rfl, q0⟩
end Go.Proofs.Ytienhdlhlddemaa
