import Derived.Test.YtdbmdblghlfjfaaV1
/- spec.l9Joined. -/
namespace Go.Proofs.Ytdbmdblghlfjfaa
open Go.ChangeShapes Go.WideShapes Go.ChangeAt Go.RowKit
set_option linter.unusedVariables false
open Mp

attribute [local go_sem] Oper.semAt_some

set_option maxRecDepth 20000 in
set_option maxHeartbeats 8000000 in
theorem l9Joined_any (a : Option Addr) (c : Nat) (l : List Pc) (w : World) (hl : l.length ≤ 1000) (hok : ∀ y, y ∈ l → pok y) (ha : Pcs w a l) :
    Calls Try.prog 54 #[.slice a l.length c] w fun e w' => Below w.heap.size w w' ∧ ∃ x cx, e = .returned (mv x (jnP l).length cx) ∧ (jnP l).length ≤ cx ∧ MineP w' w.heap.size w'.heap.size x (jnP l).length (gp (jnP l)) := by
  have HOk : Hid (∀ k, (∀ y, y ∈ jnP (l.take k) → pok y) ∧ (jnP (l.take k)).length ≤ 1000) := fun k => ⟨jnP_ok _ (fun y hy => hok y (List.mem_of_mem_take hy)), by have := len_jnP (l.take k); simp at this; omega⟩
  have HOx : Hid (∀ k, k < l.length → pok (gp l k)) := fun k hk => hok _ (gp_mem hk)
  have HJ : Hid (∀ k, k < l.length → jnP (l.take (k + 1)) = jstP (jnP (l.take k)) (gp l k)) := fun k hk => by rw [take_gp hk, jnP_snoc]
  have HE : Hid (jnP (l.take l.length) = jnP l) := by show _ = _; rw [List.take_length]
  have H0 : Hid (jnP (l.take 0) = []) := rfl
  obtain ⟨J, hJ⟩ : ∃ J : Nat → List Pc, (fun k => jnP (l.take k)) = J := ⟨_, rfl⟩
  have hJ' : ∀ k, jnP (l.take k) = J k := fun k => by rw [← hJ]
  simp only [hJ'] at HOk HJ HE H0
  clear hJ hJ' hok
  generalize jnP l = R at *
  unfold Pcs at ha
  generalize gp l = f at *
  generalize l.length = n at *
  obtain ⟨D, hD⟩ : ∃ D, w.heap.size = D := ⟨_, rfl⟩
  obtain ⟨W0, hW0⟩ : ∃ W0, w.alloc (.cells #[.slice none 0 0] 29) = W0 := ⟨_, rfl⟩
  have q0 : Below w.heap.size w W0 := by subst hW0; exact below_alloc _ _
  have HD : Hid (W0.heap[D]? = some (.cells #[.slice none 0 0] 29 (0, 0))) := by subst hW0 hD; exact al1 _ _
  obtain ⟨Z, hZ⟩ : ∃ Z, W0.heap.size = Z := ⟨_, rfl⟩
  have HDZ : Hid (D < Z ∧ w.heap.size ≤ Z) := ⟨by have := box_lt HD.out; omega, by have := q0.size; omega⟩
  go_enter Try.func54, Try.ntmps54
  go_wp2_with fail
  clear hW0
  go_loopw [9, 3] (fun i o wr => ∃ (k : Nat) (v : Value), k ≤ n ∧ i = .int .i64 k ∧ v = o ∧ Hid (OwnP wr Z v (J k)) ∧ Below Z W0 wr ∧ Z ≤ wr.heap.size) (fun i _ _ => n - (intOf i).toNat)
  case atStart => exact ⟨0, _, Nat.zero_le _, rfl, rfl, by rw [H0.out]; exact OwnP.nil _ _, Below.refl _ _, by omega⟩
  case round =>
    obtain ⟨k, v, hk, rfl, rfl, HO, hb, hz⟩ := hrel
    have hbW : Below W0.heap.size W0 wr := hZ ▸ hb
    by_cases hlt : k < n
    · obtain ⟨bb, off, rfl, hcell⟩ := (ha.below (Below.comp q0 hbW)) (by omega)
      obtain ⟨k0, k1, k2, k3⟩ := hcell k hlt
      clear hcell
      have hokx := HOx.out k hlt
      have hst := HJ.out k hlt
      have hJk := HOk.out k
      generalize f k = x at *
      obtain ⟨W1, hW1⟩ : ∃ W1, wr.alloc (.cells #[.int .i64 x.f, .int .i64 x.n, .int .i64 x.a, .bool x.z] 40) = W1 := ⟨_, rfl⟩
      obtain ⟨E, hE⟩ : ∃ E, wr.heap.size = E := ⟨_, rfl⟩
      have b1 : Below wr.heap.size wr W1 := by subst hW1; exact below_alloc _ _
      have HE1 : Hid (W1.heap[E]? = some (.cells #[.int .i64 x.f, .int .i64 x.n, .int .i64 x.a, .bool x.z] 40 (0, 0))) := by subst hW1 hE; exact al1 _ _
      obtain ⟨e0, e1, e2, e3⟩ := box4_cells HE1.out
      have own1 : OwnP W1 Z v (J k) := owns_below HO.out b1
      have z1 : Z ≤ W1.heap.size := Nat.le_trans hz b1.size
      have g1 : Below Z W0 W1 := hb.trans (b1.mono hz)
      rcases cut_lastP (J k) with e | ⟨m, y, e⟩
      · rw [e] at own1 hst
        rw [jstP_nil] at hst
        obtain ⟨xa, c2, rfl⟩ := owns_form own1
        have HST : Hid _ := hst
        have HOw1 : Hid (OwnP W1 Z (.slice xa 0 c2) []) := own1
        clear own1 hst hJk hokx e HO
        obtain ⟨p0, p1, p2, p3⟩ := x
        simp only [List.length_nil] at *
        have hneg : decide ((0 : Int) ≤ -1) = false := rfl
        go_wp2_with fail
        clear hW1 k0 k1 k2 k3 e0 e1 e2 e3
        refine wp_region_quiet_below (by kernel_rfl) (by kernel_rfl) ?_
        repeat (go_big_quiet_step (fail))
        refine wpQuiet_nil ?_
        intro _ hw'
        obtain ⟨⟨dq', osq⟩, hw''⟩ := hw'
        subst hw''
        have b9 := below_regrown W1 dq' osq
        clear hneg
        generalize Go.Sort.grow (redrawn W1 dq') osq = w9 at *
        obtain ⟨e0, e1, e2, e3⟩ := box4_cells (box_on HE1.out b9)
        have own9 : OwnP w9 Z (.slice xa 0 c2) [] := owns_below HOw1.out b9
        have own2 := owns_below own9 (below_alloc w9 (.cells #[.int .i64 p0, .int .i64 p1, .int .i64 p2, .bool p3] 40))
        have sr := srcP_one w9 ⟨p0, p1, p2, p3⟩ 40
        have z9 : Z ≤ w9.heap.size := Nat.le_trans z1 b9.size
        have z2 : Z ≤ (w9.alloc (.cells #[.int .i64 p0, .int .i64 p1, .int .i64 p2, .bool p3] 40)).heap.size := by simp; omega
        have HOw : Hid (OwnP w9 Z (.slice xa 0 c2) []) := own9
        clear own9
        go_wp2_with (at_builtin; refine wpList_append_src rfl _ _ 27 rfl Z 40 _ 4 32 Try.underlying27 info40 rfl (by decide) (.slice xa 0 c2) 0 (cpp []) rfl own2 (some ⟨w9.heap.size, 0, none⟩) 1 1 (cpp [⟨p0, p1, p2, p3⟩]) rfl rfl sr (cpp_one _) (by omega) (by decide) z2 ?_; intro v2 w2 own3 gr2'; have gr2 := grown_alloc gr2'; have b2 : Below Z w9 w2 := Grown.below gr2 z9 (owns_ge HOw.out); have z3 : Z ≤ w2.heap.size := Nat.le_trans z9 gr2.size; have HO3 : Hid (w2.ownsRow Z 40 4 v2 (0 + 1) (cpp [] ++ cpp [⟨p0, p1, p2, p3⟩])) := own3; clear gr2 gr2' own3)
        go_roundw
        case rel => exact ⟨k + 1, _, by omega, by go_num, rfl, by rw [HST.out]; exact HO3.out, (g1.trans (b9.mono z1)).trans b2, z3⟩
        case measure => simp [intOf]; omega
      · rw [e] at own1 hst hJk
        obtain ⟨g, c2, cur, rfl, hgZ, hgB, ⟨l0, l1, l2, l3⟩, -, -, -, -⟩ := OwnP.last own1
        have hoky := hJk.1 y (by simp)
        have hml : m.length ≤ 1000 := by have := hJk.2; simp at this; omega
        have cj := fun W => l9Goes_any y x W hoky
        have HO1 : Hid (OwnP W1 Z (.slice (some ⟨g, 0, none⟩) (m.length + 1) c2) (m ++ [y])) := own1
        have HST : Hid _ := hst
        clear own1 hst hJk e hgB HO
        obtain ⟨M, hM⟩ : ∃ M, m.length = M := ⟨_, rfl⟩
        rw [hM] at l0 l1 l2 l3 hml
        have hM1 : (M : Int) < ((M + 1 : Nat) : Int) := by omega
        have hM2 : (M : Int) < (M : Int) + 1 := by omega
        have hM3 : IntKind.i64.wrap (M : Int) = M := wrapI (by omega) (by omega)
        have hM4 : (0 : Int) ≤ M := by omega
        have hM5 : decide ((0 : Int) ≤ (M : Int)) = true := decide_eq_true hM4
        have HHM : Hid _ := hM
        have x0 : ∀ d os, (Go.Sort.grow (redrawn W1 d) os).cell? ⟨g, M * 4, none⟩ = some (.int .i64 y.f) := fun d os => cell_regrown l0 d os
        have x1 : ∀ d os, (Go.Sort.grow (redrawn W1 d) os).cell? ⟨g, M * 4 + 1, none⟩ = some (.int .i64 y.n) := fun d os => cell_regrown l1 d os
        have x2 : ∀ d os, (Go.Sort.grow (redrawn W1 d) os).cell? ⟨g, M * 4 + 2, none⟩ = some (.int .i64 y.a) := fun d os => cell_regrown l2 d os
        have x3 : ∀ d os, (Go.Sort.grow (redrawn W1 d) os).cell? ⟨g, M * 4 + 3, none⟩ = some (.bool y.z) := fun d os => cell_regrown l3 d os
        have u0 : ∀ d os, (Go.Sort.grow (redrawn W1 d) os).cell? ⟨E, 0, none⟩ = some (.int .i64 x.f) := fun d os => cell_regrown e0 d os
        have u1 : ∀ d os, (Go.Sort.grow (redrawn W1 d) os).cell? ⟨E, 1, none⟩ = some (.int .i64 x.n) := fun d os => cell_regrown e1 d os
        have u2 : ∀ d os, (Go.Sort.grow (redrawn W1 d) os).cell? ⟨E, 2, none⟩ = some (.int .i64 x.a) := fun d os => cell_regrown e2 d os
        have u3 : ∀ d os, (Go.Sort.grow (redrawn W1 d) os).cell? ⟨E, 3, none⟩ = some (.bool x.z) := fun d os => cell_regrown e3 d os
        have c3 := reg_of cj W1
        have ev2 : IntKind.i64.wrap (y.n + x.n) = y.n + x.n := wrapI (by unfold pok at hokx hoky; omega) (by unfold pok at hokx hoky; omega)
        clear cj hokx hoky
        rw [hM]
        cases hd : goes y x with
        | true =>
          rw [hd] at c3
          have hst2 : J (k + 1) = m ++ [⟨y.f, y.n + x.n, y.a, y.z⟩] := by rw [HST.out, jstP_yes hd]
          clear HST hd
          have HST : Hid _ := hst2
          clear hst2
          obtain ⟨y0, y1, y2, y3⟩ := y
          obtain ⟨p0, p1, p2, p3⟩ := x
          simp only at *
          go_wp2_with fail
          clear hW1 k0 k1 k2 k3 l0 l1 l2 l3 e0 e1 e2 e3
          refine wp_region_quiet_below (by kernel_rfl) (by kernel_rfl) ?_
          repeat (go_big_quiet_step (with_reducible exact c3 _ _))
          refine wpQuiet_nil ?_
          intro _ hw'
          obtain ⟨⟨dq', osq⟩, hw''⟩ := hw'
          subst hw''
          have b9 := below_regrown W1 dq' osq
          clear x0 x1 x2 x3 u0 u1 u2 u3 c3
          generalize Go.Sort.grow (redrawn W1 dq') osq = w9 at *
          have own9 : OwnP w9 Z (.slice (some ⟨g, 0, none⟩) (m.length + 1) c2) (m ++ [⟨y0, y1, y2, y3⟩]) := owns_below HO1.out b9
          obtain ⟨g', c4, cur', eq, -, hg9, ⟨l0, l1, l2, l3⟩, r0, r1, r2, r3⟩ := OwnP.last own9
          simp only [Value.slice.injEq, Option.some.injEq, Addr.mk.injEq] at eq
          obtain ⟨⟨eg, -, -⟩, -, -⟩ := eq
          rw [← eg, hM] at l0 l1 l2 l3 r0 r1 r2 r3
          have hpt := OwnP.put2 own9 (y1 + p1)
          rw [hM] at hpt
          have HPT : Hid _ := hpt
          clear hpt own9 hg9 eg
          obtain ⟨e0, e1, e2, e3⟩ := box4_cells (box_on HE1.out b9)
          go_wp2_with fail
          go_region
          go_wp2_with fail
          go_roundw
          case rel => exact ⟨k + 1, _, by omega, by go_num, rfl, by rw [HST.out]; exact owns_below HPT.out (Below.drew (Below.refl _ _)), Below.drew ((g1.trans (b9.mono z1)).setCell hgZ _), by have := Nat.le_trans z1 b9.size; simpa [World.setCell, World.drew] using this⟩
          case measure => simp [intOf]; omega
        | false =>
          rw [hd] at c3
          have hst2 : J (k + 1) = m ++ [y] ++ [x] := by rw [HST.out, jstP_no hd]
          clear HST hd
          have HST : Hid _ := hst2
          clear hst2
          obtain ⟨y0, y1, y2, y3⟩ := y
          obtain ⟨p0, p1, p2, p3⟩ := x
          simp only at *
          go_wp2_with fail
          clear hW1 k0 k1 k2 k3 l0 l1 l2 l3 e0 e1 e2 e3
          refine wp_region_quiet_below (by kernel_rfl) (by kernel_rfl) ?_
          repeat (go_big_quiet_step (with_reducible exact c3 _ _))
          refine wpQuiet_nil ?_
          intro _ hw'
          obtain ⟨⟨dq', osq⟩, hw''⟩ := hw'
          subst hw''
          have b9 := below_regrown W1 dq' osq
          clear x0 x1 x2 x3 u0 u1 u2 u3 c3
          generalize Go.Sort.grow (redrawn W1 dq') osq = w9 at *
          have own9 : OwnP w9 Z (.slice (some ⟨g, 0, none⟩) (m.length + 1) c2) (m ++ [⟨y0, y1, y2, y3⟩]) := owns_below HO1.out b9
          obtain ⟨e0, e1, e2, e3⟩ := box4_cells (box_on HE1.out b9)
          have own10 := owns_below own9 (below_alloc w9 (.cells #[.int .i64 p0, .int .i64 p1, .int .i64 p2, .bool p3] 40))
          have sr := srcP_one w9 ⟨p0, p1, p2, p3⟩ 40
          have z9 : Z ≤ w9.heap.size := Nat.le_trans z1 b9.size
          have z10 : Z ≤ (w9.alloc (.cells #[.int .i64 p0, .int .i64 p1, .int .i64 p2, .bool p3] 40)).heap.size := by simp; omega
          have el : (m ++ [(⟨y0, y1, y2, y3⟩ : Pc)]).length = M + 1 := by simp; omega
          have el2 : (m ++ [(⟨y0, y1, y2, y3⟩ : Pc)] ++ [(⟨p0, p1, p2, p3⟩ : Pc)]).length = M + 1 + 1 := by simp; omega
          have ec : cpp (m ++ [(⟨y0, y1, y2, y3⟩ : Pc)] ++ [(⟨p0, p1, p2, p3⟩ : Pc)]) = cpp (m ++ [(⟨y0, y1, y2, y3⟩ : Pc)]) ++ cpp [(⟨p0, p1, p2, p3⟩ : Pc)] := cpp_app _ _
          have HL : Hid _ := And.intro el2 ec
          unfold OwnP at own10
          rw [el, hM] at own10
          clear own9 el el2 ec
          generalize cpp (m ++ [(⟨y0, y1, y2, y3⟩ : Pc)]) = CM at *
          go_wp2_with (at_builtin; refine wpList_append_src rfl _ _ 27 rfl Z 40 _ 4 32 Try.underlying27 info40 rfl (by decide) (.slice (some ⟨g, 0, none⟩) (M + 1) c2) (M + 1) CM rfl own10 (some ⟨w9.heap.size, 0, none⟩) 1 1 (cpp [⟨p0, p1, p2, p3⟩]) rfl rfl sr (cpp_one _) (by omega) (by decide) z10 ?_; intro v2 w3 own11 gr2'; have gr2 := grown_alloc gr2'; have b3 : Below Z w9 w3 := Grown.below gr2 z9 (fun k hk => by simp [Value.ownBlock] at hk; omega); have z3 : Z ≤ w3.heap.size := Nat.le_trans z9 gr2.size; have HO3 : Hid (w3.ownsRow Z 40 4 v2 (M + 1 + 1) (CM ++ cpp [⟨p0, p1, p2, p3⟩])) := own11; clear gr2 gr2' own11)
          go_roundw
          case rel => exact ⟨k + 1, _, by omega, by go_num, rfl, by rw [HST.out]; show OwnP _ _ _ _; unfold OwnP; rw [HL.out.1, HL.out.2]; exact HO3.out, (g1.trans (b9.mono z1)).trans b3, z3⟩
          case measure => simp [intOf]; omega
    · obtain rfl : k = n := by omega
      have HO2 : OwnP wr Z v R := HE.out ▸ HO.out
      obtain ⟨x2, cc2, rfl, hc2, hm2⟩ := OwnP.form HO2
      have HM2 : Hid _ := hm2
      have HDr : Hid (wr.heap[D]? = some (.cells #[.slice none 0 0] 29 (0, 0))) := box_on HD.out hbW
      obtain ⟨r0, r1⟩ := box1_cells HDr.out
      clear HO HO2 hm2 HE HJ HOk HOx
      go_wp2_with fail
      obtain ⟨W9, hW9⟩ : ∃ W9, wr.setCell ⟨D, 0, none⟩ (.slice x2 R.length cc2) = W9 := ⟨_, rfl⟩
      have o9 : Out D (D + 1) wr W9 := by subst hW9; exact out_setCell _ _ _ _
      have RR : W9.heap[D]? = some (.cells #[.slice x2 R.length cc2] 29 (0, 0)) := by subst hW9; exact (block_set HDr.out).trans rfl
      rw [hW9]
      have t0 := (box1_cells RR).1
      have z9 := o9.size
      have h1 := HDZ.out
      exact bodyPost_ret (v := mv x2 R.length cc2) (by simp [results, Try.results54, go_sem, t0]) rfl ⟨(Below.comp q0 hbW).trans ((o9.below (by omega)).mono (by omega)), x2, cc2, rfl, hc2, Mine.mono (Mine.out HM2.out o9 (.inr (by omega))) (by omega) (by omega)⟩
end Go.Proofs.Ytdbmdblghlfjfaa
