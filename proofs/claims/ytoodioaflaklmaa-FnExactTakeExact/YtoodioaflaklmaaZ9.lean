/- Room that is taken at a place: the program. -/
import Derived.Test.YtoodioaflaklmaaZ8
namespace Go.Proofs.Ytoodioaflaklmaa
open Go.ChangeShapes Go.WideShapes Go.ChangeAt Go.RowKit
set_option linter.unusedVariables false
open Room

attribute [local go_sem] Oper.semAt_some

theorem cut_side {b : Int} {l : List Ex} {k : Nat} {x : Ex} (h : Pl b l) (hk : k < l.length) (hx : 1 ≤ x.2) (ho : (gx l k).1 ≤ x.1 ∧ fin x ≤ fin (gx l k)) :
    exch ltP l [gx l k] (pcs (gx l k) x) = l.take k ++ (pcs (gx l k) x ++ l.drop (k + 1)) ∧ exch ltS (srt l) [gx l k] (pcs (gx l k) x) = srt (l.take k ++ (pcs (gx l k) x ++ l.drop (k + 1))) ∧ (l.take k ++ (pcs (gx l k) x ++ l.drop (k + 1))).length + 1 = l.length + (pcs (gx l k) x).length ∧ (∀ x', x' ∈ pcs (gx l k) x → ∀ y, y ∈ l → y ∉ [gx l k] → x'.1 ≠ y.1) ∧ (pcs (gx l k) x).Pairwise (fun x y => x.1 ≠ y.1) := by
  have e := split_at hk
  generalize l.take k = A at *
  generalize l.drop (k + 1) = B at *
  generalize gx l k = o at *
  subst e
  obtain ⟨e1, e2, e3⟩ := cut_exch h hx ho
  refine ⟨e1, e2, e3, fun p hp y hy hyo => ?_, ?_⟩
  · have h1 := List.pairwise_append.1 h.rise
    have h2 := List.pairwise_cons.1 h1.2.1
    have q := mem_pcs ho hx hp
    simp at hyo
    rcases List.mem_append.1 hy with hy | hy
    · have q1 := h1.2.2 y hy o (by simp)
      have q2 := h.ins y (by simp [hy])
      unfold fin at *
      omega
    · have q1 := h2.1 y ((List.mem_cons.1 hy).resolve_left hyo)
      have q2 := h.ins o (by simp)
      unfold fin at *
      omega
  · have io := h.ins o (by simp)
    unfold pcs
    unfold fin at *
    split <;> split <;> simp
    omega
/-- All blocks below Z but R are as they were. -/
def Kz (Z R : Nat) (w W : World) : Prop := ∀ j, j < Z → j ≠ R → W.heap[j]? = w.heap[j]?
theorem Kz.of {Z R : Nat} {w W : World} (h : Below Z w W) : Kz Z R w W := fun j hj _ => h.block j hj
theorem Kz.store {Z R : Nat} {w W : World} {u0 u1 u2 : Value} (h : Below Z w W) (hz : Z ≤ W.heap.size) : Kz Z R w (((W.setCell ⟨R, 0, none⟩ u0).setCell ⟨R, 1, none⟩ u1).setCell ⟨R, 2, none⟩ u2) := fun j hj hr =>
  ((box3_out W R u0 u1 u2).block j (by omega) (by omega)).trans (h.block j hj)

set_option maxHeartbeats 4000000 in
set_option maxRecDepth 20000 in
theorem implTake_any (b : Int) (a : Option Addr) (ca : Nat) (a' : Option Addr) (ca' : Nat) (l s : List Ex) (x : Ex) (w : World) (hb0 : -9223372036854775808 ≤ b) (hb1 : b ≤ 9223372036854775807) (hn : l.length ≤ 1048576) (hn' : s.length ≤ 1048576) (hx : ∀ x, x ∈ l → x.1 ≤ 9223372036854775807) (hx1 : x.1 ≤ 9223372036854775807) (hca : l.length ≤ ca) (hca' : s.length ≤ ca') (ha : Exs w a l) (ha' : Exs w a' s) :
    Calls Try.prog 21 #[fv b a l.length ca a' s.length ca', xv x] w fun e w' => Below w.heap.size w w' ∧ ∃ v, e = .returned (.tuple #[v, .bool (ansO (takeR b l s x))]) ∧ FreeAt w.heap.size w' v (ansB b (takeR b l s x)) (ansL (takeR b l s x)) (srt (ansL (takeR b l s x))) := by
  obtain ⟨p, q⟩ := x
  simp only at hx1
  obtain ⟨D, hD⟩ : ∃ D, w.heap.size = D := ⟨_, rfl⟩
  obtain ⟨W0, hW0⟩ : ∃ W0, ((w.alloc (.cells #[.int .i64 b, .slice a l.length ca, .slice a' s.length ca'] 29)).alloc (.cells #[.int .i64 p, .int .i64 q] 41)).alloc (.cells #[.int .i64 0, .slice none 0 0, .slice none 0 0] 29) = W0 := ⟨_, rfl⟩
  have g0 : Below w.heap.size w W0 := by subst hW0; exact ba3 _ _ _ _
  obtain ⟨B1, B2, B3⟩ : W0.heap[D]? = some (.cells #[.int .i64 b, .slice a l.length ca, .slice a' s.length ca'] 29 (0, 0)) ∧ W0.heap[D + 1]? = some (.cells #[.int .i64 p, .int .i64 q] 41 (0, 0)) ∧ W0.heap[D + 1 + 1]? = some (.cells #[.int .i64 0, .slice none 0 0, .slice none 0 0] 29 (0, 0)) := by subst hW0 hD; exact al3 _ _ _ _
  have H1 : Hid (W0.heap[D]? = _) := B1
  have H2 : Hid (W0.heap[D + 1]? = _) := B2
  have H3 : Hid (W0.heap[D + 1 + 1]? = _) := B3
  have z0 := box_lt B3
  obtain ⟨i0, i1, i2, -, -, -⟩ := box3_cells B1
  clear B1 B2 B3
  have cg := implGood_any b a ca a' ca' l s W0 hn hn' hx (ha.below g0) (ha'.below g0)
  obtain ⟨rg, hrg⟩ : ∃ r, good b l s = r := ⟨_, rfl⟩
  rw [hrg] at cg
  cases rg with
  | false =>
    have hR : takeR b l s (p, q) = none := by simp [takeR, hrg]
    rw [hR]
    clear hR hrg
    go_enter Try.func21, Try.ntmps21
    go_wp2_with fail
    refine cg.mono ?_
    rintro e w1 ⟨rfl, b1⟩
    clear cg hW0 i0 i1 i2
    obtain ⟨r0, r1, r2, q0, q1, q2⟩ := box3_cells (box_on H3.out b1)
    go_wp2
    obtain ⟨W9, hW9⟩ : ∃ W9, ((w1.setCell ⟨D + 1 + 1, 0, none⟩ (.int .i64 0)).setCell ⟨D + 1 + 1, 1, none⟩ (.slice none 0 0)).setCell ⟨D + 1 + 1, 2, none⟩ (.slice none 0 0) = W9 := ⟨_, rfl⟩
    have o9 : Out (D + 1 + 1) (D + 1 + 1 + 1) w1 W9 := by subst hW9; exact box3_out _ _ _ _ _
    have R9 : W9.heap[D + 1 + 1]? = some (.cells #[.int .i64 0, .slice none 0 0, .slice none 0 0] 29 (0, 0)) := by subst hW9; exact box3_set (box_on H3.out b1)
    rw [hW9]
    clear hW9 r0 r1 r2 q0 q1 q2
    obtain ⟨t0, t1, t2, -, -, -⟩ := box3_cells R9
    have z9 := (b1).size
    have z9' := o9.size
    refine bodyPost_ret (v := .tuple #[fv 0 none 0 0 none 0 0, .bool false]) (by simp [results, Try.results21, go_sem, t0, t1, t2]) rfl ?_
    have gW : Below w.heap.size w W9 := (Below.comp g0 (b1)).trans ((o9.below (by omega)).mono (by omega))
    exact ⟨by first | exact gW | exact (hD ▸ gW), _, rfl, FreeAt.nil (by first | exact gW.size | exact (hD ▸ gW.size))⟩
  | true =>
    have hg := good_iff.1 hrg
    obtain ⟨⟨hbb0, hbb1⟩, hl60, hPl, hss⟩ := hg
    have c52 := fun W => isWithin_any (p, q) b W hbb0 hbb1 hx1
    cases hin : inB b (p, q) with
    | false =>
      have hR : takeR b l s (p, q) = none := by simp [takeR, hrg, hin]
      rw [hR]
      rw [hin] at c52
      clear hR hrg hin hPl hss
      go_enter Try.func21, Try.ntmps21
      go_wp2_with fail
      refine cg.mono ?_
      rintro e w1 ⟨rfl, b1⟩
      clear cg hW0 i0 i1 i2
      obtain ⟨i0, i1, i2, -, -, -⟩ := box3_cells (box_on H1.out b1)
      obtain ⟨j0, j1, -, -⟩ := box2_cells (box_on H2.out b1)
      go_wp2_with fail
      refine (c52 _).mono ?_
      rintro e w2 ⟨rfl, b2⟩
      clear c52 i0 i1 i2 j0 j1
      have b12 := Below.comp b1 b2
      obtain ⟨r0, r1, r2, q0, q1, q2⟩ := box3_cells (box_on H3.out b12)
      go_wp2
      obtain ⟨W9, hW9⟩ : ∃ W9, ((w2.setCell ⟨D + 1 + 1, 0, none⟩ (.int .i64 0)).setCell ⟨D + 1 + 1, 1, none⟩ (.slice none 0 0)).setCell ⟨D + 1 + 1, 2, none⟩ (.slice none 0 0) = W9 := ⟨_, rfl⟩
      have o9 : Out (D + 1 + 1) (D + 1 + 1 + 1) w2 W9 := by subst hW9; exact box3_out _ _ _ _ _
      have R9 : W9.heap[D + 1 + 1]? = some (.cells #[.int .i64 0, .slice none 0 0, .slice none 0 0] 29 (0, 0)) := by subst hW9; exact box3_set (box_on H3.out b12)
      rw [hW9]
      clear hW9 r0 r1 r2 q0 q1 q2
      obtain ⟨t0, t1, t2, -, -, -⟩ := box3_cells R9
      have z9 := (b12).size
      have z9' := o9.size
      refine bodyPost_ret (v := .tuple #[fv 0 none 0 0 none 0 0, .bool false]) (by simp [results, Try.results21, go_sem, t0, t1, t2]) rfl ?_
      have gW : Below w.heap.size w W9 := (Below.comp g0 (b12)).trans ((o9.below (by omega)).mono (by omega))
      exact ⟨by first | exact gW | exact (hD ▸ gW), _, rfl, FreeAt.nil (by first | exact gW.size | exact (hD ▸ gW.size))⟩
    | true =>
      have hR : takeR b l s (p, q) = few (cutL (p, q) l) := by simp [takeR, hrg, hin]
      rw [hR]
      rw [hin] at c52
      have hin' := inB_iff.1 hin
      simp only at hin'
      have hfx : fin (p, q) = p + q := rfl
      have hxb : -9223372036854775808 ≤ fin (p, q) ∧ fin (p, q) ≤ 9223372036854775807 := by rw [hfx]; omega
      obtain ⟨R, hRR⟩ : ∃ R, few (cutL (p, q) l) = R := ⟨_, rfl⟩
      rw [hRR]
      have HRR : Hid _ := hRR
      clear hRR hR hrg hin
      have HPl : Hid _ := hPl
      have Hss : Hid _ := hss
      have hfl : Hid (∀ i, i < l.length → -9223372036854775808 ≤ fin (gx l i) ∧ fin (gx l i) ≤ 9223372036854775807) := fun i hi => by
        have := hPl.ins (gx l i) (by rw [gx_eq hi]; exact List.getElem_mem hi)
        unfold fin at *
        omega
      clear hPl hss
      go_enter Try.func21, Try.ntmps21
      go_wp2_with fail
      refine cg.mono ?_
      rintro e w1 ⟨rfl, b1⟩
      clear cg hW0 i0 i1 i2
      obtain ⟨i0, i1, i2, -, -, -⟩ := box3_cells (box_on H1.out b1)
      obtain ⟨j0, j1, -, -⟩ := box2_cells (box_on H2.out b1)
      go_wp2_with fail
      refine (c52 _).mono ?_
      rintro e w2 ⟨rfl, b2⟩
      clear c52 i0 i1 i2 j0 j1
      have b12 := Below.comp b1 b2
      obtain ⟨i0, i1, i2, -, -, -⟩ := box3_cells (box_on H1.out b12)
      have g2 := Below.comp g0 b12
      have cF := first55 w2.heap.size (D + 1) a l.length ca (gx l) (wiP (p, q)) (w2.alloc (.cells #[.slice a l.length ca] 27)) hn (sx_of (ha.below g2)) (fun i hi W hW => cl55_any (p, q) (D + 1) (gx l i) W (box_on H2.out (Below.comp b12 (Below.comp (below_alloc _ _) hW))) (hfl.out i hi) hxb)
      have Ha : Hid (Exs w a l ∧ Exs w a' s) := ⟨ha, ha'⟩
      clear ha ha' hx
      go_wp2_with fail
      refine (All_any a l.length ca _).mono ?_
      rintro e wA ⟨rfl, rfl⟩
      clear i0 i1 i2
      go_wp2_with fail
      refine cF.mono ?_
      rintro e w3 ⟨b3', y, r, rfl, hF⟩
      clear cF
      have b3 : Below w2.heap.size w2 w3 := Below.comp (below_alloc _ _) b3'
      have b13 := Below.comp b12 b3
      clear b3'
      obtain ⟨u, v⟩ := y
      obtain ⟨E, hE⟩ : ∃ E, w3.heap.size = E := ⟨_, rfl⟩
      obtain ⟨W4, hW4⟩ : ∃ W4, w3.alloc (.cells #[.int .i64 u, .int .i64 v] 41) = W4 := ⟨_, rfl⟩
      have b4 : Below w3.heap.size w3 W4 := by subst hW4; exact below_alloc _ _
      have HE : Hid (W4.heap[E]? = some (.cells #[.int .i64 u, .int .i64 v] 41 (0, 0))) := by subst hW4 hE; exact al1 _ _
      have b14 := Below.comp b13 b4
      rcases hF with ⟨rfl, k, hk, hyk, hp, hj⟩ | ⟨rfl, hy0, hno⟩
      case inr =>
        have hRn : R = none := by rw [← HRR.out, cut_none hno]; rfl
        subst hRn
        clear hno hy0
        obtain ⟨r0, r1, r2, q0, q1, q2⟩ := box3_cells (box_on H3.out b14)
        go_wp2
        obtain ⟨W9, hW9⟩ : ∃ W9, ((W4.setCell ⟨D + 1 + 1, 0, none⟩ (.int .i64 0)).setCell ⟨D + 1 + 1, 1, none⟩ (.slice none 0 0)).setCell ⟨D + 1 + 1, 2, none⟩ (.slice none 0 0) = W9 := ⟨_, rfl⟩
        have o9 : Out (D + 1 + 1) (D + 1 + 1 + 1) W4 W9 := by subst hW9; exact box3_out _ _ _ _ _
        have R9 : W9.heap[D + 1 + 1]? = some (.cells #[.int .i64 0, .slice none 0 0, .slice none 0 0] 29 (0, 0)) := by subst hW9; exact box3_set (box_on H3.out b14)
        rw [hW9]
        clear hW9 r0 r1 r2 q0 q1 q2
        obtain ⟨t0, t1, t2, -, -, -⟩ := box3_cells R9
        have z9 := (b14).size
        have z9' := o9.size
        refine bodyPost_ret (v := .tuple #[fv 0 none 0 0 none 0 0, .bool false]) (by simp [results, Try.results21, go_sem, t0, t1, t2]) rfl ?_
        have gW : Below w.heap.size w W9 := (Below.comp g0 (b14)).trans ((o9.below (by omega)).mono (by omega))
        exact ⟨by first | exact gW | exact (hD ▸ gW), _, rfl, FreeAt.nil (by first | exact gW.size | exact (hD ▸ gW.size))⟩
      have hcs := cut_some hk hp hj
      rw [wiP_hold, hold_iff, ← hyk] at hp
      have hyi := HPl.out.ins (u, v) (by rw [hyk, gx_eq hk]; exact List.getElem_mem hk)
      have hyl : (u, v) ∈ l := by rw [hyk, gx_eq hk]; exact List.getElem_mem hk
      obtain ⟨hX1, hX2, hX3, hX4, hX5⟩ := cut_side (x := (p, q)) HPl.out hk (by simp only; omega) (by rw [← hyk]; exact hp)
      rw [← hyk] at hcs hX1 hX2 hX3 hX4 hX5
      have hfy : fin (u, v) = u + v := rfl
      rw [hfx, hfy] at hp
      rw [hfy] at hyi
      simp only at hp hyi
      generalize l.take k ++ (pcs (u, v) (p, q) ++ l.drop (k + 1)) = m at *
      have hR' : few (some m) = R := by rw [← hcs]; exact HRR.out
      clear hcs hyk hj HRR
      have g4 := Below.comp g0 b14
      obtain ⟨Z, hZ⟩ : ∃ Z, W4.heap.size = Z := ⟨_, rfl⟩
      have zD := box_lt (box_on H3.out b14)
      have zE := box_lt HE.out
      have K1 : Hid (W4.heap[D]? = _) := box_on H1.out b14
      have K2 : Hid (W4.heap[D + 1]? = _) := box_on H2.out b14
      have K3 : Hid (W4.heap[D + 1 + 1]? = _) := box_on H3.out b14
      have hEne : E ≠ D ∧ E ≠ D + 1 ∧ E ≠ D + 1 + 1 := by have := box_lt (box_on H3.out b13); omega
      have c57a := addBetween_any (.slice none 0 0) [] u p W4 W4.heap.size (OwnR.nil _ _) (Nat.le_refl _) (by simp) (by omega) (by omega)
      obtain ⟨i0, i1, -, -⟩ := box2_cells K2.out
      obtain ⟨j0, j1, -, -⟩ := box2_cells HE.out
      go_wp2_with fail
      refine c57a.mono ?_
      rintro e w5 ⟨xL, cL, rfl, oL0, gr0⟩
      rw [List.nil_append] at oL0 ⊢
      clear c57a i0 i1 j0 j1 hW4
      have b5 : Below Z W4 w5 := hZ ▸ Grown.below gr0 (Nat.le_refl _) (fun k hk => by simp [Value.ownBlock] at hk)
      clear gr0
      have b5' : Below W4.heap.size W4 w5 := hZ ▸ b5
      have z5 : Z ≤ w5.heap.size := hZ ▸ b5'.size
      have g5 : Below w.heap.size w w5 := Below.comp g4 b5'
      have dz : w.heap.size ≤ Z := by have := g4.size; omega
      rw [hZ] at oL0
      have hLt := owns_lt oL0
      have N1 : Hid (w5.heap[D]? = _) := box_on K1.out b5'
      have N2 : Hid (w5.heap[D + 1]? = _) := box_on K2.out b5'
      have HRes : Hid (w5.heap[D + 1 + 1]? = some (.cells #[.int .i64 0, .slice none 0 0, .slice none 0 0] 29 (0, 0))) := box_on K3.out b5'
      have N4 : Hid (w5.heap[E]? = _) := box_on HE.out b5'
      have SB9 : Hid (∀ W, Kz Z (D + 1 + 1) w5 W → W.cell? ⟨D, 0, none⟩ = some (.int .i64 b) ∧ W.cell? ⟨D, 1, none⟩ = some (.slice a l.length ca) ∧ W.cell? ⟨D, 2, none⟩ = some (.slice a' s.length ca') ∧ W.cell? ⟨D + 1, 0, none⟩ = some (.int .i64 p) ∧ W.cell? ⟨D + 1, 1, none⟩ = some (.int .i64 q) ∧ W.cell? ⟨E, 0, none⟩ = some (.int .i64 u) ∧ W.cell? ⟨E, 1, none⟩ = some (.int .i64 v) ∧ Kz Z (D + 1 + 1) w5 W) := fun W z => by
        obtain ⟨h0, h1, h2, -⟩ := box3_cells ((z D (by omega) (by omega)).trans N1.out)
        obtain ⟨h3, h4, -, -⟩ := box2_cells ((z (D + 1) (by omega) (by omega)).trans N2.out)
        obtain ⟨h5, h6, -, -⟩ := box2_cells ((z E (by omega) (by omega)).trans N4.out)
        exact ⟨h0, h1, h2, h3, h4, h5, h6, z⟩
      have oL : OwnR w5.drew Z (.slice xL (btw u p).length cL) (btw u p) := owns_below oL0 (Below.drew (Below.refl _ _))
      have bZ : Below Z w5 w5.drew := Below.drew (Below.refl _ _)
      have cX := fun W => endOf_any (p, q) W hxb.1 hxb.2
      have cY := fun W => endOf_any (u, v) W (by rw [hfy]; omega) (by rw [hfy]; omega)
      rw [hfx] at cX
      rw [hfy] at cY
      have c57 := fun W h h' => addBetween_any (.slice xL (btw u p).length cL) (btw u p) (p + q) (u + v) W Z h h' (by unfold btw; split <;> simp) (by omega) (by omega)
      rw [btw_pcs u v p q (by omega) (by omega)] at c57
      have hp2 := len_pcs (u, v) (p, q)
      have tokX : Hid True := trivial
      have tokY : Hid True := trivial
      have tokF : Hid True := trivial
      clear oL0 hin'
      by_cases hm : m.length ≤ 60
      · have hRs : R = some m := by rw [← hR']; exact if_pos hm
        subst hRs
        show _
        have cC : ∀ ga gca ma mca W, Exs W a l → Exs W a' s → Exs W ga [(u, v)] → Exs W ma (pcs (u, v) (p, q)) → Calls Try.prog 53 #[fv b a l.length ca a' s.length ca', .slice ga 1 gca, .slice ma (pcs (u, v) (p, q)).length mca] W fun e w' => Below W.heap.size W w' ∧ ∃ v, e = .returned (.tuple #[v, .bool true]) ∧ FreeAt W.heap.size w' v b m (srt m) := fun ga gca ma mca W h1 h2 h3 h4 => by
          have := exch_yes b a ca a' ca' l ga gca [(u, v)] ma mca (pcs (u, v) (p, q)) W hl60 (by simp) (by omega) hca (by rw [← len_srt (l := l), Hss.out]; exact hca') (by simp; omega) HPl.out (fun z hz => by simp at hz; subst hz; exact hyl) (by simp) hX4 hX5 (by simp; omega) h1 (by rw [Hss.out]; exact h2) h3 h4
          rw [hX1, hX2, Hss.out] at this
          exact this
        clear hX1 hX2 hX3 hX4 hX5 hR'
        go_wp2
        go_region_held3 (fun W => W.cell? ⟨D, 0, none⟩ = some (.int .i64 b) ∧ W.cell? ⟨D, 1, none⟩ = some (.slice a l.length ca) ∧ W.cell? ⟨D, 2, none⟩ = some (.slice a' s.length ca') ∧ W.cell? ⟨D + 1, 0, none⟩ = some (.int .i64 p) ∧ W.cell? ⟨D + 1, 1, none⟩ = some (.int .i64 q) ∧ W.cell? ⟨E, 0, none⟩ = some (.int .i64 u) ∧ W.cell? ⟨E, 1, none⟩ = some (.int .i64 v) ∧ Kz Z (D + 1 + 1) w5 W)
          ((refine SB9.out _ ?_; first | assumption | exact Kz.of bZ | exact Kz.of (bZ.alloc (Nat.le_trans z5 bZ.size) _) | exact Kz.store bZ (Nat.le_trans z5 bZ.size)))
          (first
          | (go_at_call 39; have tk := tokX; clear tokX tk; refine (cX _).mono ?_; rintro e wx ⟨rfl, bx⟩; (first | (have oL := owns_below oL bx; have bZ := bZ.trans (bx.mono (Nat.le_trans z5 bZ.size)); (first | (have hG := And.intro (box_on hG.1 bx) hG.2) | skip)) | ((first | (have hG := And.intro (box_on (al1 _ _) bx) bZ.size) | (have hG := And.intro (box_on (w := (w5.alloc (.cells #[.int .i64 u, .int .i64 v] 41)).drew) (al1 w5 (.cells #[.int .i64 u, .int .i64 v] 41)) bx) (Nat.le_refl w5.heap.size))); have oL := owns_below (owns_below oL (below_alloc _ _)) bx; have bZ := (bZ.alloc (Nat.le_trans z5 bZ.size) _).trans (bx.mono (Nat.le_trans (Nat.le_trans z5 bZ.size) (below_alloc _ _).size)))); clear bx)
          | (go_at_call 39; have tk := tokY; clear tokY tk; refine (cY _).mono ?_; rintro e wy ⟨rfl, bx⟩; (first | (have oL := owns_below oL bx; have bZ := bZ.trans (bx.mono (Nat.le_trans z5 bZ.size)); (first | (have hG := And.intro (box_on hG.1 bx) hG.2) | skip)) | ((first | (have hG := And.intro (box_on (al1 _ _) bx) bZ.size) | (have hG := And.intro (box_on (w := (w5.alloc (.cells #[.int .i64 u, .int .i64 v] 41)).drew) (al1 w5 (.cells #[.int .i64 u, .int .i64 v] 41)) bx) (Nat.le_refl w5.heap.size))); have oL := owns_below (owns_below oL (below_alloc _ _)) bx; have bZ := (bZ.alloc (Nat.le_trans z5 bZ.size) _).trans (bx.mono (Nat.le_trans (Nat.le_trans z5 bZ.size) (below_alloc _ _).size)))); clear bx)
          | (go_at_call 52; have tk := tokF; clear tokF tk; refine (c57 _ (by first | exact oL | exact owns_below oL (below_alloc _ _)) (by first | exact Nat.le_trans z5 bZ.size | exact Nat.le_trans (Nat.le_trans z5 bZ.size) (below_alloc _ _).size)).mono ?_; rintro e wz ⟨xz, cz, rfl, oF, gr⟩; (first | (have bY := bZ.trans (Grown.below gr (Nat.le_trans z5 bZ.size) (owns_ge oL)); (first | (have hG := And.intro ((gr.block _ (box_lt hG.1) (fun e => absurd (hLt _ e.symm) (Nat.not_lt.2 hG.2))).trans hG.1) hG.2) | skip)) | (have hG := And.intro ((gr.block _ (box_lt (al1 _ _)) (fun e => absurd (hLt _ e.symm) (Nat.not_lt.2 bZ.size))).trans (al1 _ _)) bZ.size; have bY := (bZ.alloc (Nat.le_trans z5 bZ.size) _).trans (Grown.below gr (Nat.le_trans (Nat.le_trans z5 bZ.size) (below_alloc _ _).size) (owns_ge oL)))); have bZ := bY; have HoF : Hid _ := oF; have HrM : Hid (Exs wz xz (pcs (u, v) (p, q))) := MineX.row oF.own.1; clear bY gr oF)
          | (go_at_call 53; refine (cC _ _ _ _ _ (by first | exact Ha.out.1.below (g5.trans (bZ.mono dz)) | exact Ha.out.1.below (Below.comp (g5.trans (bZ.mono dz)) (below_alloc _ _))) (by first | exact Ha.out.2.below (g5.trans (bZ.mono dz)) | exact Ha.out.2.below (Below.comp (g5.trans (bZ.mono dz)) (below_alloc _ _))) (by first | exact row_one hG.1 | exact row_one (al1 _ _)) (by first | exact HrM.out | exact HrM.out.below (below_alloc _ _))).mono ?_; rintro e wq ⟨b6, v6, rfl, y6, cy6, z6, cz6, M6, rfl, hM1, hM2, m6, m6'⟩; have F6 : Hid (FreeAt Z wq (fv b y6 m.length cy6 z6 (srt m).length cz6) b m (srt m)) := FreeAt.mono ⟨y6, cy6, z6, cz6, M6, rfl, hM1, hM2, m6, m6'⟩ (by first | exact Nat.le_trans z5 bZ.size | exact Nat.le_trans (Nat.le_trans z5 bZ.size) (below_alloc _ _).size); clear hM1 hM2 m6 m6'; have b56 : Below Z w5 wq := (by first | exact bZ.trans (b6.mono (Nat.le_trans z5 bZ.size)) | exact (bZ.alloc (Nat.le_trans z5 bZ.size) _).trans (b6.mono (Nat.le_trans (Nat.le_trans z5 bZ.size) (below_alloc _ _).size))); have B6 : Hid (wq.heap[D + 1 + 1]? = some (.cells #[.int .i64 0, .slice none 0 0, .slice none 0 0] 29 (0, 0))) := (b56.block _ (by omega)).trans HRes.out; have bZ := b56; obtain ⟨r0, r1, r2, q0, q1, q2⟩ := box3_cells B6.out))
        all_goals go_wp2
        all_goals
          obtain ⟨W6, hW6⟩ : ∃ W6, ((wq.setCell ⟨D + 1 + 1, 0, none⟩ (.int .i64 b)).setCell ⟨D + 1 + 1, 1, none⟩ (.slice y6 m.length cy6)).setCell ⟨D + 1 + 1, 2, none⟩ (.slice z6 (srt m).length cz6) = W6 := ⟨_, rfl⟩
          have o6 : Out (D + 1 + 1) (D + 1 + 1 + 1) wq W6 := by subst hW6; exact box3_out _ _ _ _ _
          have R6 : W6.heap[D + 1 + 1]? = some (.cells #[.int .i64 b, .slice y6 m.length cy6, .slice z6 (srt m).length cz6] 29 (0, 0)) := by subst hW6; exact box3_set B6.out
          rw [hW6]
          clear hW6 r0 r1 r2 q0 q1 q2
          obtain ⟨t0, t1, t2, -, -, -⟩ := box3_cells R6
          have zb := bZ.size
          have zg := g5.size
          have gW : Below w.heap.size w W6 := (g5.trans (bZ.mono dz)).trans ((o6.below (by omega)).mono (by omega))
          refine bodyPost_ret (v := .tuple #[fv b y6 m.length cy6 z6 (srt m).length cz6, .bool true]) (by simp [results, Try.results21, go_sem, t0, t1, t2]) rfl ?_
          exact ⟨by first | exact gW | exact (hD ▸ gW), _, rfl, ((F6.out.out o6 (by omega)).mono (by first | omega | (have := hD; omega)))⟩
      · have hRs : R = none := by rw [← hR']; exact if_neg hm
        subst hRs
        have cC := fun ga gca ma mca W => exch_no b a l.length ca a' s.length ca' ga 1 gca ma (pcs (u, v) (p, q)).length mca W hl60 (by omega) (by omega) (by omega)
        clear hX1 hX2 hX3 hX4 hX5 hR'
        go_wp2
        go_region_held3 (fun W => W.cell? ⟨D, 0, none⟩ = some (.int .i64 b) ∧ W.cell? ⟨D, 1, none⟩ = some (.slice a l.length ca) ∧ W.cell? ⟨D, 2, none⟩ = some (.slice a' s.length ca') ∧ W.cell? ⟨D + 1, 0, none⟩ = some (.int .i64 p) ∧ W.cell? ⟨D + 1, 1, none⟩ = some (.int .i64 q) ∧ W.cell? ⟨E, 0, none⟩ = some (.int .i64 u) ∧ W.cell? ⟨E, 1, none⟩ = some (.int .i64 v) ∧ Kz Z (D + 1 + 1) w5 W)
          ((refine SB9.out _ ?_; first | assumption | exact Kz.of bZ | exact Kz.of (bZ.alloc (Nat.le_trans z5 bZ.size) _) | exact Kz.store bZ (Nat.le_trans z5 bZ.size)))
          (first
          | (go_at_call 39; have tk := tokX; clear tokX tk; refine (cX _).mono ?_; rintro e wx ⟨rfl, bx⟩; (first | (have oL := owns_below oL bx; have bZ := bZ.trans (bx.mono (Nat.le_trans z5 bZ.size)); (first | (have hG := And.intro (box_on hG.1 bx) hG.2) | skip)) | ((first | (have hG := And.intro (box_on (al1 _ _) bx) bZ.size) | (have hG := And.intro (box_on (w := (w5.alloc (.cells #[.int .i64 u, .int .i64 v] 41)).drew) (al1 w5 (.cells #[.int .i64 u, .int .i64 v] 41)) bx) (Nat.le_refl w5.heap.size))); have oL := owns_below (owns_below oL (below_alloc _ _)) bx; have bZ := (bZ.alloc (Nat.le_trans z5 bZ.size) _).trans (bx.mono (Nat.le_trans (Nat.le_trans z5 bZ.size) (below_alloc _ _).size)))); clear bx)
          | (go_at_call 39; have tk := tokY; clear tokY tk; refine (cY _).mono ?_; rintro e wy ⟨rfl, bx⟩; (first | (have oL := owns_below oL bx; have bZ := bZ.trans (bx.mono (Nat.le_trans z5 bZ.size)); (first | (have hG := And.intro (box_on hG.1 bx) hG.2) | skip)) | ((first | (have hG := And.intro (box_on (al1 _ _) bx) bZ.size) | (have hG := And.intro (box_on (w := (w5.alloc (.cells #[.int .i64 u, .int .i64 v] 41)).drew) (al1 w5 (.cells #[.int .i64 u, .int .i64 v] 41)) bx) (Nat.le_refl w5.heap.size))); have oL := owns_below (owns_below oL (below_alloc _ _)) bx; have bZ := (bZ.alloc (Nat.le_trans z5 bZ.size) _).trans (bx.mono (Nat.le_trans (Nat.le_trans z5 bZ.size) (below_alloc _ _).size)))); clear bx)
          | (go_at_call 52; have tk := tokF; clear tokF tk; refine (c57 _ (by first | exact oL | exact owns_below oL (below_alloc _ _)) (by first | exact Nat.le_trans z5 bZ.size | exact Nat.le_trans (Nat.le_trans z5 bZ.size) (below_alloc _ _).size)).mono ?_; rintro e wz ⟨xz, cz, rfl, oF, gr⟩; (first | (have bY := bZ.trans (Grown.below gr (Nat.le_trans z5 bZ.size) (owns_ge oL)); (first | (have hG := And.intro ((gr.block _ (box_lt hG.1) (fun e => absurd (hLt _ e.symm) (Nat.not_lt.2 hG.2))).trans hG.1) hG.2) | skip)) | (have hG := And.intro ((gr.block _ (box_lt (al1 _ _)) (fun e => absurd (hLt _ e.symm) (Nat.not_lt.2 bZ.size))).trans (al1 _ _)) bZ.size; have bY := (bZ.alloc (Nat.le_trans z5 bZ.size) _).trans (Grown.below gr (Nat.le_trans (Nat.le_trans z5 bZ.size) (below_alloc _ _).size) (owns_ge oL)))); have bZ := bY; have HoF : Hid _ := oF; have HrM : Hid (Exs wz xz (pcs (u, v) (p, q))) := MineX.row oF.own.1; clear bY gr oF)
          | (go_at_call 53; refine (cC _ _ _ _ _).mono ?_; rintro e wq ⟨b6, rfl⟩; have b56 : Below Z w5 wq := (by first | exact bZ.trans (b6.mono (Nat.le_trans z5 bZ.size)) | exact (bZ.alloc (Nat.le_trans z5 bZ.size) _).trans (b6.mono (Nat.le_trans (Nat.le_trans z5 bZ.size) (below_alloc _ _).size))); have B6 : Hid (wq.heap[D + 1 + 1]? = some (.cells #[.int .i64 0, .slice none 0 0, .slice none 0 0] 29 (0, 0))) := (b56.block _ (by omega)).trans HRes.out; have bZ := b56; obtain ⟨r0, r1, r2, q0, q1, q2⟩ := box3_cells B6.out))
        all_goals go_wp2
        all_goals
          obtain ⟨W6, hW6⟩ : ∃ W6, ((wq.setCell ⟨D + 1 + 1, 0, none⟩ (.int .i64 0)).setCell ⟨D + 1 + 1, 1, none⟩ (.slice none 0 0)).setCell ⟨D + 1 + 1, 2, none⟩ (.slice none 0 0) = W6 := ⟨_, rfl⟩
          have o6 : Out (D + 1 + 1) (D + 1 + 1 + 1) wq W6 := by subst hW6; exact box3_out _ _ _ _ _
          have R6 : W6.heap[D + 1 + 1]? = some (.cells #[.int .i64 0, .slice none 0 0, .slice none 0 0] 29 (0, 0)) := by subst hW6; exact box3_set B6.out
          rw [hW6]
          clear hW6 r0 r1 r2 q0 q1 q2
          obtain ⟨t0, t1, t2, -, -, -⟩ := box3_cells R6
          have zb := bZ.size
          have zg := g5.size
          have gW : Below w.heap.size w W6 := (g5.trans (bZ.mono dz)).trans ((o6.below (by omega)).mono (by omega))
          refine bodyPost_ret (v := .tuple #[fv 0 none 0 0 none 0 0, .bool false]) (by simp [results, Try.results21, go_sem, t0, t1, t2]) rfl ?_
          exact ⟨by first | exact gW | exact (hD ▸ gW), _, rfl, (FreeAt.nil (by first | exact gW.size | exact (hD ▸ gW.size)))⟩
end Go.Proofs.Ytoodioaflaklmaa
