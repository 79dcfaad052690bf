import Derived.Test.YtcfjkejaenmibaaDoorG3
/- spec.GoodRing. -/
namespace Go.Proofs.YtcfjkejaenmibaaDoor
open Go.ChangeShapes Go.WideShapes Go.ChangeAt Go.RowKit
set_option linter.unusedVariables false
open Lg

attribute [local go_sem] Oper.semAt_some

theorem l1In_reg (x lo hi : Int) (W : World) : ∀ d os, Calls Tryd.prog 41 #[.int .i64 x, .int .i64 lo, .int .i64 hi] (Go.Sort.grow (redrawn W d) os) fun e w'' => e = .returned (.bool (decide (lo ≤ x) && decide (x ≤ hi))) ∧ ∃ p : Regrown, w'' = Go.Sort.grow (redrawn W p.d) p.os := fun d os =>
  Calls.regrown_of ((l1In_any x lo hi _).mono fun e w' q => ⟨q.1, by rw [q.2]; exact Below.refl _ _⟩)
set_option maxRecDepth 20000 in
set_option maxHeartbeats 8000000 in
theorem specGood_any (a : Option Addr) (c : Nat) (l : List Sl) (h cy t : Int) (w : World) (hn : l.length ≤ 1048576) (hf : ∀ i, i < l.length → Few (gs l i)) (hh : i64 h) (hcy : i64 cy) (ht : i64 t) (ha : Sls w a l) :
    Calls Tryd.prog 17 #[rv a l.length c h cy t] w fun e w' => e = .returned (.bool (gdB l h cy t)) ∧ Below w.heap.size w w' := by
  have HN : Hid (¬ (2 ≤ l.length ∧ l.length ≤ 24 ∧ 0 ≤ h ∧ h ≤ 10000000 ∧ 0 ≤ t ∧ t ≤ h ∧ h - t ≤ l.length ∧ cy = h / l.length + 1) → false = gdB l h cy t) := fun q => (gd_no (bd_no q)).symm
  have HY : Hid (2 ≤ l.length ∧ l.length ≤ 24 ∧ 0 ≤ h ∧ h ≤ 10000000 ∧ 0 ≤ t ∧ t ≤ h ∧ h - t ≤ l.length ∧ cy = h / l.length + 1 → bdB l.length h cy t = true) := fun q => bd_is.2 q
  have HR0 : Hid (∀ i, i ≤ l.length → rnn l h t i = none → false = gdB l h cy t) := fun i h1 h2 => (gd_none h2 h1).symm
  have HR1 : Hid (bdB l.length h cy t = true → ∀ last, rnn l h t l.length = some last → true = gdB l h cy t) := fun hb last h2 => (gd_yes hb h2).symm
  obtain ⟨G, hG⟩ : ∃ G, gdB l h cy t = G := ⟨_, rfl⟩
  rw [hG] at HN HR0 HR1 ⊢
  clear hG
  unfold i64 at hh hcy ht
  have HS : Hid (Sls w a l) := ha
  clear ha
  have Hst : Hid (∀ i last, rnn l h t i = some last → rnn l h t (i + 1) = stp l t (h - l.length + i) last) := fun i last q => rnn_step q
  have H00 : Hid (rnn l h t 0 = some 0) := rfl
  obtain ⟨n, hnl⟩ : ∃ n, l.length = n := ⟨_, rfl⟩
  have Hnl : Hid _ := hnl
  rw [hnl] at hn HN HY HR0 HR1 Hst ⊢
  clear hnl
  obtain ⟨D, hD⟩ : ∃ D, w.heap.size = D := ⟨_, rfl⟩
  obtain ⟨W0, hW0⟩ : ∃ W0, w.alloc (.cells #[.slice a n c, .int .i64 h, .int .i64 cy, .int .i64 t] 24) = W0 := ⟨_, rfl⟩
  have q0 : Below w.heap.size w W0 := by subst hW0; exact below_alloc _ _
  have HA : Hid (W0.heap[D]? = some (.cells #[.slice a n c, .int .i64 h, .int .i64 cy, .int .i64 t] 24 (0, 0))) := by subst hW0 hD; exact al1 _ _
  obtain ⟨x0, x1, x2, x3⟩ := box4_cells HA.out
  have y0 : ∀ d' os, (Go.Sort.grow (redrawn W0 d') os).cell? ⟨D, 0, none⟩ = some (.slice a n c) := cell_regrown x0
  have y1 : ∀ d' os, (Go.Sort.grow (redrawn W0 d') os).cell? ⟨D, 1, none⟩ = some (.int .i64 h) := cell_regrown x1
  have y2 : ∀ d' os, (Go.Sort.grow (redrawn W0 d') os).cell? ⟨D, 2, none⟩ = some (.int .i64 cy) := cell_regrown x2
  have y3 : ∀ d' os, (Go.Sort.grow (redrawn W0 d') os).cell? ⟨D, 3, none⟩ = some (.int .i64 t) := cell_regrown x3
  have k1 := l1In_reg (n : Int) 2 24 W0
  have k2 := l1In_reg h 0 10000000 W0
  have k3 := l1In_reg t 0 h W0
  obtain ⟨u1, hu1⟩ : ∃ u, (decide ((2 : Int) ≤ (n : Int)) && decide ((n : Int) ≤ 24)) = u := ⟨_, rfl⟩
  obtain ⟨u2, hu2⟩ : ∃ u, (decide (0 ≤ h) && decide (h ≤ 10000000)) = u := ⟨_, rfl⟩
  obtain ⟨u3, hu3⟩ : ∃ u, (decide (0 ≤ t) && decide (t ≤ h)) = u := ⟨_, rfl⟩
  rw [hu1] at k1
  rw [hu2] at k2
  rw [hu3] at k3
  have p1 : u1 = true ↔ (2 ≤ n ∧ n ≤ 24) := by rw [← hu1]; simp; omega
  have p2 : u2 = true ↔ (0 ≤ h ∧ h ≤ 10000000) := by rw [← hu2]; simp
  have p3 : u3 = true ↔ (0 ≤ t ∧ t ≤ h) := by rw [← hu3]; simp
  clear hu1 hu2 hu3
  cases u1 with
  | false =>
    have p1' : ¬ (2 ≤ n ∧ n ≤ 24) := fun q => by have := p1.2 q; cases this
    clear p1 p2 p3
    obtain rfl := HN.out (by omega)
    clear p1' hh hcy ht hn
    go_enter Tryd.func17, Tryd.ntmps17
    go_wp2
    clear hW0
    refine wp_region_quiet_below (by kernel_rfl) (by kernel_rfl) ?_
    repeat (go_big_quiet_step (first | with_reducible exact k1 _ _ | with_reducible exact k2 _ _ | with_reducible exact k3 _ _))
    refine wpQuiet_nil ?_
    intro _ hw'
    obtain ⟨⟨dq, osq⟩, hw''⟩ := hw'
    subst hw''
    have b8 := Below.comp q0 (below_regrown W0 dq osq)
    generalize Go.Sort.grow (redrawn W0 dq) osq = w8 at *
    go_wp2
    go_ret
    exact ⟨rfl, by first | exact b8 | exact (hD ▸ b8)⟩
  | true =>
    replace p1 := p1.1 rfl
    cases u2 with
    | false =>
      have p2' : ¬ (0 ≤ h ∧ h ≤ 10000000) := fun q => by have := p2.2 q; cases this
      clear p2 p3
      obtain rfl := HN.out (by omega)
      clear p1 p2' hh hcy ht hn
      go_enter Tryd.func17, Tryd.ntmps17
      go_wp2
      clear hW0
      refine wp_region_quiet_below (by kernel_rfl) (by kernel_rfl) ?_
      repeat (go_big_quiet_step (first | with_reducible exact k1 _ _ | with_reducible exact k2 _ _ | with_reducible exact k3 _ _))
      refine wpQuiet_nil ?_
      intro _ hw'
      obtain ⟨⟨dq, osq⟩, hw''⟩ := hw'
      subst hw''
      have b8 := Below.comp q0 (below_regrown W0 dq osq)
      generalize Go.Sort.grow (redrawn W0 dq) osq = w8 at *
      go_wp2
      go_ret
      exact ⟨rfl, by first | exact b8 | exact (hD ▸ b8)⟩
    | true =>
      replace p2 := p2.1 rfl
      cases u3 with
      | false =>
        have p3' : ¬ (0 ≤ t ∧ t ≤ h) := fun q => by have := p3.2 q; cases this
        clear p3
        obtain rfl := HN.out (by omega)
        clear p1 p2 p3' hh hcy ht hn
        go_enter Tryd.func17, Tryd.ntmps17
        go_wp2
        clear hW0
        refine wp_region_quiet_below (by kernel_rfl) (by kernel_rfl) ?_
        repeat (go_big_quiet_step (first | with_reducible exact k1 _ _ | with_reducible exact k2 _ _ | with_reducible exact k3 _ _))
        refine wpQuiet_nil ?_
        intro _ hw'
        obtain ⟨⟨dq, osq⟩, hw''⟩ := hw'
        subst hw''
        have b8 := Below.comp q0 (below_regrown W0 dq osq)
        generalize Go.Sort.grow (redrawn W0 dq) osq = w8 at *
        go_wp2
        go_ret
        exact ⟨rfl, by first | exact b8 | exact (hD ▸ b8)⟩
      | true =>
        replace p3 := p3.1 rfl
        obtain ⟨v, hv⟩ : ∃ v, h - t = v := ⟨_, rfl⟩
        have hw : IntKind.i64.wrap (h - t) = v := by rw [← hv]; exact wrapI (by omega) (by omega)
        rw [hv] at HN HY
        have Hv : Hid _ := hv
        clear hv
        by_cases hg : (n : Int) < v
        · have hg' : decide ((n : Int) < v) = true := decide_eq_true hg
          obtain rfl := HN.out (by omega)
          clear p1 p2 p3 hg hh hcy ht hn
          go_enter Tryd.func17, Tryd.ntmps17
          go_wp2
          clear hW0
          refine wp_region_quiet_below (by kernel_rfl) (by kernel_rfl) ?_
          repeat (go_big_quiet_step (first | with_reducible exact k1 _ _ | with_reducible exact k2 _ _ | with_reducible exact k3 _ _))
          refine wpQuiet_nil ?_
          intro _ hw'
          obtain ⟨⟨dq, osq⟩, hw''⟩ := hw'
          subst hw''
          have b8 := Below.comp q0 (below_regrown W0 dq osq)
          generalize Go.Sort.grow (redrawn W0 dq) osq = w8 at *
          go_wp2
          go_ret
          exact ⟨rfl, by first | exact b8 | exact (hD ▸ b8)⟩
        · have hg' : decide ((n : Int) < v) = false := decide_eq_false hg
          obtain ⟨q, hq⟩ : ∃ q, h / (n : Int) = q := ⟨_, rfl⟩
          have hqb : 0 ≤ q ∧ q ≤ h := by
            rw [← hq]
            exact ⟨Int.ediv_nonneg p2.1 (by omega), Int.ediv_le_self _ p2.1⟩
          rw [hq] at HN HY
          have hq1 : Int.tdiv h (n : Int) = q := by rw [← hq]; exact Int.tdiv_eq_ediv_of_nonneg p2.1
          have hq2 : IntKind.i64.wrap q = q := wrapI (by omega) (by omega)
          have hq3 : IntKind.i64.wrap (q + 1) = q + 1 := wrapI (by omega) (by omega)
          have hn0 : ¬ ((n : Int) = 0) := by omega
          have hn0' : ((n : Int) == 0) = false := by simp; omega
          clear hq
          by_cases hc : cy = q + 1
          · have hc' : (cy != q + 1) = false := by simp [hc]
            have hc2 : decide (cy = q + 1) = true := decide_eq_true hc
            have HB : Hid (bdB n h cy t = true) := HY.out (by have := Hv.out; omega)
            have HL : Hid (∀ i, i < n → Few (gs l i)) := fun i hi => hf i (by have := Hnl.out; omega)
            have hp : Hid ((2 ≤ n ∧ n ≤ 24) ∧ (0 ≤ h ∧ h ≤ 10000000) ∧ (0 ≤ t ∧ t ≤ h)) := ⟨p1, p2, p3⟩
            clear p1 p2 p3 hg hh hcy ht hn hc hqb HN HY hf
            go_enter Tryd.func17, Tryd.ntmps17
            go_wp2
            clear hW0
            refine wp_region_quiet_below (by kernel_rfl) (by kernel_rfl) ?_
            repeat (go_big_quiet_step (first | with_reducible exact k1 _ _ | with_reducible exact k2 _ _ | with_reducible exact k3 _ _))
            refine wpQuiet_nil ?_
            intro _ hw'
            obtain ⟨⟨dq, osq⟩, hw''⟩ := hw'
            subst hw''
            have b8 := Below.comp q0 (below_regrown W0 dq osq)
            have HA8 : Hid _ := box_on HA.out (below_regrown W0 dq osq)
            generalize Go.Sort.grow (redrawn W0 dq) osq = w8 at *
            clear k1 k2 k3 y0 y1 y2 y3 x0 x1 x2 x3 hw hg' hq1 hq2 hq3 hn0 hn0' hc' hc2 HA
            obtain ⟨x0, x1, x2, x3⟩ := box4_cells HA8.out
            obtain ⟨kz, hkz⟩ : ∃ kz, h - (n : Int) = kz := ⟨_, rfl⟩
            have hwk : IntKind.i64.wrap (h - (n : Int)) = kz := by have := hp.out; rw [← hkz]; exact wrapI (by omega) (by omega)
            have Hkz : Hid _ := hkz
            rw [hkz] at Hst
            clear hkz
            have HB8 : Hid (Below w.heap.size w w8) := b8
            have HSl : Hid (Sls w8 a l) := RowS.below HS.out b8
            clear b8
            go_wp2
            go_loopw [4, 5] (fun la k wr => ∃ (i : Nat) (L : Int), i ≤ n ∧ k = .int .i64 (kz + i) ∧ la = .int .i64 L ∧ Hid (rnn l h t i = some L) ∧ Below w8.heap.size w8 wr) (fun _ k _ => (h - intOf k).toNat)
            case atStart => exact ⟨0, 0, Nat.zero_le _, by simp, rfl, H00, Below.refl _ _⟩
            case round =>
              obtain ⟨i, L, hi, rfl, rfl, hR, hb⟩ := hrel
              obtain ⟨x0, x1, x2, x3⟩ := box4_cells (box_on HA8.out hb)
              obtain ⟨k, hk⟩ : ∃ k, kz + (i : Int) = k := ⟨_, rfl⟩
              rw [hk]
              have Hk : Hid (kz + (i : Int) = k) := hk
              clear hk
              by_cases hlt : i < n
              · have hkh : k < h := by have := Hk.out; have := Hkz.out; omega
                have hstp := Hst.out i L hR.out
                rw [Hk.out] at hstp
                have hjn : idx n k < n := idx_lt (by have := hp.out; omega) (by have := Hk.out; have := Hkz.out; have := hp.out; omega)
                obtain ⟨bb, off, rfl, hcell⟩ := (RowS.below HSl.out hb) (by have := hp.out; have := Hnl.out; omega)
                obtain ⟨c0, c1, c2, c3⟩ := hcell (idx n k) (by have := Hnl.out; omega)
                have hfx := HL.out _ hjn
                unfold stp at hstp
                rw [Hnl.out] at hstp
                have Hidx : Hid (idx n k = if k < 0 then (k + n).toNat else (k % n).toNat) := rfl
                obtain ⟨j, hj⟩ : ∃ j, idx n k = j := ⟨_, rfl⟩
                rw [hj] at hstp hjn c0 c1 c2 c3 hfx Hidx
                obtain ⟨x, hx⟩ : ∃ x, gs l j = x := ⟨_, rfl⟩
                rw [hx] at hstp c0 c1 c2 c3 hfx
                have hj0 : (0 : Int) ≤ (j : Int) := by omega
                have hj1 : (j : Int) < (n : Int) := by omega
                have hk1 : IntKind.i64.wrap (k + 1) = k + 1 := wrapI (by have := Hk.out; have := Hkz.out; have := hp.out; omega) (by have := Hk.out; have := Hkz.out; have := hp.out; omega)
                clear hcell hj hx
                obtain ⟨u, hu⟩ : ∃ u, sameB x blank = u := ⟨_, rfl⟩
                rw [hu] at hstp
                by_cases hneg : k < 0
                · rw [if_pos hneg] at hstp
                  have hwi : IntKind.i64.wrap (k + (n : Int)) = (j : Int) := by
                    have e := Hidx.out
                    rw [if_pos hneg] at e
                    have := Hk.out; have := Hkz.out; have := hp.out
                    rw [wrapI (by omega) (by omega)]; omega
                  have hne := neqS x blank
                  rw [hu] at hne
                  have hgu := fun o1 o2 xs ys W => guardS .neq o1 o2 xs ys W
                  have cZ := fun W => l10Zero_any W
                  obtain ⟨bl, hbl⟩ : ∃ bl, blank = bl := ⟨_, rfl⟩
                  rw [hbl] at cZ hne
                  clear hbl
                  obtain ⟨xc, xt, xd, xs⟩ := x
                  obtain ⟨bc, bt, bd, bs⟩ := bl
                  simp only at c0 c1 c2 c3 cZ hne
                  have y0 : ∀ d' os, (Go.Sort.grow (redrawn wr d') os).cell? ⟨D, 0, none⟩ = some (.slice (some ⟨bb, off, none⟩) n c) := cell_regrown x0
                  have z0 : ∀ d' os, (Go.Sort.grow (redrawn wr d') os).cell? ⟨bb, off + j * 4, none⟩ = some (.int .i64 xc) := cell_regrown c0
                  have z1 : ∀ d' os, (Go.Sort.grow (redrawn wr d') os).cell? ⟨bb, off + j * 4 + 1, none⟩ = some (.int .i64 xt) := cell_regrown c1
                  have z2 : ∀ d' os, (Go.Sort.grow (redrawn wr d') os).cell? ⟨bb, off + j * 4 + 2, none⟩ = some (.string xd) := cell_regrown c2
                  have z3 : ∀ d' os, (Go.Sort.grow (redrawn wr d') os).cell? ⟨bb, off + j * 4 + 3, none⟩ = some (.int .i64 xs) := cell_regrown c3
                  have k42 : ∀ d' os, Calls Tryd.prog 42 #[] (Go.Sort.grow (redrawn wr d') os) fun e w'' => e = .returned (.agg #[.int .i64 bc, .int .i64 bt, .string bd, .int .i64 bs]) ∧ ∃ p : Regrown, w'' = Go.Sort.grow (redrawn wr p.d) p.os := fun d' os => Calls.regrown_of (cZ _)
                  clear c0 c1 c2 c3 hfx cZ
                  have Hstp : Hid _ := hstp
                  clear hstp
                  cases u with
                  | false =>
                    go_wp2
                    refine wp_region_quiet_below (by kernel_rfl) (by kernel_rfl) ?_
                    repeat (go_big_quiet_step (with_reducible exact k42 _ _))
                    refine wpQuiet_nil ?_
                    intro _ hw'
                    obtain ⟨⟨dq, osq⟩, hw''⟩ := hw'
                    subst hw''
                    have b9 := Below.comp hb (below_regrown wr dq osq)
                    generalize Go.Sort.grow (redrawn wr dq) osq = w9 at *
                    have hs := Hstp.out
                    simp only [Bool.false_eq_true, if_false] at hs
                    obtain rfl := HR0.out (i + 1) (by omega) hs
                    clear hs
                    go_wp2
                    go_ret
                    have gE := Below.comp HB8.out b9
                    exact ⟨rfl, by first | exact gE | exact (hD ▸ gE)⟩
                  | true =>
                    go_wp2
                    refine wp_region_quiet_below (by kernel_rfl) (by kernel_rfl) ?_
                    repeat (go_big_quiet_step (with_reducible exact k42 _ _))
                    refine wpQuiet_nil ?_
                    intro _ hw'
                    obtain ⟨⟨dq, osq⟩, hw''⟩ := hw'
                    subst hw''
                    have b9 := Below.comp hb (below_regrown wr dq osq)
                    generalize Go.Sort.grow (redrawn wr dq) osq = w9 at *
                    have hs := Hstp.out
                    simp only [if_true] at hs
                    have Hs : Hid _ := hs
                    clear hs
                    go_wp2
                    go_roundw
                    case rel => exact ⟨i + 1, L, by omega, by have := Hk.out; rw [← this]; congr 1; omega, rfl, Hs, b9⟩
                    case measure => have := Hk.out; simp [intOf]; omega
                · rw [if_neg hneg] at hstp
                  have hwi : Int.tmod k (n : Int) = (j : Int) := by
                    have e := Hidx.out
                    rw [if_neg hneg] at e
                    have h1 := Int.emod_nonneg k (b := (n : Int)) (by omega)
                    rw [Int.tmod_eq_emod_of_nonneg (by omega)]
                    omega
                  have hwi2 : IntKind.i64.wrap (j : Int) = (j : Int) := wrapI (by omega) (by have := hp.out; omega)
                  have hn0 : ¬ ((n : Int) = 0) := by omega
                  have hn0' : ((n : Int) == 0) = false := by simp; omega
                  have cW := fun W => l10Whole_any x W hfx
                  have heq := eqlS x blank
                  rw [hu] at heq
                  have hgu := fun o1 o2 xs ys W => guardS .eql o1 o2 xs ys W
                  have cZ := fun W => l10Zero_any W
                  obtain ⟨bl, hbl⟩ : ∃ bl, blank = bl := ⟨_, rfl⟩
                  rw [hbl] at cZ heq
                  clear hbl
                  obtain ⟨wh, hwh⟩ : ∃ wh, whB x = wh := ⟨_, rfl⟩
                  rw [hwh] at hstp cW
                  clear hwh hu
                  obtain ⟨xc, xt, xd, xs⟩ := x
                  obtain ⟨bc, bt, bd, bs⟩ := bl
                  simp only at c0 c1 c2 c3 cZ heq cW hstp
                  have Hstp : Hid _ := hstp
                  clear hstp
                  have qz := below_alloc wr (.cells #[.int .i64 0, .int .i64 0, .string ⟨#[]⟩, .int .i64 0] 41)
                  have x0a : (wr.alloc (.cells #[.int .i64 0, .int .i64 0, .string ⟨#[]⟩, .int .i64 0] 41)).cell? ⟨D, 0, none⟩ = some (.slice (some ⟨bb, off, none⟩) n c) := cell_on x0 qz
                  have c0a : (wr.alloc (.cells #[.int .i64 0, .int .i64 0, .string ⟨#[]⟩, .int .i64 0] 41)).cell? ⟨bb, off + j * 4, none⟩ = some (.int .i64 xc) := cell_on c0 qz
                  have c1a : (wr.alloc (.cells #[.int .i64 0, .int .i64 0, .string ⟨#[]⟩, .int .i64 0] 41)).cell? ⟨bb, off + j * 4 + 1, none⟩ = some (.int .i64 xt) := cell_on c1 qz
                  have c2a : (wr.alloc (.cells #[.int .i64 0, .int .i64 0, .string ⟨#[]⟩, .int .i64 0] 41)).cell? ⟨bb, off + j * 4 + 2, none⟩ = some (.string xd) := cell_on c2 qz
                  have c3a : (wr.alloc (.cells #[.int .i64 0, .int .i64 0, .string ⟨#[]⟩, .int .i64 0] 41)).cell? ⟨bb, off + j * 4 + 3, none⟩ = some (.int .i64 xs) := cell_on c3 qz
                  go_wp2
                  go_region
                  obtain ⟨E, hE⟩ : ∃ E, wr.heap.size = E := ⟨_, rfl⟩
                  obtain ⟨W9, hW9⟩ : ∃ W9, (wr.alloc (.cells #[.int .i64 xc, .int .i64 xt, .string xd, .int .i64 xs] 41)).drew = W9 := ⟨_, rfl⟩
                  have qW : Below wr.heap.size wr W9 := by subst hW9; exact Below.drew (below_alloc _ _)
                  have HE9 : Hid (W9.heap[E]? = some (.cells #[.int .i64 xc, .int .i64 xt, .string xd, .int .i64 xs] 41 (0, 0))) := by subst hW9 hE; exact al1 wr _
                  have HD9 : Hid _ := box_on (box_on HA8.out hb) qW
                  have b9 := Below.comp hb qW
                  rw [hW9]
                  simp only [hE]
                  clear hW9 hE x0a c0a c1a c2a c3a c0 c1 c2 c3 x0 x1 x2 x3 qz hwi hwi2
                  obtain ⟨q2, hq2⟩ : ∃ q, k / (n : Int) = q := ⟨_, rfl⟩
                  have hqb : 0 ≤ q2 ∧ q2 ≤ k := by
                    rw [← hq2]
                    exact ⟨Int.ediv_nonneg (by omega) (by omega), Int.ediv_le_self _ (by omega)⟩
                  have hq21 : Int.tdiv k (n : Int) = q2 := by rw [← hq2]; exact Int.tdiv_eq_ediv_of_nonneg (by omega)
                  have hq22 : IntKind.i64.wrap q2 = q2 := wrapI (by omega) (by have := hp.out; omega)
                  have hq23 : IntKind.i64.wrap (q2 + 1) = q2 + 1 := wrapI (by omega) (by have := hp.out; omega)
                  rw [hq2] at Hstp
                  have Hqb : Hid _ := hqb
                  clear hq2 hqb
                  obtain ⟨d0, d1, d2, d3⟩ := box4_cells HD9.out
                  obtain ⟨e0, e1, e2, e3⟩ := box4_cells HE9.out
                  have y3 : ∀ d' os, (Go.Sort.grow (redrawn W9 d') os).cell? ⟨D, 3, none⟩ = some (.int .i64 t) := cell_regrown d3
                  have z0 : ∀ d' os, (Go.Sort.grow (redrawn W9 d') os).cell? ⟨E, 0, none⟩ = some (.int .i64 xc) := cell_regrown e0
                  have z1 : ∀ d' os, (Go.Sort.grow (redrawn W9 d') os).cell? ⟨E, 1, none⟩ = some (.int .i64 xt) := cell_regrown e1
                  have z2 : ∀ d' os, (Go.Sort.grow (redrawn W9 d') os).cell? ⟨E, 2, none⟩ = some (.string xd) := cell_regrown e2
                  have z3 : ∀ d' os, (Go.Sort.grow (redrawn W9 d') os).cell? ⟨E, 3, none⟩ = some (.int .i64 xs) := cell_regrown e3
                  have k42 : ∀ d' os, Calls Tryd.prog 42 #[] (Go.Sort.grow (redrawn W9 d') os) fun e w'' => e = .returned (.agg #[.int .i64 bc, .int .i64 bt, .string bd, .int .i64 bs]) ∧ ∃ p : Regrown, w'' = Go.Sort.grow (redrawn W9 p.d) p.os := fun d' os => Calls.regrown_of (cZ _)
                  clear cZ d0 d1 d2 d3 e0 e1 e2 e3
                  by_cases hkt : k < t
                  · have hkt' : decide (k < t) = true := decide_eq_true hkt
                    cases u with
                    | true =>
                      have Hs : Hid (rnn l h t (i + 1) = some L) := by have q := Hstp.out; rw [if_pos ⟨hkt, rfl⟩] at q; exact q
                      clear Hstp hkt cW
                      go_wp2
                      refine wp_region_quiet_below (by kernel_rfl) (by kernel_rfl) ?_
                      repeat (go_big_quiet_step (with_reducible exact k42 _ _))
                      refine wpQuiet_nil ?_
                      intro _ hw'
                      obtain ⟨⟨dq, osq⟩, hw''⟩ := hw'
                      subst hw''
                      have bq := below_regrown W9 dq osq
                      have b10 := Below.comp b9 bq
                      generalize Go.Sort.grow (redrawn W9 dq) osq = w10 at *
                      go_wp2
                      go_roundw
                      case rel => exact ⟨i + 1, L, by omega, by have := Hk.out; rw [← this]; congr 1; omega, rfl, Hs, b10⟩
                      case measure => have := Hk.out; simp [intOf]; omega
                    | false =>
                      have Hs0 : Hid (rnn l h t (i + 1) = if wh = true ∧ xc = q2 + 1 then (if xt < L ∨ k < xt ∨ t < xt then none else some xt) else none) := by have q := Hstp.out; rw [if_neg (by simp)] at q; exact q
                      clear Hstp hkt
                      go_wp2
                      refine wp_region_quiet_below (by kernel_rfl) (by kernel_rfl) ?_
                      repeat (go_big_quiet_step (with_reducible exact k42 _ _))
                      refine wpQuiet_nil ?_
                      intro _ hw'
                      obtain ⟨⟨dq, osq⟩, hw''⟩ := hw'
                      subst hw''
                      have bq := below_regrown W9 dq osq
                      have b9' := Below.comp b9 bq
                      have HE9' : Hid _ := box_on HE9.out bq
                      have HD9' : Hid _ := box_on HD9.out bq
                      generalize Go.Sort.grow (redrawn W9 dq) osq = w9 at *
                      clear y3 z0 z1 z2 z3 k42 hkt' heq HE9 HD9
                      go_wp2
                      obtain ⟨e0, e1, e2, e3⟩ := box4_cells HE9'.out
                      obtain ⟨d0, d1, d2, d3⟩ := box4_cells HD9'.out
                      have z0 : ∀ d' os, (Go.Sort.grow (redrawn w9 d') os).cell? ⟨E, 0, none⟩ = some (.int .i64 xc) := cell_regrown e0
                      have z1 : ∀ d' os, (Go.Sort.grow (redrawn w9 d') os).cell? ⟨E, 1, none⟩ = some (.int .i64 xt) := cell_regrown e1
                      have z2 : ∀ d' os, (Go.Sort.grow (redrawn w9 d') os).cell? ⟨E, 2, none⟩ = some (.string xd) := cell_regrown e2
                      have z3 : ∀ d' os, (Go.Sort.grow (redrawn w9 d') os).cell? ⟨E, 3, none⟩ = some (.int .i64 xs) := cell_regrown e3
                      have k48 : ∀ d' os, Calls Tryd.prog 48 #[.agg #[.int .i64 xc, .int .i64 xt, .string xd, .int .i64 xs]] (Go.Sort.grow (redrawn w9 d') os) fun e w'' => e = .returned (.bool wh) ∧ ∃ p : Regrown, w'' = Go.Sort.grow (redrawn w9 p.d) p.os := fun d' os => Calls.regrown_of (cW _)
                      clear cW e0 e1 e2 e3 d0 d1 d2 d3
                      cases wh with
                      | false =>
                        have Hs : Hid (rnn l h t (i + 1) = none) := by have q := Hs0.out; rw [if_neg (by simp)] at q; exact q
                        clear Hs0
                        go_wp2
                        refine wp_region_quiet_below (by kernel_rfl) (by kernel_rfl) ?_
                        repeat (go_big_quiet_step (with_reducible exact k48 _ _))
                        refine wpQuiet_nil ?_
                        intro _ hw'
                        obtain ⟨⟨dq, osq⟩, hw''⟩ := hw'
                        subst hw''
                        have bq := below_regrown w9 dq osq
                        have b10 := Below.comp b9' bq
                        generalize Go.Sort.grow (redrawn w9 dq) osq = w10 at *
                        obtain rfl := HR0.out (i + 1) (by omega) Hs.out
                        clear Hs
                        go_wp2
                        go_ret
                        have gE := Below.comp HB8.out b10
                        exact ⟨rfl, by first | exact gE | exact (hD ▸ gE)⟩
                      | true =>
                        by_cases hce : xc = q2 + 1
                        · have hce1 : (xc != q2 + 1) = false := by simp [hce]
                          have hce2 : decide (xc = q2 + 1) = true := decide_eq_true hce
                          have Hs1 : Hid (rnn l h t (i + 1) = if xt < L ∨ k < xt ∨ t < xt then none else some xt) := by have q := Hs0.out; rw [if_pos ⟨rfl, hce⟩] at q; exact q
                          clear Hs0 hce
                          go_wp2
                          refine wp_region_quiet_below (by kernel_rfl) (by kernel_rfl) ?_
                          repeat (go_big_quiet_step (with_reducible exact k48 _ _))
                          refine wpQuiet_nil ?_
                          intro _ hw'
                          obtain ⟨⟨dq, osq⟩, hw''⟩ := hw'
                          subst hw''
                          have bq := below_regrown w9 dq osq
                          have b10 := Below.comp b9' bq
                          have HE10 : Hid _ := box_on HE9'.out bq
                          have HD10 : Hid _ := box_on HD9'.out bq
                          generalize Go.Sort.grow (redrawn w9 dq) osq = w10 at *
                          obtain ⟨e0, e1, e2, e3⟩ := box4_cells HE10.out
                          obtain ⟨d0, d1, d2, d3⟩ := box4_cells HD10.out
                          clear z0 z1 z2 z3 k48 hce1 hce2
                          by_cases h1 : xt < L
                          · have Hs : Hid (rnn l h t (i + 1) = none) := by have q := Hs1.out; rw [if_pos (.inl h1)] at q; exact q
                            clear Hs1
                            obtain rfl := HR0.out (i + 1) (by omega) Hs.out
                            clear Hs
                            go_wp2
                            go_ret
                            have gE := Below.comp HB8.out b10
                            exact ⟨rfl, by first | exact gE | exact (hD ▸ gE)⟩
                          · by_cases h2 : k < xt
                            · have Hs : Hid (rnn l h t (i + 1) = none) := by have q := Hs1.out; rw [if_pos (.inr (.inl h2))] at q; exact q
                              clear Hs1
                              obtain rfl := HR0.out (i + 1) (by omega) Hs.out
                              clear Hs
                              go_wp2
                              go_ret
                              have gE := Below.comp HB8.out b10
                              exact ⟨rfl, by first | exact gE | exact (hD ▸ gE)⟩
                            · by_cases h3 : t < xt
                              · have Hs : Hid (rnn l h t (i + 1) = none) := by have q := Hs1.out; rw [if_pos (.inr (.inr h3))] at q; exact q
                                clear Hs1
                                obtain rfl := HR0.out (i + 1) (by omega) Hs.out
                                clear Hs
                                go_wp2
                                go_ret
                                have gE := Below.comp HB8.out b10
                                exact ⟨rfl, by first | exact gE | exact (hD ▸ gE)⟩
                              · have Hs : Hid (rnn l h t (i + 1) = some xt) := by have q := Hs1.out; rw [if_neg (by omega)] at q; exact q
                                clear Hs1
                                go_wp2
                                go_roundw
                                case rel => exact ⟨i + 1, xt, by omega, by have := Hk.out; rw [← this]; congr 1; omega, rfl, Hs, b10⟩
                                case measure => have := Hk.out; simp [intOf]; omega
                        · have hce1 : (xc != q2 + 1) = true := by simp [hce]
                          have hce2 : decide (xc = q2 + 1) = false := decide_eq_false hce
                          have Hs : Hid (rnn l h t (i + 1) = none) := by have q := Hs0.out; rw [if_neg (fun q => hce q.2)] at q; exact q
                          clear Hs0 hce
                          go_wp2
                          refine wp_region_quiet_below (by kernel_rfl) (by kernel_rfl) ?_
                          repeat (go_big_quiet_step (with_reducible exact k48 _ _))
                          refine wpQuiet_nil ?_
                          intro _ hw'
                          obtain ⟨⟨dq, osq⟩, hw''⟩ := hw'
                          subst hw''
                          have bq := below_regrown w9 dq osq
                          have b10 := Below.comp b9' bq
                          generalize Go.Sort.grow (redrawn w9 dq) osq = w10 at *
                          obtain rfl := HR0.out (i + 1) (by omega) Hs.out
                          clear Hs
                          go_wp2
                          go_ret
                          have gE := Below.comp HB8.out b10
                          exact ⟨rfl, by first | exact gE | exact (hD ▸ gE)⟩
                  · have hkt' : decide (k < t) = false := decide_eq_false hkt
                    have Hs0 : Hid (rnn l h t (i + 1) = if wh = true ∧ xc = q2 + 1 then (if xt < L ∨ k < xt ∨ t < xt then none else some xt) else none) := by have q := Hstp.out; rw [if_neg (fun q => hkt q.1)] at q; exact q
                    clear Hstp hkt
                    go_wp2
                    refine wp_region_quiet_below (by kernel_rfl) (by kernel_rfl) ?_
                    repeat (go_big_quiet_step (with_reducible exact k42 _ _))
                    refine wpQuiet_nil ?_
                    intro _ hw'
                    obtain ⟨⟨dq, osq⟩, hw''⟩ := hw'
                    subst hw''
                    have bq := below_regrown W9 dq osq
                    have b9' := Below.comp b9 bq
                    have HE9' : Hid _ := box_on HE9.out bq
                    have HD9' : Hid _ := box_on HD9.out bq
                    generalize Go.Sort.grow (redrawn W9 dq) osq = w9 at *
                    clear y3 z0 z1 z2 z3 k42 hkt' heq HE9 HD9
                    go_wp2
                    obtain ⟨e0, e1, e2, e3⟩ := box4_cells HE9'.out
                    obtain ⟨d0, d1, d2, d3⟩ := box4_cells HD9'.out
                    have z0 : ∀ d' os, (Go.Sort.grow (redrawn w9 d') os).cell? ⟨E, 0, none⟩ = some (.int .i64 xc) := cell_regrown e0
                    have z1 : ∀ d' os, (Go.Sort.grow (redrawn w9 d') os).cell? ⟨E, 1, none⟩ = some (.int .i64 xt) := cell_regrown e1
                    have z2 : ∀ d' os, (Go.Sort.grow (redrawn w9 d') os).cell? ⟨E, 2, none⟩ = some (.string xd) := cell_regrown e2
                    have z3 : ∀ d' os, (Go.Sort.grow (redrawn w9 d') os).cell? ⟨E, 3, none⟩ = some (.int .i64 xs) := cell_regrown e3
                    have k48 : ∀ d' os, Calls Tryd.prog 48 #[.agg #[.int .i64 xc, .int .i64 xt, .string xd, .int .i64 xs]] (Go.Sort.grow (redrawn w9 d') os) fun e w'' => e = .returned (.bool wh) ∧ ∃ p : Regrown, w'' = Go.Sort.grow (redrawn w9 p.d) p.os := fun d' os => Calls.regrown_of (cW _)
                    clear cW e0 e1 e2 e3 d0 d1 d2 d3
                    cases wh with
                    | false =>
                      have Hs : Hid (rnn l h t (i + 1) = none) := by have q := Hs0.out; rw [if_neg (by simp)] at q; exact q
                      clear Hs0
                      go_wp2
                      refine wp_region_quiet_below (by kernel_rfl) (by kernel_rfl) ?_
                      repeat (go_big_quiet_step (with_reducible exact k48 _ _))
                      refine wpQuiet_nil ?_
                      intro _ hw'
                      obtain ⟨⟨dq, osq⟩, hw''⟩ := hw'
                      subst hw''
                      have bq := below_regrown w9 dq osq
                      have b10 := Below.comp b9' bq
                      generalize Go.Sort.grow (redrawn w9 dq) osq = w10 at *
                      obtain rfl := HR0.out (i + 1) (by omega) Hs.out
                      clear Hs
                      go_wp2
                      go_ret
                      have gE := Below.comp HB8.out b10
                      exact ⟨rfl, by first | exact gE | exact (hD ▸ gE)⟩
                    | true =>
                      by_cases hce : xc = q2 + 1
                      · have hce1 : (xc != q2 + 1) = false := by simp [hce]
                        have hce2 : decide (xc = q2 + 1) = true := decide_eq_true hce
                        have Hs1 : Hid (rnn l h t (i + 1) = if xt < L ∨ k < xt ∨ t < xt then none else some xt) := by have q := Hs0.out; rw [if_pos ⟨rfl, hce⟩] at q; exact q
                        clear Hs0 hce
                        go_wp2
                        refine wp_region_quiet_below (by kernel_rfl) (by kernel_rfl) ?_
                        repeat (go_big_quiet_step (with_reducible exact k48 _ _))
                        refine wpQuiet_nil ?_
                        intro _ hw'
                        obtain ⟨⟨dq, osq⟩, hw''⟩ := hw'
                        subst hw''
                        have bq := below_regrown w9 dq osq
                        have b10 := Below.comp b9' bq
                        have HE10 : Hid _ := box_on HE9'.out bq
                        have HD10 : Hid _ := box_on HD9'.out bq
                        generalize Go.Sort.grow (redrawn w9 dq) osq = w10 at *
                        obtain ⟨e0, e1, e2, e3⟩ := box4_cells HE10.out
                        obtain ⟨d0, d1, d2, d3⟩ := box4_cells HD10.out
                        clear z0 z1 z2 z3 k48 hce1 hce2
                        by_cases h1 : xt < L
                        · have Hs : Hid (rnn l h t (i + 1) = none) := by have q := Hs1.out; rw [if_pos (.inl h1)] at q; exact q
                          clear Hs1
                          obtain rfl := HR0.out (i + 1) (by omega) Hs.out
                          clear Hs
                          go_wp2
                          go_ret
                          have gE := Below.comp HB8.out b10
                          exact ⟨rfl, by first | exact gE | exact (hD ▸ gE)⟩
                        · by_cases h2 : k < xt
                          · have Hs : Hid (rnn l h t (i + 1) = none) := by have q := Hs1.out; rw [if_pos (.inr (.inl h2))] at q; exact q
                            clear Hs1
                            obtain rfl := HR0.out (i + 1) (by omega) Hs.out
                            clear Hs
                            go_wp2
                            go_ret
                            have gE := Below.comp HB8.out b10
                            exact ⟨rfl, by first | exact gE | exact (hD ▸ gE)⟩
                          · by_cases h3 : t < xt
                            · have Hs : Hid (rnn l h t (i + 1) = none) := by have q := Hs1.out; rw [if_pos (.inr (.inr h3))] at q; exact q
                              clear Hs1
                              obtain rfl := HR0.out (i + 1) (by omega) Hs.out
                              clear Hs
                              go_wp2
                              go_ret
                              have gE := Below.comp HB8.out b10
                              exact ⟨rfl, by first | exact gE | exact (hD ▸ gE)⟩
                            · have Hs : Hid (rnn l h t (i + 1) = some xt) := by have q := Hs1.out; rw [if_neg (by omega)] at q; exact q
                              clear Hs1
                              go_wp2
                              go_roundw
                              case rel => exact ⟨i + 1, xt, by omega, by have := Hk.out; rw [← this]; congr 1; omega, rfl, Hs, b10⟩
                              case measure => have := Hk.out; simp [intOf]; omega
                      · have hce1 : (xc != q2 + 1) = true := by simp [hce]
                        have hce2 : decide (xc = q2 + 1) = false := decide_eq_false hce
                        have Hs : Hid (rnn l h t (i + 1) = none) := by have q := Hs0.out; rw [if_neg (fun q => hce q.2)] at q; exact q
                        clear Hs0 hce
                        go_wp2
                        refine wp_region_quiet_below (by kernel_rfl) (by kernel_rfl) ?_
                        repeat (go_big_quiet_step (with_reducible exact k48 _ _))
                        refine wpQuiet_nil ?_
                        intro _ hw'
                        obtain ⟨⟨dq, osq⟩, hw''⟩ := hw'
                        subst hw''
                        have bq := below_regrown w9 dq osq
                        have b10 := Below.comp b9' bq
                        generalize Go.Sort.grow (redrawn w9 dq) osq = w10 at *
                        obtain rfl := HR0.out (i + 1) (by omega) Hs.out
                        clear Hs
                        go_wp2
                        go_ret
                        have gE := Below.comp HB8.out b10
                        exact ⟨rfl, by first | exact gE | exact (hD ▸ gE)⟩
              · obtain rfl : i = n := by omega
                have hkh : ¬ (k < h) := by have := Hk.out; have := Hkz.out; omega
                obtain rfl := HR1.out HB.out L hR.out
                go_wp2
                go_ret
                have gE := Below.comp HB8.out hb
                exact ⟨rfl, by first | exact gE | exact (hD ▸ gE)⟩
          · have hc' : (cy != q + 1) = true := by simp [hc]
            have hc2 : decide (cy = q + 1) = false := decide_eq_false hc
            obtain rfl := HN.out (by omega)
            clear p1 p2 p3 hg hh hcy ht hn hc hqb
            go_enter Tryd.func17, Tryd.ntmps17
            go_wp2
            clear hW0
            refine wp_region_quiet_below (by kernel_rfl) (by kernel_rfl) ?_
            repeat (go_big_quiet_step (first | with_reducible exact k1 _ _ | with_reducible exact k2 _ _ | with_reducible exact k3 _ _))
            refine wpQuiet_nil ?_
            intro _ hw'
            obtain ⟨⟨dq, osq⟩, hw''⟩ := hw'
            subst hw''
            have b8 := Below.comp q0 (below_regrown W0 dq osq)
            generalize Go.Sort.grow (redrawn W0 dq) osq = w8 at *
            go_wp2
            go_ret
            exact ⟨rfl, by first | exact b8 | exact (hD ▸ b8)⟩
end Go.Proofs.YtcfjkejaenmibaaDoor
