import Derived.Test.YtcfjkejaenmibaaDoorI4
/- The program: good tails, good rings. -/
namespace Go.Proofs.YtcfjkejaenmibaaDoor
open Go.ChangeShapes Go.WideShapes Go.ChangeAt Go.RowKit
set_option linter.unusedVariables false
open Lg

attribute [local go_sem] Oper.semAt_some

/-- The greatest tail behind one slot more. -/
def tlK (l : List Sl) (t k last : Int) : Option Int :=
  if sameB (gs l (idx l.length k)) blank = true then some last
  else if (gs l (idx l.length k)).t < last ∨ min k t < (gs l (idx l.length k)).t then none else some (gs l (idx l.length k)).t
def tlN (l : List Sl) (h t : Int) : Nat → Option Int
  | 0 => some 0
  | i + 1 => (tlN l h t i).bind (tlK l t (h - l.length + i))
theorem tlN_none {l : List Sl} {h t : Int} {i : Nat} (hi : tlN l h t i = none) : ∀ j, i ≤ j → tlN l h t j = none := by
  intro j hj
  induction j with
  | zero => obtain rfl : i = 0 := by omega
            exact hi
  | succ j ih =>
    by_cases e : i = j + 1
    · rw [← e]; exact hi
    · unfold tlN
      rw [ih (by omega)]
      rfl
theorem blank_c : blank.c = 0 := rfl
theorem stp_yes {l : List Sl} {t k : Int} (ht : 0 ≤ t) (hn : 0 < l.length) (hr : rcK l t k = true) (last : Int) : stp l t k last = tlK l t k last := by
  unfold rcK frN at hr
  unfold stp tlK
  generalize gs l (idx l.length k) = x at *
  generalize l.length = n at *
  by_cases hs : sameB x blank = true
  · simp only [hs, if_true] at hr ⊢
    simp at hr
    by_cases h0 : k < 0
    · rw [if_pos h0]
    · rw [if_neg h0, if_pos ⟨hr, trivial⟩]
  · simp only [hs] at hr ⊢
    have hc : 0 ≤ k ∧ whB x = true ∧ x.c = k / (n : Int) + 1 := by
      by_cases q : 0 ≤ k ∧ whB x = true ∧ x.c = k / (n : Int) + 1
      · exact q
      · rw [if_neg (by simp), if_neg q] at hr; simp at hr
    rw [if_neg (by omega), if_neg (by simp), if_pos hc.2]
    simp only [Bool.false_eq_true, if_false]
    by_cases q : x.t < last ∨ k < x.t ∨ t < x.t
    · rw [if_pos q, if_pos (by omega)]
    · rw [if_neg q, if_neg (by omega)]
theorem stp_no {l : List Sl} {t k : Int} (ht : 0 ≤ t) (hn : 0 < l.length) (hr : rcK l t k = false) (last : Int) : stp l t k last = none := by
  unfold rcK frN at hr
  unfold stp
  generalize gs l (idx l.length k) = x at *
  generalize l.length = n at *
  by_cases hs : sameB x blank = true
  · simp only [hs, if_true] at hr ⊢
    simp at hr
    have hx : x = blank := sameB_iff.1 hs
    rw [if_neg (by omega), if_neg (by omega), if_neg]
    intro q
    have h1 := q.2
    rw [hx, blank_c] at h1
    have := Int.ediv_nonneg (a := k) (b := (n : Int)) (by omega) (by omega)
    omega
  · simp only [hs] at hr ⊢
    by_cases h0 : k < 0
    · rw [if_pos h0, if_neg (by simp)]
    · rw [if_neg h0, if_neg (by simp), if_neg]
      intro q
      rw [if_neg (by simp), if_pos ⟨by omega, q⟩] at hr
      simp at hr
theorem rnn_is {l : List Sl} {h t : Int} (ht : 0 ≤ t) (hn : 0 < l.length) : ∀ i, (rcN l h t i = true → rnn l h t i = tlN l h t i) ∧ (rcN l h t i = false → rnn l h t i = none) := by
  intro i
  induction i with
  | zero => exact ⟨fun _ => rfl, fun q => by cases q⟩
  | succ i ih =>
    show ((rcN l h t i && rcK l t (h - l.length + i)) = true → (rnn l h t i).bind _ = (tlN l h t i).bind _) ∧ ((rcN l h t i && rcK l t (h - l.length + i)) = false → (rnn l h t i).bind _ = none)
    cases h1 : rcN l h t i with
    | false =>
      rw [ih.2 h1]
      exact ⟨fun q => (by cases q), fun _ => rfl⟩
    | true =>
      rw [ih.1 h1]
      cases h2 : rcK l t (h - l.length + i) with
      | false =>
        refine ⟨fun q => (by cases q), fun _ => ?_⟩
        cases tlN l h t i with
        | none => rfl
        | some last => exact stp_no ht hn h2 last
      | true =>
        refine ⟨fun _ => ?_, fun q => by cases q⟩
        cases tlN l h t i with
        | none => rfl
        | some last => exact stp_yes ht hn h2 last
theorem gd_is {l : List Sl} {h cy t : Int} : gdB l h cy t = (bdB l.length h cy t && (rcN l h t l.length && (tlN l h t l.length).isSome)) := by
  unfold gdB
  cases hb : bdB l.length h cy t with
  | false => rfl
  | true =>
    have hp := bd_is.1 hb
    have hi := rnn_is (l := l) (h := h) (t := t) (by omega) (by omega) l.length
    cases h1 : rcN l h t l.length with
    | false => rw [hi.2 h1]; rfl
    | true => rw [hi.1 h1]; rfl
theorem min_runI (x y : Int) (w : World) : (Builtin.min_ #[3, 3] 3 #[.int .i64 x, .int .i64 y]).run Tryd.prog w = .ok (.int .i64 (min x y)) w := by
  simp [Builtin.min_, Builtin.min2, go_sem]
  omega
set_option maxRecDepth 20000 in
set_option maxHeartbeats 4000000 in
theorem tails_any (a : Option Addr) (c : Nat) (l : List Sl) (h cy t : Int) (w : World) (hf : ∀ i, i < l.length → Few (gs l i)) (hbd : bdB l.length h cy t = true) (ha : Sls w a l) (hT : Tb w) :
    Calls Tryd.prog 51 #[rv a l.length c h cy t] w fun e w' => e = .returned (.bool (tlN l h t l.length).isSome) ∧ Below w.heap.size w w' := by
  have hp : Hid _ := bd_is.1 hbd
  have HN : Hid (∀ i, i ≤ l.length → tlN l h t i = none → false = (tlN l h t l.length).isSome) := fun i h1 h2 => by rw [tlN_none h2 _ h1]; rfl
  have HY : Hid (∀ i, l.length ≤ i → i ≤ l.length → ∀ L, tlN l h t i = some L → true = (tlN l h t l.length).isSome) := fun i h1 h2 L h3 => by rw [Nat.le_antisymm h1 h2, h3]; rfl
  have Hst : Hid (∀ i L, tlN l h t i = some L → tlN l h t (i + 1) = tlK l t (h - l.length + i) L) := fun i L q => by show (tlN l h t i).bind _ = _; rw [q]; rfl
  have H00 : Hid (tlN l h t 0 = some 0) := rfl
  obtain ⟨G, hG⟩ : ∃ G, (tlN l h t l.length).isSome = G := ⟨_, rfl⟩
  rw [hG] at HN HY ⊢
  clear hG hbd
  have CS : Hid (∀ k, -(l.length : Int) ≤ k → k ≤ 10000000 → ∀ W, Below w.heap.size w W → Calls Tryd.prog 59 #[.int .i64 k, .slice a l.length c] W fun e w' => e = .returned (sv (gs l (idx l.length k))) ∧ Below W.heap.size W w') := fun k h1 h2 W q => slotFor_any k a c l W (by have := hp.out; omega) h1 (by have := hp.out; omega) (by omega) (RowS.below ha q)
  clear ha hf
  obtain ⟨n, hnl⟩ : ∃ n, l.length = n := ⟨_, rfl⟩
  rw [hnl] at hp HN HY Hst CS ⊢
  have Hnl : Hid _ := hnl
  clear hnl
  obtain ⟨D, hD⟩ : ∃ D, w.heap.size = D := ⟨_, rfl⟩
  obtain ⟨W0, hW0⟩ : ∃ W0, w.alloc (.cells #[.slice a n c, .int .i64 h, .int .i64 cy, .int .i64 t] 24) = W0 := ⟨_, rfl⟩
  have q0 : Below w.heap.size w W0 := by subst hW0; exact below_alloc _ _
  have HA : Hid (W0.heap[D]? = some (.cells #[.slice a n c, .int .i64 h, .int .i64 cy, .int .i64 t] 24 (0, 0))) := by subst hW0 hD; exact al1 _ _
  obtain ⟨x0, x1, x2, x3⟩ := box4_cells HA.out
  obtain ⟨kz, hkz⟩ : ∃ kz, h - (n : Int) = kz := ⟨_, rfl⟩
  have hwk : IntKind.i64.wrap (h - (n : Int)) = kz := by have := hp.out; rw [← hkz]; exact wrapI (by omega) (by omega)
  have Hkz : Hid _ := hkz
  rw [hkz] at Hst
  clear hkz
  have hmin := min_runI
  go_enter Tryd.func51, Tryd.ntmps51
  go_wp2
  clear hW0 x0 x1 x2 x3 hwk
  go_loopw [3, 4] (fun la k wr => ∃ (i : Nat) (L : Int), i ≤ n ∧ k = .int .i64 (kz + i) ∧ la = .int .i64 L ∧ Hid (tlN l h t i = some L) ∧ Below W0.heap.size W0 wr) (fun _ k _ => (h - intOf k).toNat)
  case atStart => exact ⟨0, 0, Nat.zero_le _, by simp, rfl, H00, Below.refl _ _⟩
  case round =>
    obtain ⟨i, L, hi, rfl, rfl, hR, hb⟩ := hrel
    obtain ⟨x0, x1, x2, x3⟩ := box4_cells (box_on HA.out hb)
    obtain ⟨k, hk⟩ : ∃ k, kz + (i : Int) = k := ⟨_, rfl⟩
    rw [hk]
    have Hk : Hid (kz + (i : Int) = k) := hk
    clear hk
    by_cases hlt : i < n
    · have hkh : k < h := by have := Hk.out; have := Hkz.out; omega
      have hstp := Hst.out i L hR.out
      rw [Hk.out] at hstp
      have hk1 : IntKind.i64.wrap (k + 1) = k + 1 := wrapI (by have := Hk.out; have := Hkz.out; have := hp.out; omega) (by have := Hk.out; have := Hkz.out; have := hp.out; omega)
      have cS := CS.out k (by have := Hk.out; have := Hkz.out; have := hp.out; omega) (by have := hp.out; omega)
      have hb2 := Below.comp q0 hb
      unfold tlK at hstp
      rw [Hnl.out] at hstp
      generalize gs l (idx n k) = x at *
      have cZ := fun W h => blankSlot_any W h
      have heq := eqlS x blank
      have hgu := fun o1 o2 xs ys W => guardS .eql o1 o2 xs ys W
      obtain ⟨u, hu⟩ : ∃ u, sameB x blank = u := ⟨_, rfl⟩
      rw [hu] at hstp heq
      obtain ⟨bl, hbl⟩ : ∃ bl, blank = bl := ⟨_, rfl⟩
      rw [hbl] at cZ heq
      clear hu hbl
      obtain ⟨xc, xt, xd, xs⟩ := x
      obtain ⟨bc, bt, bd, bs⟩ := bl
      simp only at cS cZ heq hstp
      have Hstp : Hid _ := hstp
      clear hstp
      go_wp2_with fail
      refine (cS _ hb2).mono ?_
      rintro e w1 ⟨rfl, b1⟩
      clear cS x0 x1 x2 x3
      obtain ⟨E, hE⟩ : ∃ E, w1.heap.size = E := ⟨_, rfl⟩
      obtain ⟨Wz, hWz⟩ : ∃ Wz, w1.alloc (.cells #[.int .i64 0, .int .i64 0, .string ⟨#[]⟩, .int .i64 0] 41) = Wz := ⟨_, rfl⟩
      have qz : Below w1.heap.size w1 Wz := by subst hWz; exact below_alloc _ _
      have HB : Hid (Wz.heap[E]? = some (.cells #[.int .i64 0, .int .i64 0, .string ⟨#[]⟩, .int .i64 0] 41 (0, 0))) := by subst hWz hE; exact al1 _ _
      obtain ⟨x0, x1, x2, x3⟩ := box4_cells HB.out
      obtain ⟨f0, f1, f2, f3⟩ := box4_free HB.out
      obtain ⟨W1, hW1⟩ : ∃ W1, (((Wz.setCell ⟨E, 0, none⟩ (.int .i64 xc)).setCell ⟨E, 1, none⟩ (.int .i64 xt)).setCell ⟨E, 2, none⟩ (.string xd)).setCell ⟨E, 3, none⟩ (.int .i64 xs) = W1 := ⟨_, rfl⟩
      have HW : Hid (W1.heap[E]? = some (.cells #[.int .i64 xc, .int .i64 xt, .string xd, .int .i64 xs] 41 (0, 0))) := by subst hW1; exact box4_set HB.out
      have q1 : Below w1.heap.size w1 W1 := by subst hW1; exact set4_below qz (by omega) _ _ _ _
      have g1 : Below W0.heap.size W0 W1 := Below.comp hb (Below.comp b1 q1)
      go_wp2_with fail
      clear x0 x1 x2 x3 f0 f1 f2 f3 hWz hW1 HB
      obtain ⟨x0, x1, x2, x3⟩ := box4_cells HW.out
      have y0 : ∀ d' os, (Go.Sort.grow (redrawn W1 d') os).cell? ⟨E, 0, none⟩ = some (.int .i64 xc) := cell_regrown x0
      have y1 : ∀ d' os, (Go.Sort.grow (redrawn W1 d') os).cell? ⟨E, 1, none⟩ = some (.int .i64 xt) := cell_regrown x1
      have y2 : ∀ d' os, (Go.Sort.grow (redrawn W1 d') os).cell? ⟨E, 2, none⟩ = some (.string xd) := cell_regrown x2
      have y3 : ∀ d' os, (Go.Sort.grow (redrawn W1 d') os).cell? ⟨E, 3, none⟩ = some (.int .i64 xs) := cell_regrown x3
      have k46 : ∀ d' os, Calls Tryd.prog 46 #[] (Go.Sort.grow (redrawn W1 d') os) fun e w'' => e = .returned (.agg #[.int .i64 bc, .int .i64 bt, .string bd, .int .i64 bs]) ∧ ∃ p : Regrown, w'' = Go.Sort.grow (redrawn W1 p.d) p.os := fun d' os => Calls.regrown_of (cZ _ ((hT.on (Below.comp q0 g1)).on (below_regrown W1 d' os)))
      refine wp_region_quiet_below (by kernel_rfl) (by kernel_rfl) ?_
      repeat (go_big_quiet_step (with_reducible exact k46 _ _))
      refine wpQuiet_nil ?_
      intro _ hw'
      obtain ⟨⟨dq, osq⟩, hw''⟩ := hw'
      subst hw''
      have g8 := Below.comp g1 (below_regrown W1 dq osq)
      have H8 : Hid _ := box_on HW.out (below_regrown W1 dq osq)
      generalize Go.Sort.grow (redrawn W1 dq) osq = w8 at *
      clear x0 x1 x2 x3 y0 y1 y2 y3 k46 HW cZ heq hgu
      obtain ⟨x0, x1, x2, x3⟩ := box4_cells H8.out
      obtain ⟨z0, z1, z2, z3⟩ := box4_cells (box_on HA.out g8)
      cases u with
      | true =>
        have Hs : Hid (tlN l h t (i + 1) = some L) := Hstp.out.trans (if_pos rfl)
        go_wp2_with fail
        go_roundw
        case rel => exact ⟨i + 1, L, by omega, by have := Hk.out; rw [← this]; congr 1; omega, rfl, Hs, g8⟩
        case measure => have := Hk.out; simp [intOf]; omega
      | false =>
        have hst2 := Hstp.out.trans (if_neg (by decide))
        clear Hstp
        by_cases h1 : xt < L
        · obtain rfl := HN.out (i + 1) (by omega) (hst2.trans (if_pos (.inl h1)))
          clear hst2
          go_wp2_with fail
          go_ret
          have gE := Below.comp q0 g8
          exact ⟨rfl, by first | exact gE | exact (hD ▸ gE)⟩
        · by_cases h2 : min k t < xt
          · obtain rfl := HN.out (i + 1) (by omega) (hst2.trans (if_pos (.inr h2)))
            have h2' : decide (min k t < xt) = true := decide_eq_true h2
            clear hst2 h2
            go_wp2_with fail
            go_ret
            have gE := Below.comp q0 g8
            exact ⟨rfl, by first | exact gE | exact (hD ▸ gE)⟩
          · have Hs : Hid (tlN l h t (i + 1) = some xt) := hst2.trans (if_neg (fun q => q.elim h1 h2))
            have h2' : decide (min k t < xt) = false := decide_eq_false h2
            clear hst2 h2
            go_wp2_with fail
            go_roundw
            case rel => exact ⟨i + 1, xt, by omega, by have := Hk.out; rw [← this]; congr 1; omega, rfl, Hs, g8⟩
            case measure => have := Hk.out; simp [intOf]; omega
    · have hkh : ¬ k < h := by have := Hk.out; have := Hkz.out; omega
      obtain rfl := HY.out i (by omega) hi L hR.out
      go_wp2_with fail
      go_ret
      have gE := Below.comp q0 hb
      exact ⟨rfl, by first | exact gE | exact (hD ▸ gE)⟩
set_option maxHeartbeats 2000000 in
/-- impl.GoodRing tells what the specification's tells. -/
theorem implGood_any (a : Option Addr) (c : Nat) (l : List Sl) (h cy t : Int) (w : World) (a0 a1 : Addr) (hn : l.length ≤ 1048576) (hf : ∀ i, i < l.length → Few (gs l i)) (hh : i64 h) (hcy : i64 cy) (ht : i64 t) (ha : Sls w a l) (hT : Tb w) (hS : Sn w a0 a1) :
    Calls Tryd.prog 19 #[rv a l.length c h cy t] w fun e w' => e = .returned (.bool (gdB l h cy t)) ∧ Below w.heap.size w w' := by
  have cB := fun W => bounds_any a l.length c h cy t W hn hh hcy ht
  have CR : Hid (bdB l.length h cy t = true → ∀ W, Below w.heap.size w W → Calls Tryd.prog 50 #[rv a l.length c h cy t] W fun e w' => e = .returned (.bool (rcN l h t l.length)) ∧ Below W.heap.size W w') := fun hb W q => records_any a c l h cy t W a0 a1 hf hb (RowS.below ha q) (hT.on q) (hS.on q)
  have CT : Hid (bdB l.length h cy t = true → ∀ W, Below w.heap.size w W → Calls Tryd.prog 51 #[rv a l.length c h cy t] W fun e w' => e = .returned (.bool (tlN l h t l.length).isSome) ∧ Below W.heap.size W w') := fun hb W q => tails_any a c l h cy t W hf hb (RowS.below ha q) (hT.on q)
  rw [gd_is]
  generalize bdB l.length h cy t = u1 at *
  generalize rcN l h t l.length = u2 at *
  generalize (tlN l h t l.length).isSome = u3 at *
  clear hf ha hn hh hcy ht hT hS
  generalize l.length = n at *
  obtain ⟨D, hD⟩ : ∃ D, w.heap.size = D := ⟨_, rfl⟩
  obtain ⟨W0, hW0⟩ : ∃ W0, w.alloc (.cells #[.slice a n c, .int .i64 h, .int .i64 cy, .int .i64 t] 24) = W0 := ⟨_, rfl⟩
  have q0 : Below w.heap.size w W0 := by subst hW0; exact below_alloc _ _
  have HA : Hid (W0.heap[D]? = some (.cells #[.slice a n c, .int .i64 h, .int .i64 cy, .int .i64 t] 24 (0, 0))) := by subst hW0 hD; exact al1 _ _
  obtain ⟨x0, x1, x2, x3⟩ := box4_cells HA.out
  go_enter Tryd.func19, Tryd.ntmps19
  go_wp2_with fail
  refine (cB _).mono ?_
  rintro e w1 ⟨rfl, b1⟩
  have g1 := Below.comp q0 b1
  clear x0 x1 x2 x3 hW0 cB
  cases u1 with
  | false =>
    go_wp2_with fail
    go_ret
    exact ⟨rfl, by first | exact g1 | exact (hD ▸ g1)⟩
  | true =>
    obtain ⟨x0, x1, x2, x3⟩ := box4_cells (box_on HA.out b1)
    have cR := CR.out rfl
    have cT := CT.out rfl
    go_wp2_with fail
    refine (cR _ g1).mono ?_
    rintro e w2 ⟨rfl, b2⟩
    have g2 := Below.comp g1 b2
    clear x0 x1 x2 x3
    cases u2 with
    | false =>
      go_wp2_with fail
      go_ret
      exact ⟨rfl, by first | exact g2 | exact (hD ▸ g2)⟩
    | true =>
      obtain ⟨x0, x1, x2, x3⟩ := box4_cells (box_on (box_on HA.out b1) b2)
      go_wp2_with fail
      refine (cT _ g2).mono ?_
      rintro e w3 ⟨rfl, b3⟩
      have g3 := Below.comp g2 b3
      clear x0 x1 x2 x3
      go_wp2_with fail
      go_ret
      exact ⟨rfl, by first | exact g3 | exact (hD ▸ g3)⟩
end Go.Proofs.YtcfjkejaenmibaaDoor
