import Derived.Test.YtienhdlhlddemaaE5
/- The program: an open cow that is good. -/
namespace Go.Proofs.Ytienhdlhlddemaa
open Go.ChangeShapes Go.WideShapes Go.ChangeAt Go.RowKit
set_option linter.unusedVariables false
open Hd

attribute [local go_sem] Oper.semAt_some

theorem meet_any {L : List Ce} (hok : ∀ i, i < L.length → okC (gc L i) = true) (hn : L.length ≤ 80) {ns rs : List Int} {lv : Int} (w0 : World) (v : Value) (ho : OpAt w0 v L ns rs lv) :
    ∀ (l : Nat), l ≤ 3 → ∀ (K s : List Int) (b : Option Addr) (cap g : Nat) (w : World), w0.heap.size ≤ g → Below w0.heap.size w0 w → Row w g s → s.length = L.length → Nn s → K.length ≤ 8 → (∀ y, gi s y + ((K.length * TT 4 l : Nat) : Int) ≤ 4611686018427387904) → (∀ x, x ∈ K → isO L l x = true) → (∀ W, Out g (g + 1) w W → Ints W b K) →
      Calls Try.prog 50 #[v, .slice b K.length cap, .slice (some ⟨g, 0, none⟩) L.length L.length] w (MeetR (K.foldl (mt L l) s) g w) := by
  intro l
  induction l with
  | zero => intro h; exact meet_step hok hn w0 v ho 0 (by omega) (fun h => absurd rfl h)
  | succ l ih => intro h3; exact meet_step hok hn w0 v ho (l + 1) h3 (fun _ => by rw [Nat.add_sub_cancel]; exact ih (by omega))
set_option maxHeartbeats 1000000 in
theorem metFrom_any {L : List Ce} (hok : ∀ i, i < L.length → okC (gc L i) = true) (hn : L.length ≤ 80) {ns rs : List Int} {lv : Int} (v : Value) (w : World) (ho : OpAt w v L ns rs lv) (l : Nat) (hl : l ≤ 3) (K : List Int) (b : Option Addr) (cap : Nat) (hKn : K.length ≤ 8) (hKo : ∀ x, x ∈ K → isO L l x = true) (hK : Ints w b K) :
    Calls Try.prog 41 #[v, .slice b K.length cap] w fun e w' => Below w.heap.size w w' ∧ ∃ g, e = .returned (.slice (some ⟨g, 0, none⟩) L.length L.length) ∧ w.heap.size ≤ g ∧ g < w'.heap.size ∧ Row w' g (K.foldl (mt L l) (zer L.length)) := by
  have hm := meet_any hok hn (w0 := w) v ho l hl
  obtain ⟨a, ka, b1, kb, c, kc, rfl, -, -, -, -, -, -⟩ := ho
  obtain ⟨W0, hW0⟩ : ∃ W0, w.alloc (.cells #[.slice a L.length ka, .slice b1 ns.length kb, .slice c rs.length kc, .int .i64 lv] 47) = W0 := ⟨_, rfl⟩
  have q0 : Below w.heap.size w W0 := by subst hW0; exact below_alloc _ _
  have H1 : Hid (W0.heap[w.heap.size]? = some (.cells #[.slice a L.length ka, .slice b1 ns.length kb, .slice c rs.length kc, .int .i64 lv] 47 (0, 0))) := by subst hW0; exact al1 _ _
  have hmk := make_any (P := Try.prog) 23 3 _ 1 8 Try.underlying23 info3 .i64 .i64 L.length (by omega) (by omega)
  simp only [Nat.mul_one] at hmk
  obtain ⟨g, hg⟩ : ∃ g, W0.heap.size = g := ⟨_, rfl⟩
  obtain ⟨W1, hW1⟩ : ∃ W1, W0.alloc (.cells (made (.int .i64 0) L.length) 3) = W1 := ⟨_, rfl⟩
  have q1 : Below W0.heap.size W0 W1 := by subst hW1; exact below_alloc _ _
  have HS1 : Hid (Row W1 g (zer L.length)) := by subst hW1 hg; have h6 := row_made W0 L.length; rwa [Nat.mul_one] at h6
  have hgw : w.heap.size < g := by rw [← hg]; exact box_lt H1.out
  have hb1 : Below w.heap.size w W1 := Below.comp q0 q1
  have HK : Hid (∀ W, Out g (g + 1) W1 W → Ints W b K) := fun W h => hK.below (hb1.trans ((h.below (by have := HS1.out.lt; omega)).mono (by omega)))
  have hTT := TT4 hl
  have hmm := hm K (zer L.length) b cap g W1 (by omega) hb1 HS1.out (zer_len _) (zer_nn _) hKn (fun y => by
    rw [zer_gi]
    have : K.length * TT 4 l ≤ 8 * 21 := Nat.mul_le_mul hKn hTT
    omega) hKo HK.out
  have HMM : Hid _ := hmm
  obtain ⟨i0, i1, i2, i3⟩ := (box4_cells H1.out).1
  obtain ⟨j0, j1, j2, j3⟩ := (box4_cells (box_on H1.out q1)).1
  clear hm hmm hok hKo hK HK hTT
  unfold ov at *
  generalize K.foldl (mt L l) (zer L.length) = R at *
  generalize L.length = n at *
  generalize K.length = m at *
  go_enter Try.func41, Try.ntmps41
  go_wp2_with fail
  clear hW0 hW1 hmk
  refine Calls.mono HMM.out ?_
  rintro e w5 ⟨rfl, o5, hR5⟩
  go_wp2
  go_ret
  have hlt := hR5.lt
  exact ⟨hb1.trans ((o5.below (by have := HS1.out.lt; omega)).mono (by omega)), g, rfl, by omega, hlt, hR5⟩
set_option maxHeartbeats 1000000 in
theorem equal_any (a a' : Option Addr) (l l' : List Int) (cap cap' : Nat) (w : World) (hn : l.length ≤ 9223372036854775807) (hn' : l'.length ≤ 9223372036854775807) (hc : Ints w a l) (hc' : Ints w a' l') :
    Calls Try.prog 48 #[.slice a l.length cap, .slice a' l'.length cap'] w fun e w' => e = .returned (.bool (decide (l = l'))) ∧ Below w.heap.size w w' := by
  obtain ⟨oo, hoo⟩ : ∃ oo, decide (l = l') = oo := ⟨_, rfl⟩
  have HO : Hid _ := hoo
  rw [hoo]
  clear hoo
  have HC : Hid (Ints w a l) := hc
  have HC' : Hid (Ints w a' l') := hc'
  clear hc hc'
  by_cases hl : l.length = l'.length
  · have Hl : Hid _ := hl
    rw [← hl]
    generalize hln : l.length = n at *
    have Hln : Hid _ := hln
    clear hln hl hn'
    go_enter Try.func48, Try.ntmps48
    go_wp2
    go_loopw [13] (fun s13 wr => ∃ k : Nat, k ≤ n ∧ s13 = .int .i64 k ∧ Hid (∀ i, i < k → gi l i = gi l' i) ∧ Below w.heap.size w wr) (fun s13 _ => n - (intOf s13).toNat)
    case atStart => exact ⟨0, Nat.zero_le _, rfl, fun i hi => absurd hi (by omega), Below.refl _ _⟩
    case round =>
      obtain ⟨k, hk, rfl, HP, hb⟩ := hrel
      by_cases hlt : k < n
      · obtain ⟨b, off, rfl, hcell⟩ := (At.below HC.out hb) (by have := Hln.out; omega)
        obtain ⟨b', off', rfl, hcell'⟩ := (At.below HC'.out hb) (by have := Hln.out; have := Hl.out; omega)
        have k0 : wr.cell? ⟨b, off + k, none⟩ = some (.int .i64 (gi l k)) := hcell k (by rw [Hln.out]; exact hlt)
        have k0' : wr.cell? ⟨b', off' + k, none⟩ = some (.int .i64 (gi l' k)) := hcell' k (by rw [← Hl.out]; exact hlt)
        clear hcell hcell'
        have hlt' : (k : Int) < (n : Int) := by omega
        have HP1 : Hid (gi l k = gi l' k → ∀ i, i < k + 1 → gi l i = gi l' i) := fun h i hi => by
          by_cases e : i = k
          · subst e; exact h
          · exact HP.out i (by omega)
        have HN1 : Hid (gi l k ≠ gi l' k → oo = false) := fun h => by rw [← HO.out]; exact decide_eq_false (fun e => h (by rw [e]))
        generalize gi l k = x at *
        generalize gi l' k = y at *
        by_cases hxy : x = y
        · subst hxy
          go_wp2_with fail
          go_quiet (fail)
          go_wp2
          go_roundw
          case rel => exact ⟨k + 1, by omega, by go_num, by first | exact HP1.out rfl | exact HP1.out trivial, below_drewN hb _⟩
          case measure => simp [intOf]; omega
        · have hne : (x != y) = true := by simpa using hxy
          have e0 := HN1.out hxy
          subst e0
          go_wp2_with fail
          go_quiet (fail)
          go_wp2
          go_ret
          exact ⟨rfl, below_drewN hb _⟩
      · have hkn : k = n := by omega
        subst hkn
        have e0 : oo = true := by
          rw [← HO.out]
          apply decide_eq_true
          apply List.ext_getElem (by rw [Hln.out]; exact Hl.out)
          intro i h1 h2
          rw [← gi_eq h1, ← gi_eq h2]
          exact HP.out i (by rw [← Hln.out]; exact h1)
        subst e0
        go_wp2
        go_ret
        exact ⟨rfl, hb⟩
  · have e0 : oo = false := by rw [← HO.out]; exact decide_eq_false (fun e => hl (by rw [e]))
    subst e0
    have hne : ((l.length : Int) != (l'.length : Int)) = true := by simp; omega
    generalize l.length = n at *
    generalize l'.length = n' at *
    go_enter Try.func48, Try.ntmps48
    go_wp2
    go_ret
    exact ⟨rfl, Below.refl _ _⟩
set_option maxHeartbeats 2000000 in
set_option maxRecDepth 20000 in
theorem isGood_any {L : List Ce} (hok : ∀ i, i < L.length → okC (gc L i) = true) (hn : L.length ≤ 80) {ns rs : List Int} {lv : Int} (v : Value) (w : World) (ho : OpAt w v L ns rs lv) (h1 : 1 ≤ lv) (h3 : lv ≤ 3) (hm : rs.length ≤ 8) (hnn : ns.length ≤ 80) :
    Calls Try.prog 39 #[v] w fun e w' => e = .returned (.bool (rs.all (isO L lv.toNat) && decide (rs.foldl (mt L lv.toNat) (zer L.length) = ns))) ∧ Below w.heap.size w w' := by
  have hlv : ((lv.toNat : Nat) : Int) = lv := by omega
  have hI := isO_any hok hn w v ho lv.toNat (by omega) (by omega)
  have hMt := fun W (h : Below w.heap.size w W) (hK : ∀ x, x ∈ rs → isO L lv.toNat x = true) b cap hb => metFrom_any hok hn v W (ho.below h) lv.toNat (by omega) rs b cap hm hK hb
  rw [hlv] at hI
  have hE := fun W a a' cap' (R : List Int) h1 h2 h3 => equal_any a a' R ns L.length cap' W h1 (by omega) h2 h3
  obtain ⟨a, ka, b, kb, c, kc, rfl, -, -, -, -, hB, hC⟩ := ho
  have HI : Hid _ := hI
  have HM : Hid _ := hMt
  have HE : Hid _ := hE
  have HB : Hid (Ints w b ns) := hB
  have HC : Hid (Ints w c rs) := hC
  have HRl : Hid ((rs.foldl (mt L lv.toNat) (zer L.length)).length = L.length) := by show _ = _; rw [foldl_len (mt_len _ _), zer_len]
  clear hI hMt hE hB hC hlv hok
  obtain ⟨oo, hoo⟩ : ∃ oo, (rs.all (isO L lv.toNat) && decide (rs.foldl (mt L lv.toNat) (zer L.length) = ns)) = oo := ⟨_, rfl⟩
  have HO : Hid _ := hoo
  rw [hoo]
  clear hoo
  obtain ⟨W0, hW0⟩ : ∃ W0, w.alloc (.cells #[.slice a L.length ka, .slice b ns.length kb, .slice c rs.length kc, .int .i64 lv] 47) = W0 := ⟨_, rfl⟩
  have q0 : Below w.heap.size w W0 := by subst hW0; exact below_alloc _ _
  have H1 : Hid (W0.heap[w.heap.size]? = some (.cells #[.slice a L.length ka, .slice b ns.length kb, .slice c rs.length kc, .int .i64 lv] 47 (0, 0))) := by subst hW0; exact al1 _ _
  obtain ⟨i0, i1, i2, i3⟩ := (box4_cells H1.out).1
  unfold ov at *
  generalize lv.toNat = l at *
  generalize hR : rs.foldl (mt L l) (zer L.length) = R at *
  have HR : Hid _ := hR
  clear hR
  obtain ⟨m, hmm⟩ : ∃ m, rs.length = m := ⟨_, rfl⟩
  have Hm : Hid _ := hmm
  rw [hmm] at hm H1 i2 hW0 HM HI ⊢
  clear hmm
  obtain ⟨n, hnl⟩ : ∃ n, L.length = n := ⟨_, rfl⟩
  have Hnl : Hid _ := hnl
  rw [hnl] at hn H1 i0 hW0 HM HI HE HRl ⊢
  clear hnl
  go_enter Try.func39, Try.ntmps39
  go_wp2
  clear hW0
  go_loopw [8] (fun s8 wr => ∃ j : Nat, j ≤ m ∧ s8 = .int .i64 j ∧ Hid (∀ i, i < j → isO L l (gi rs i) = true) ∧ Below W0.heap.size W0 wr) (fun s8 _ => m - (intOf s8).toNat)
  case atStart => exact ⟨0, Nat.zero_le _, rfl, fun i hi => absurd hi (by omega), Below.refl _ _⟩
  case round =>
    obtain ⟨j, hj, rfl, HP, hbw⟩ := hrel
    have hb1 := Below.comp q0 hbw
    obtain ⟨y0, y1, y2, y3⟩ := (box4_cells (box_on H1.out hbw)).1
    clear i0 i1 i2 i3
    by_cases hlt : j < m
    · have hj' : j < rs.length := by rw [Hm.out]; exact hlt
      obtain ⟨rb, ro, rfl, hcc⟩ := (At.below HC.out hb1) (by omega)
      have c0 : wr.cell? ⟨rb, ro + j, none⟩ = some (.int .i64 (gi rs j)) := hcc j hj'
      clear hcc
      have cI := fun W h => HI.out (gi rs j) W h
      have HP1 : Hid (isO L l (gi rs j) = true → ∀ i, i < j + 1 → isO L l (gi rs i) = true) := fun h i hi => by
        by_cases e : i = j
        · subst e; exact h
        · exact HP.out i (by omega)
      have HN1 : Hid (isO L l (gi rs j) = false → oo = false) := fun h => by
        rw [← HO.out]
        have : rs.all (isO L l) = false := by
          rw [Bool.eq_false_iff]
          intro e
          have := List.all_eq_true.1 e (gi rs j) (by rw [gi_eq hj']; exact List.getElem_mem _)
          rw [h] at this
          cases this
        rw [this]; rfl
      generalize gi rs j = x at *
      obtain ⟨bx, hbx⟩ : ∃ bx, isO L l x = bx := ⟨_, rfl⟩
      rw [hbx] at cI HP1 HN1
      clear hbx
      cases bx with
      | true =>
        go_wp2_with fail
        refine (cI _ hb1).mono ?_
        rintro e w1 ⟨rfl, b1⟩
        go_wp2_with fail
        go_roundw
        case rel => exact ⟨j + 1, by omega, by go_num, by first | exact HP1.out rfl | exact HP1.out trivial, Below.comp hbw b1⟩
        case measure => simp [intOf]; omega
      | false =>
        have e2 : oo = false := by first | exact HN1.out rfl | exact HN1.out trivial
        subst e2
        go_wp2_with fail
        refine (cI _ hb1).mono ?_
        rintro e w1 ⟨rfl, b1⟩
        go_wp2_with fail
        go_ret
        exact ⟨rfl, Below.comp hb1 b1⟩
    · have hjm : j = m := by omega
      subst hjm
      have hall : ∀ x, x ∈ rs → isO L l x = true := fun x hx => by
        obtain ⟨i, hi, rfl⟩ := List.getElem_of_mem hx
        rw [← gi_eq hi]
        exact HP.out i (by rw [← Hm.out]; exact hi)
      have e2 : Hid (oo = decide (R = ns)) := by
        show _ = _
        rw [← HO.out, List.all_eq_true.2 hall]; rfl
      have HAll : Hid _ := hall
      clear hall HO
      have SB : Hid (∀ W, Below wr.heap.size wr W → W.cell? ⟨w.heap.size, 0, none⟩ = some (.slice a n ka) ∧ W.cell? ⟨w.heap.size, 1, none⟩ = some (.slice b ns.length kb) ∧ W.cell? ⟨w.heap.size, 2, none⟩ = some (.slice c j kc) ∧ W.cell? ⟨w.heap.size, 3, none⟩ = some (.int .i64 lv) ∧ Below wr.heap.size wr W) := fun W g => ⟨cell_on y0 g, cell_on y1 g, cell_on y2 g, cell_on y3 g, g⟩
      have cM := fun W (h : Below w.heap.size w W) => HM.out W h HAll.out c kc (At.below HC.out h)
      have HCM : Hid _ := cM
      clear cM y0 y1 y2 y3
      go_wp2_with fail
      go_region_held3 (fun W => W.cell? ⟨w.heap.size, 0, none⟩ = some (.slice a n ka) ∧ W.cell? ⟨w.heap.size, 1, none⟩ = some (.slice b ns.length kb) ∧ W.cell? ⟨w.heap.size, 2, none⟩ = some (.slice c j kc) ∧ W.cell? ⟨w.heap.size, 3, none⟩ = some (.int .i64 lv) ∧ Below wr.heap.size wr W)
        ((refine SB.out _ ?_; first | assumption | exact Below.drew (Below.refl _ _)))
        (first
        | (go_at_call 41; obtain ⟨-, -, -, -, hw0⟩ := ‹_ ∧ _ ∧ _ ∧ _ ∧ Below wr.heap.size wr _›; refine (HCM.out _ (Below.comp hb1 hw0)).mono ?_; rintro e w1 ⟨g1, gg, rfl, gg1, gg2, hRR⟩; have g2 := Below.comp hw0 g1; have HRR : Hid _ := hRR; clear hRR)
        | (go_at_call 48; have gR : Ints w1 (some ⟨gg, 0, none⟩) R := (fun _ => ⟨gg, 0, rfl, fun i hi => by rw [Nat.zero_add]; exact (Row.cell HRR.out hi).1⟩); have h9 := HE.out w1 (some ⟨gg, 0, none⟩) b kb R (by rw [HRl.out]; omega) gR (At.below HB.out (Below.comp hb1 g2)); rw [HRl.out] at h9; refine h9.mono ?_; rintro e w2 ⟨rfl, g3⟩; have g4 := Below.comp g2 g3))
      all_goals go_wp2
      all_goals go_ret
      all_goals exact ⟨by rw [e2.out]; rfl, Below.comp hb1 g4⟩
end Go.Proofs.Ytienhdlhlddemaa
