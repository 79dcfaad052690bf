import Derived.Test.YtpolhigpcllhiaaI9
/- The model's look at items, and at work. -/
namespace Go.Proofs.Ytpolhigpcllhiaa
open Go.ChangeShapes Go.WideShapes Go.ChangeAt Go.RowKit
set_option linter.unusedVariables false
open Room

attribute [local go_sem] Oper.semAt_some

theorem l5Extent_any (x : Ex) (b : Int) (w : World) (h : 1 ≤ b) (h' : b ≤ 400) (hx : x.1 ≤ 9223372036854775807) (hx2 : -9223372036854775808 ≤ x.2) : Calls Try.prog 59 #[xv x, .int .i64 b] w fun e w' => e = .returned (.bool (inB b x)) ∧ Below w.heap.size w w' := by
  obtain ⟨p, q⟩ := x
  simp only at hx hx2
  have c46 := fun W => l1In_any q 1 b W
  by_cases h1 : 0 ≤ p
  · have d1 : decide (0 ≤ p) = true := by simp; omega
    by_cases h2 : 1 ≤ q ∧ q ≤ b
    · have e1 : (decide (1 ≤ q) && decide (q ≤ b)) = true := by simp; omega
      rw [e1] at c46
      have ew : IntKind.i64.wrap (b - q) = b - q := wrapI (by omega) (by omega)
      have e2 : inB b (p, q) = decide (p ≤ b - q) := by
        unfold inB
        simp only
        rw [d1, show decide (1 ≤ q) = true by simp; omega, Bool.true_and, Bool.true_and]
        by_cases h3 : p ≤ b - q
        · rw [decide_eq_true h3]; simp; omega
        · rw [decide_eq_false h3]; simp; omega
      rw [e2]
      generalize hr : decide (p ≤ b - q) = r
      go_enter Try.func59, Try.ntmps59
      go_wp2_with (go_at_call 30; refine (c46 _).mono ?_; rintro e w1 ⟨rfl, rfl⟩)
      all_goals
        go_ret
        exact ⟨by first | rfl | (simp_all; done) | (simp_all <;> omega), below_alloc _ _⟩
    · have e1 : (decide (1 ≤ q) && decide (q ≤ b)) = false := by
        simp only [Bool.and_eq_false_iff, decide_eq_false_iff_not]
        omega
      rw [e1] at c46
      have e2 : inB b (p, q) = false := by
        unfold inB
        simp only [Bool.and_eq_false_iff, decide_eq_false_iff_not]
        omega
      rw [e2]
      go_enter Try.func59, Try.ntmps59
      go_wp2_with (go_at_call 30; refine (c46 _).mono ?_; rintro e w1 ⟨rfl, rfl⟩)
      all_goals
        go_ret
        exact ⟨rfl, below_alloc _ _⟩
  · have e2 : inB b (p, q) = false := by
      unfold inB
      simp only [Bool.and_eq_false_iff, decide_eq_false_iff_not]
      omega
    have d1 : decide (0 ≤ p) = false := by simp; omega
    rw [e2]
    go_enter Try.func59, Try.ntmps59
    go_wp2
    all_goals
      go_ret
      exact ⟨rfl, below_alloc _ _⟩
theorem l12Overlap_any (x y : Ex) (w : World) (h : -9223372036854775808 ≤ fin x ∧ fin x ≤ 9223372036854775807) (h' : -9223372036854775808 ≤ fin y ∧ fin y ≤ 9223372036854775807) : Calls Try.prog 60 #[xv x, xv y] w fun e w' => e = .returned (.bool (ov x y)) ∧ Below w.heap.size w w' := by
  obtain ⟨p, q⟩ := x
  obtain ⟨p', q'⟩ := y
  unfold ov fin at *
  simp only at *
  have e1 : IntKind.i64.wrap (p + q) = p + q := wrapI h.1 h.2
  have e2 : IntKind.i64.wrap (p' + q') = p' + q' := wrapI h'.1 h'.2
  obtain ⟨u, hu⟩ : ∃ u, decide (p < p' + q') = u := ⟨_, rfl⟩
  obtain ⟨u', hu'⟩ : ∃ u', decide (p' < p + q) = u' := ⟨_, rfl⟩
  rw [hu, hu']
  cases u <;> cases u'
  all_goals
    simp only [decide_eq_true_eq, decide_eq_false_iff_not] at hu hu'
    go_enter Try.func60, Try.ntmps60
    go_wp2
    go_ret
    exact ⟨by first | rfl | simp [*], ba2 _ _ _⟩
theorem RowI.takeN {w : World} {a : Option Addr} {n : Nat} {g : Nat → It} (h : RowI w a n g) (c k : Nat) (hk : k ≤ n) : RowI w (subI a 0 c) k g := by
  intro hn
  obtain ⟨b, off, rfl, hc⟩ := h (by omega)
  refine ⟨b, off, ?_, fun i hi => hc i (by omega)⟩
  unfold subI
  split
  · rfl
  · simp [Addr.add]
theorem Inv.insP {b : Int} {pre P : List It} (h : Inv b pre P) {o : It} (ho : o ∈ pre) (hk : o.k = 1) : inB b o.x = true := by
  have h1 : { o with u := (fnd pre o.i).2 } ∈ P := by
    rw [h.eq]
    exact List.mem_map.2 ⟨o, List.mem_filter.2 ⟨ho, by simpa using hk⟩, rfl⟩
  have h2 := Inv.ins h _ h1
  exact h2
theorem Inv.fndB {b : Int} {pre P : List It} (h : Inv b pre P) (hb : b ≤ 400) (id : Int) : 0 ≤ (fnd pre id).2 ∧ (fnd pre id).2 ≤ 400 := by
  by_cases hr : 1 ≤ id ∧ id ≤ (P.length : Int)
  · obtain ⟨k, hk⟩ : ∃ k : Nat, id = (k : Int) + 1 := ⟨(id - 1).toNat, by omega⟩
    rw [hk, h.fn k (by omega)]
    have := h.ids k (by omega)
    have h2 := inB_iff.1 this.2.2.1
    simp only
    omega
  · rw [h.no id (by omega)]
    simp
theorem mem_take_gi {t : List It} {k q : Nat} (h : q < k) (hk : k ≤ t.length) : gi t q ∈ t.take k := by
  rw [gi_eq (by omega)]
  exact List.mem_take_iff_getElem.2 ⟨q, by omega, rfl⟩
theorem any_take_true {t : List It} {k q : Nat} (f : It → Bool) (h : q < k) (hk : k ≤ t.length) (hf : f (gi t q) = true) : (t.take k).any f = true := List.any_eq_true.2 ⟨_, mem_take_gi h hk, hf⟩
theorem any_take_false {t : List It} {k : Nat} (f : It → Bool) (hk : k ≤ t.length) (hf : ∀ q, q < k → f (gi t q) = false) : (t.take k).any f = false := by
  rw [List.any_eq_false]
  intro x hx
  obtain ⟨q, hq, rfl⟩ := List.mem_take_iff_getElem.1 hx
  have := hf q (by omega)
  rw [gi_eq (by omega)] at this
  simp [this]
theorem any_ex_true {l : List Ex} {q : Nat} (f : Ex → Bool) (h : q < l.length) (hf : f (gx l q) = true) : l.any f = true := List.any_eq_true.2 ⟨gx l q, by rw [gx_eq h]; exact List.getElem_mem h, hf⟩
theorem any_ex_false {l : List Ex} (f : Ex → Bool) (hf : ∀ q, q < l.length → f (gx l q) = false) : l.any f = false := by
  rw [List.any_eq_false]
  intro x hx
  obtain ⟨q, hq, rfl⟩ := List.getElem_of_mem hx
  have := hf q hq
  rw [gx_eq hq] at this
  simp [this]
/-- An item of an int's size. -/
def FitI (x : It) : Prop := x.x.1 ≤ 9223372036854775807 ∧ -9223372036854775808 ≤ x.x.2
/-- What the look answers. -/
def AnsI (e : Ending) (R : Option Int) (u : Bool) : Prop := match R with
  | none => e = .returned (.tuple #[.int .i64 0, .bool false])
  | some q => e = .returned (.tuple #[.int .i64 q, .bool u])

set_option maxRecDepth 10000 in
set_option maxHeartbeats 8000000 in
theorem l12Items_any (b : Int) (a : Option Addr) (ca : Nat) (a' : Option Addr) (n' ca' : Nat) (l : List Ex) (i : Option Addr) (ci : Nat) (t : List It) (w : World) (hb : 1 ≤ b ∧ b ≤ 400) (hl : l.length ≤ 1048576) (hlin : ∀ y, y ∈ l → inB b y = true) (hm : t.length ≤ 1048577) (hci : t.length ≤ ci) (hxi : ∀ x, x ∈ t → FitI x) (ha : Exs w a l) (hi : Its w i t) :
    Calls Try.prog 39 #[fv b a l.length ca a' n' ca', .slice i t.length ci] w fun e w' => Below w.heap.size w w' ∧ AnsI e (rnI b l [] 1 t) (decide (t.length ≤ 30)) := by
  obtain ⟨R, hR⟩ : ∃ R, rnI b l [] 1 t = R := ⟨_, rfl⟩
  rw [hR]
  have HR : Hid (R = rnI b l [] 1 t) := hR.symm
  have HA : Hid (RowX w a l.length (gx l)) := ha
  have HI : Hid (RowI w i t.length (gi t)) := hi
  have cE := fun (W : World) (x : It) (h : FitI x) => l5Extent_any x.x b W hb.1 hb.2 h.1 h.2
  have HX : Hid (∀ k, k < t.length → FitI (gi t k)) := fun k hk => by rw [gi_eq hk]; exact hxi _ (List.getElem_mem hk)
  have HB : Hid (∀ k, k < l.length → inB b (gx l k) = true) := fun k hk => by rw [gx_eq hk]; exact hlin _ (List.getElem_mem hk)
  clear hR ha hi hxi hlin
  have hb400 := hb.2
  have HDr : Hid (∀ k, k < t.length → t.drop k = gi t k :: t.drop (k + 1)) := fun k hk => drop_gi hk
  have HTk : Hid (∀ k, k < t.length → t.take (k + 1) = t.take k ++ [gi t k]) := fun k hk => take_gi hk
  have HLn : Hid (t.drop t.length = []) := List.drop_length
  have HTl : Hid (∀ k, (t.take k).length ≤ k) := fun k => by rw [List.length_take]; exact Nat.min_le_left _ _
  have HT1 : Hid (∀ (k q : Nat) (f : It → Bool), q < k → k ≤ t.length → f (gi t q) = true → (t.take k).any f = true) := fun k q f => any_take_true f
  have HT0 : Hid (∀ (k : Nat) (f : It → Bool), k ≤ t.length → (∀ q, q < k → f (gi t q) = false) → (t.take k).any f = false) := fun k f => any_take_false f
  have HTm : Hid (∀ (k q : Nat), q < k → k ≤ t.length → gi t q ∈ t.take k) := fun k q => mem_take_gi
  have HL1 : Hid (∀ (q : Nat) (f : Ex → Bool), q < l.length → f (gx l q) = true → l.any f = true) := fun q f => any_ex_true f
  have HL0 : Hid (∀ (f : Ex → Bool), (∀ q, q < l.length → f (gx l q) = false) → l.any f = false) := fun f => any_ex_false f
  obtain ⟨n, hnl⟩ : ∃ n, l.length = n := ⟨_, rfl⟩
  obtain ⟨m, hml⟩ : ∃ m, t.length = m := ⟨_, rfl⟩
  rw [hnl] at hl HA HB HL1 HL0
  rw [hml] at hm hci HI HX HDr HTk HLn HT1 HT0 HTm
  rw [hnl, hml]
  clear hnl hml
  generalize gx l = F at *
  obtain ⟨D, hD⟩ : ∃ D, w.heap.size = D := ⟨_, rfl⟩
  obtain ⟨W0, hW0⟩ : ∃ W0, w.alloc (.cells #[.int .i64 b, .slice a n ca, .slice a' n' ca'] 24) = W0 := ⟨_, rfl⟩
  have g0 : Below w.heap.size w W0 := by subst hW0; exact below_alloc _ _
  have H1 : Hid (W0.heap[D]? = some (.cells #[.int .i64 b, .slice a n ca, .slice a' n' ca'] 24 (0, 0))) := by subst hW0 hD; exact al1 _ _
  go_enter Try.func39, Try.ntmps39
  go_wp2
  clear hW0
  go_loopw [19, 6] (fun q sv wr => ∃ (k : Nat) (P : List It), k ≤ m ∧ q = .int .i64 k ∧ sv = .int .i64 ((P.length : Int) + 1) ∧ Hid (Inv b (t.take k) P) ∧ Hid (R = rnI b l (t.take k) ((P.length : Int) + 1) (t.drop k)) ∧ Below W0.heap.size W0 wr) (fun q _ _ => m - (intOf q).toNat)
  case atStart => exact ⟨0, [], Nat.zero_le _, rfl, rfl, by rw [List.take_zero]; exact Inv.nil b, by rw [List.take_zero, List.drop_zero]; exact HR.out, Below.refl _ _⟩
  case round =>
    obtain ⟨k, P, hk, rfl, rfl, HV, HQ, hb1⟩ := hrel
    have hbw := Below.comp g0 hb1
    by_cases hlt : k < m
    · have hPl : P.length ≤ 1048577 := by
        have h1 := Inv.len HV.out
        have h2 := HTl.out k
        omega
      obtain ⟨bb, off, rfl, hcell⟩ := (HI.out.below hbw) (by omega)
      obtain ⟨c0, c1, c2, c3, c4⟩ := hcell k hlt
      clear hcell
      have HIr : Hid (RowI wr (some ⟨bb, off, none⟩) m (gi t)) := HI.out.below hbw
      have hdr := HDr.out k hlt
      have hfx := HX.out k hlt
      have htk := HTk.out k hlt
      have HIx : Hid (∀ q, q < k → (gi t q).k = 1 → inB b (gi t q).x = true) := fun q hq h => Inv.insP HV.out (HTm.out k q hq (by omega)) h
      generalize gi t k = x at c0 c1 c2 c3 c4 hdr hfx htk
      have HQ' : Hid (R = if okI b l (t.take k) ((P.length : Int) + 1) x then rnI b l (t.take (k + 1)) (nxI ((P.length : Int) + 1) x) (t.drop (k + 1)) else none) := by
        have h := HQ.out
        rw [hdr] at h
        rw [htk]
        exact h
      have HN : Hid (okI b l (t.take k) ((P.length : Int) + 1) x = true → ∃ P', Inv b (t.take (k + 1)) P' ∧ nxI ((P.length : Int) + 1) x = (P'.length : Int) + 1) := fun h => by
        rw [htk]
        rcases step_same (pl := l) HV.out x with ⟨h1, _⟩ | ⟨_, P2, _, h3, h4⟩
        · rw [h1] at h; cases h
        · exact ⟨P2, h3, h4⟩
      have cEx := fun W => cE W x hfx
      clear hdr htk hfx
      obtain ⟨E, hE⟩ : ∃ E, wr.heap.size = E := ⟨_, rfl⟩
      obtain ⟨W1, hW1⟩ : ∃ W1, wr.alloc (.cells #[.int .i64 x.k, .int .i64 x.i, .int .i64 x.x.1, .int .i64 x.x.2, .int .i64 x.u] 71) = W1 := ⟨_, rfl⟩
      have b2 : Below wr.heap.size wr W1 := by subst hW1; exact below_alloc _ _
      have HE : Hid (W1.heap[E]? = some (.cells #[.int .i64 x.k, .int .i64 x.i, .int .i64 x.x.1, .int .i64 x.x.2, .int .i64 x.u] 71 (0, 0))) := by subst hW1 hE; exact al1 _ _
      have gW1 : Below w.heap.size w W1 := Below.comp hbw b2
      have HD1 : Hid (W1.heap[D]? = some (.cells #[.int .i64 b, .slice a n ca, .slice a' n' ca'] 24 (0, 0))) := box_on H1.out (Below.comp hb1 b2)
      have HbW : Hid (Below W0.heap.size W0 W1) := Below.comp hb1 b2
      have HI1 : Hid (RowI W1 (subI (some ⟨bb, off, none⟩) 0 ci) k (gi t)) := RowI.takeN (HIr.out.below b2) ci k (by omega)
      have hto := slice_toI (some ⟨bb, off, none⟩) m ci k (by omega)
      have HA1 : Hid (RowX W1 a n F) := HA.out.below gW1
      have HO1 : Hid (okI b l (t.take k) ((P.length : Int) + 1) x = if x.k = 1 then decide (x.i = (P.length : Int) + 1) && (decide (x.u = 0) && (inB b x.x && (!((t.take k).any fun o => decide (o.k = 1) && ov o.x x.x) && !(l.any fun o => ov o x.x)))) else decide (x.k = 2) && (decide (x.x = (0, 0)) && (decide (0 ≤ (fnd (t.take k) x.i).1) && (decide ((fnd (t.take k) x.i).2 + 1 ≤ x.u) && decide (x.u ≤ (fnd (t.take k) x.i).1))))) := rfl
      have HNx : Hid (nxI ((P.length : Int) + 1) x = if x.k = 1 then (P.length : Int) + 1 + 1 else (P.length : Int) + 1) := rfl
      generalize okI b l (t.take k) ((P.length : Int) + 1) x = ok at *
      generalize nxI ((P.length : Int) + 1) x = nxx at *
      obtain ⟨pk, pi, ⟨px, py⟩, pu⟩ := x
      simp only at c0 c1 c2 c3 c4 hW1 HE HO1 HNx cEx
      obtain ⟨e0, e1, e2, e3, e4⟩ := box5_cells HE.out
      obtain ⟨d0, d1, d2, -, -, -⟩ := box3_cells HD1.out
      obtain ⟨nx, hnx⟩ : ∃ nx, (P.length : Int) + 1 = nx := ⟨_, rfl⟩
      have Hnx : Hid ((P.length : Int) + 1 = nx) := hnx
      rw [hnx] at HO1 HNx
      rw [hnx]
      have hnx0 : 1 ≤ nx ∧ nx ≤ 1048578 := by omega
      clear hnx
      by_cases hk1 : (pk == 1) = true
      · have hk1p : pk = 1 := by simpa using hk1
        by_cases hq1 : (pi != nx) = true
        · have hok : ok = false := by
            rw [HO1.out, if_pos hk1p]
            have : decide (pi = nx) = false := by simpa using hq1
            rw [this]; rfl
          have hRn : R = none := by rw [HQ'.out, hok]; rfl
          subst hRn
          clear HQ' HN HO1 HNx hk1p hok
          go_wp2
          refine bodyPost_ret (v := .tuple #[.int .i64 0, .bool false]) (by simp [results, Try.results39, go_sem]) rfl ?_
          exact ⟨by first | exact gW1 | exact (hD ▸ gW1), by rfl⟩
        have hq1' : (pi != nx) = false := by simpa using hq1
        by_cases hq2 : (pu != 0) = true
        · have hok : ok = false := by
            rw [HO1.out, if_pos hk1p]
            have : decide (pu = 0) = false := by simpa using hq2
            rw [this]; simp
          have hRn : R = none := by rw [HQ'.out, hok]; rfl
          subst hRn
          clear HQ' HN HO1 HNx hk1p hok
          go_wp2
          refine bodyPost_ret (v := .tuple #[.int .i64 0, .bool false]) (by simp [results, Try.results39, go_sem]) rfl ?_
          exact ⟨by first | exact gW1 | exact (hD ▸ gW1), by rfl⟩
        have hq2' : (pu != 0) = false := by simpa using hq2
        cases hin : inB b (px, py) with
        | false =>
          have hok : ok = false := by
            rw [HO1.out, if_pos hk1p, hin]
            simp
          have hRn : R = none := by rw [HQ'.out, hok]; rfl
          subst hRn
          rw [hin] at cEx
          clear HQ' HN HO1 HNx hk1p hok hin
          go_wp2_with (go_at_call 59; refine (cEx _).mono ?_; rintro e w2 ⟨rfl, b3⟩)
          have gR := Below.comp gW1 b3
          go_wp2
          refine bodyPost_ret (v := .tuple #[.int .i64 0, .bool false]) (by simp [results, Try.results39, go_sem]) rfl ?_
          exact ⟨by first | exact gR | exact (hD ▸ gR), by rfl⟩
        | true =>
          rw [hin] at cEx
          have hfinx := fin_in hin hb400
          have HOK : Hid (ok = (!((t.take k).any fun o => decide (o.k = 1) && ov o.x (px, py)) && !(l.any fun o => ov o (px, py)))) := by
            have e1 : decide (pi = nx) = true := by simpa using hq1'
            have e2 : decide (pu = 0) = true := by simpa using hq2'
            show ok = _
            rw [HO1.out, if_pos hk1p, hin, e1, e2]
            simp
          have HNX : Hid (nxx = nx + 1) := by
            show nxx = _
            rw [HNx.out, if_pos hk1p]
          have HT1k : Hid (∀ q, q < k → (decide ((gi t q).k = 1) && ov (gi t q).x (px, py)) = true → ((t.take k).any fun o => decide (o.k = 1) && ov o.x (px, py)) = true) := fun q hq h => HT1.out k q (fun o => decide (o.k = 1) && ov o.x (px, py)) hq (by omega) h
          have HT0k : Hid ((∀ q, q < k → (decide ((gi t q).k = 1) && ov (gi t q).x (px, py)) = false) → ((t.take k).any fun o => decide (o.k = 1) && ov o.x (px, py)) = false) := fun h => HT0.out k (fun o => decide (o.k = 1) && ov o.x (px, py)) (by omega) h
          have HL1k : Hid (∀ q, q < n → ov (F q) (px, py) = true → (l.any fun o => ov o (px, py)) = true) := fun q hq h => HL1.out q (fun o => ov o (px, py)) hq h
          have HL0k : Hid ((∀ q, q < n → ov (F q) (px, py) = false) → (l.any fun o => ov o (px, py)) = false) := fun h => HL0.out (fun o => ov o (px, py)) h
          generalize ((t.take k).any fun o => decide (o.k = 1) && ov o.x (px, py)) = A1 at *
          generalize (l.any fun o => ov o (px, py)) = A2 at *
          clear HO1 HNx hk1p hin
          have cO := fun (W : World) (y : Ex) (h : inB b y = true) => l12Overlap_any y (px, py) W (fin_in h hb400) hfinx
          clear hfinx
          go_wp2_with (go_at_call 59; refine (cEx _).mono ?_; rintro e w2 ⟨rfl, b3⟩)
          clear hW1 c0 c1 c2 c3 c4 e0 e1 e2 e3 e4 d0 d1 d2 cEx
          have HEb : Hid (w2.heap[E]? = some (.cells #[.int .i64 pk, .int .i64 pi, .int .i64 px, .int .i64 py, .int .i64 pu] 71 (0, 0))) := box_on HE.out b3
          have HDb : Hid (w2.heap[D]? = some (.cells #[.int .i64 b, .slice a n ca, .slice a' n' ca'] 24 (0, 0))) := box_on HD1.out b3
          have HIb : Hid (RowI w2 (subI (some ⟨bb, off, none⟩) 0 ci) k (gi t)) := HI1.out.below b3
          have HAb : Hid (RowX w2 a n F) := HA1.out.below b3
          have gW2 : Below w.heap.size w w2 := Below.comp gW1 b3
          have HbW2 : Hid (Below W0.heap.size W0 w2) := Below.comp HbW.out b3
          generalize hsub : subI (some ⟨bb, off, none⟩) 0 ci = si at *
          clear hsub
          go_loopw [48] (fun q wr => ∃ (j : Nat), j ≤ k ∧ q = .int .i64 j ∧ Hid (∀ q, q < j → (decide ((gi t q).k = 1) && ov (gi t q).x (px, py)) = false) ∧ Below w2.heap.size w2 wr) (fun q _ => k - (intOf q).toNat)
          case atStart => exact ⟨0, Nat.zero_le _, rfl, fun q hq => absurd hq (by omega), Below.refl _ _⟩
          case round =>
            obtain ⟨j, hj, rfl, HJ, hbq⟩ := hrel
            by_cases hjk : j < k
            · obtain ⟨gb, go, rfl, hcm⟩ := (HIb.out.below hbq) (by omega)
              obtain ⟨c0, c1, c2, c3, c4⟩ := hcm j hjk
              clear hcm
              have hjk' : (j : Int) < (k : Int) := by omega
              have hix := HIx.out j hjk
              have h1k := HT1k.out j hjk
              have hjn : (decide ((gi t j).k = 1) && ov (gi t j).x (px, py)) = false → ∀ q, q < j + 1 → (decide ((gi t q).k = 1) && ov (gi t q).x (px, py)) = false := fun h q hq => by
                by_cases e : q = j
                · subst e; exact h
                · exact HJ.out q (by omega)
              generalize gi t j = y at c0 c1 c2 c3 c4 hix h1k hjn
              obtain ⟨qk, qi, ⟨qx, qy⟩, qu⟩ := y
              simp only at c0 c1 c2 c3 c4 hix h1k hjn
              have HIX : Hid (qk = 1 → inB b (qx, qy) = true) := hix
              have H1K : Hid ((decide (qk = 1) && ov (qx, qy) (px, py)) = true → A1 = true) := h1k
              have HJN : Hid ((decide (qk = 1) && ov (qx, qy) (px, py)) = false → ∀ q, q < j + 1 → (decide ((gi t q).k = 1) && ov (gi t q).x (px, py)) = false) := hjn
              clear hix h1k hjn
              obtain ⟨G, hG⟩ : ∃ G, wr.heap.size = G := ⟨_, rfl⟩
              obtain ⟨W3, hW3⟩ : ∃ W3, wr.alloc (.cells #[.int .i64 qk, .int .i64 qi, .int .i64 qx, .int .i64 qy, .int .i64 qu] 71) = W3 := ⟨_, rfl⟩
              have b4 : Below wr.heap.size wr W3 := by subst hW3; exact below_alloc _ _
              have B4 : W3.heap[G]? = some (.cells #[.int .i64 qk, .int .i64 qi, .int .i64 qx, .int .i64 qy, .int .i64 qu] 71 (0, 0)) := by subst hW3 hG; exact al1 _ _
              obtain ⟨r0, r1, r2, r3, r4⟩ := box5_cells B4
              obtain ⟨e0, e1, e2, e3, e4⟩ := box5_cells (box_on HEb.out (Below.comp hbq b4))
              clear B4
              have b5 := Below.comp hbq b4
              by_cases hy1 : (qk == 1) = true
              · have hy1p : qk = 1 := by simpa using hy1
                have cOy := fun W => cO W (qx, qy) (HIX.out hy1p)
                cases hov : ov (qx, qy) (px, py) with
                | true =>
                  have hA : A1 = true := H1K.out (by rw [hov]; simpa using hy1p)
                  have hok : ok = false := by rw [HOK.out, hA]; rfl
                  have hRn : R = none := by rw [HQ'.out, hok]; rfl
                  subst hRn
                  rw [hov] at cOy
                  clear HQ' HN hy1p hok hA hov HOK
                  go_wp2_with (go_at_call 60; refine (cOy _).mono ?_; rintro e w4 ⟨rfl, b6⟩)
                  have gR := Below.comp gW2 (Below.comp b5 b6)
                  go_wp2
                  refine bodyPost_ret (v := .tuple #[.int .i64 0, .bool false]) (by simp [results, Try.results39, go_sem]) rfl ?_
                  exact ⟨by first | exact gR | exact (hD ▸ gR), by rfl⟩
                | false =>
                  have hjn' := HJN.out (by rw [hov]; simp)
                  have HJ' : Hid (∀ q, q < j + 1 → (decide ((gi t q).k = 1) && ov (gi t q).x (px, py)) = false) := hjn'
                  rw [hov] at cOy
                  clear hjn' hov hy1p HJN H1K
                  go_wp2_with (go_at_call 60; refine (cOy _).mono ?_; rintro e w4 ⟨rfl, b6⟩)
                  go_roundw
                  case rel => exact ⟨j + 1, by omega, by go_num, HJ', Below.comp b5 b6⟩
                  case measure => simp [intOf]; omega
              · have hy1' : (qk == 1) = false := by simpa using hy1
                have hjn' := HJN.out (by
                  have : decide (qk = 1) = false := by simpa using hy1'
                  rw [this]; rfl)
                have HJ' : Hid (∀ q, q < j + 1 → (decide ((gi t q).k = 1) && ov (gi t q).x (px, py)) = false) := hjn'
                clear hjn' hy1 HJN H1K
                go_wp2
                go_roundw
                case rel => exact ⟨j + 1, by omega, by go_num, HJ', b5⟩
                case measure => simp [intOf]; omega
            · have hjk' : j = k := by omega
              subst hjk'
              have hA1 : A1 = false := HT0k.out HJ.out
              have HA1f : Hid (A1 = false) := hA1
              clear hA1 HJ HT0k HT1k
              have HEc : Hid (wr.heap[E]? = some (.cells #[.int .i64 pk, .int .i64 pi, .int .i64 px, .int .i64 py, .int .i64 pu] 71 (0, 0))) := box_on HEb.out hbq
              have HDc : Hid (wr.heap[D]? = some (.cells #[.int .i64 b, .slice a n ca, .slice a' n' ca'] 24 (0, 0))) := box_on HDb.out hbq
              have HAc : Hid (RowX wr a n F) := HAb.out.below hbq
              have gWc : Below w.heap.size w wr := Below.comp gW2 hbq
              have HbWc : Hid (Below W0.heap.size W0 wr) := Below.comp HbW2.out hbq
              obtain ⟨wc, hwc⟩ : ∃ wc, wr = wc := ⟨_, rfl⟩
              rw [hwc] at HEc HDc HAc gWc HbWc ⊢
              clear hwc
              obtain ⟨d0, d1, d2, -, -, -⟩ := box3_cells HDc.out
              go_wp2
              clear d0 d1 d2
              go_loopw [66] (fun q wr => ∃ (z : Nat), z ≤ n ∧ q = .int .i64 z ∧ Hid (∀ q, q < z → ov (F q) (px, py) = false) ∧ Below wc.heap.size wc wr) (fun q _ => n - (intOf q).toNat)
              case atStart => exact ⟨0, Nat.zero_le _, rfl, fun q hq => absurd hq (by omega), Below.refl _ _⟩
              case round =>
                obtain ⟨z, hz, rfl, HZ, hbz⟩ := hrel
                by_cases hzn : z < n
                · obtain ⟨gb, go, rfl, hcm⟩ := (HAc.out.below hbz) (by omega)
                  obtain ⟨c0, c1⟩ := hcm z hzn
                  clear hcm
                  have hzn' : (z : Int) < (n : Int) := by omega
                  have hix := HB.out z hzn
                  have h1k := HL1k.out z hzn
                  have hjn : ov (F z) (px, py) = false → ∀ q, q < z + 1 → ov (F q) (px, py) = false := fun h q hq => by
                    by_cases e : q = z
                    · subst e; exact h
                    · exact HZ.out q (by omega)
                  generalize F z = y at c0 c1 hix h1k hjn
                  obtain ⟨qx, qy⟩ := y
                  simp only at c0 c1
                  have H1K : Hid (ov (qx, qy) (px, py) = true → A2 = true) := h1k
                  have HJN : Hid (ov (qx, qy) (px, py) = false → ∀ q, q < z + 1 → ov (F q) (px, py) = false) := hjn
                  have cOy := fun W => cO W (qx, qy) hix
                  clear hix h1k hjn
                  obtain ⟨G, hG⟩ : ∃ G, wr.heap.size = G := ⟨_, rfl⟩
                  obtain ⟨W3, hW3⟩ : ∃ W3, wr.alloc (.cells #[.int .i64 qx, .int .i64 qy] 47) = W3 := ⟨_, rfl⟩
                  have b4 : Below wr.heap.size wr W3 := by subst hW3; exact below_alloc _ _
                  have B4 : W3.heap[G]? = some (.cells #[.int .i64 qx, .int .i64 qy] 47 (0, 0)) := by subst hW3 hG; exact al1 _ _
                  obtain ⟨r0, r1, -, -⟩ := box2_cells B4
                  obtain ⟨e0, e1, e2, e3, e4⟩ := box5_cells (box_on HEc.out (Below.comp hbz b4))
                  clear B4
                  have b5 := Below.comp hbz b4
                  cases hov : ov (qx, qy) (px, py) with
                  | true =>
                    have hA : A2 = true := H1K.out hov
                    have hok : ok = false := by rw [HOK.out, hA]; simp
                    have hRn : R = none := by rw [HQ'.out, hok]; rfl
                    subst hRn
                    rw [hov] at cOy
                    clear HQ' HN hok hA hov HOK
                    go_wp2_with (go_at_call 60; refine (cOy _).mono ?_; rintro e w4 ⟨rfl, b6⟩)
                    have gR := Below.comp gWc (Below.comp b5 b6)
                    go_wp2
                    refine bodyPost_ret (v := .tuple #[.int .i64 0, .bool false]) (by simp [results, Try.results39, go_sem]) rfl ?_
                    exact ⟨by first | exact gR | exact (hD ▸ gR), by rfl⟩
                  | false =>
                    have hjn' := HJN.out hov
                    have HJ' : Hid (∀ q, q < z + 1 → ov (F q) (px, py) = false) := hjn'
                    rw [hov] at cOy
                    clear hjn' hov HJN H1K
                    go_wp2_with (go_at_call 60; refine (cOy _).mono ?_; rintro e w4 ⟨rfl, b6⟩)
                    go_roundw
                    case rel => exact ⟨z + 1, by omega, by go_num, HJ', Below.comp b5 b6⟩
                    case measure => simp [intOf]; omega
                · have hzn' : z = n := by omega
                  subst hzn'
                  have hA2 : A2 = false := HL0k.out HZ.out
                  have hok : ok = true := by rw [HOK.out, HA1f.out, hA2]; rfl
                  obtain ⟨P', hI', hL'⟩ := HN.out hok
                  have hR' : R = rnI b l (t.take (j + 1)) ((P'.length : Int) + 1) (t.drop (j + 1)) := by
                    have h := HQ'.out
                    rw [hok, if_pos rfl, hL'] at h
                    exact h
                  have hL2 : nx + 1 = (P'.length : Int) + 1 := by rw [← HNX.out]; exact hL'
                  have HI2 : Hid (Inv b (t.take (j + 1)) P') := hI'
                  have HR2 : Hid (R = rnI b l (t.take (j + 1)) ((P'.length : Int) + 1) (t.drop (j + 1))) := hR'
                  have HL2 : Hid (nx + 1 = (P'.length : Int) + 1) := hL2
                  have ewx : IntKind.i64.wrap (nx + 1) = nx + 1 := wrapI (by omega) (by omega)
                  clear hA2 hok hI' hL' hR' hL2 HN HQ' HOK
                  go_wp2
                  go_roundw
                  case rel => exact ⟨j + 1, P', by omega, by go_num, by rw [← HL2.out], HI2, HR2, Below.comp HbWc.out hbz⟩
                  case measure => simp [intOf]; omega
      · have hk1' : (pk == 1) = false := by simpa using hk1
        have hk1p : ¬ pk = 1 := by simpa using hk1'
        have HOK : Hid (ok = (decide (pk = 2) && (decide ((px, py) = (0, 0)) && (decide (0 ≤ (fnd (t.take k) pi).1) && (decide ((fnd (t.take k) pi).2 + 1 ≤ pu) && decide (pu ≤ (fnd (t.take k) pi).1)))))) := by
          show ok = _
          rw [HO1.out, if_neg hk1p]
        have HNX : Hid (nxx = nx) := by
          show nxx = _
          rw [HNx.out, if_neg hk1p]
        have hfb := Inv.fndB HV.out hb400 pi
        have HF0 : Hid (fnd (t.take 0) pi = (-1, 0)) := by
          show fnd _ _ = _
          rw [List.take_zero]; rfl
        have HFs : Hid (∀ j, j < m → fnd (t.take (j + 1)) pi = fst1 pi (fnd (t.take j) pi) (gi t j)) := fun j hj => by
          rw [HTk.out j hj, fnd_snoc]
        have hne : ∀ W, (binOp .neq 47 (.agg #[.int .i64 px, .int .i64 py]) (.agg #[.int .i64 0, .int .i64 0])).run Try.prog W = .ok (.bool (!decide (((px, py) : Ex) = (0, 0)))) W := fun W => neqX.1 (px, py) (0, 0) W
        have hgu : ∀ (o1 o2 : Operand) (xs ys : Array Value) (W : World), (eqGuard .neq 47 o1 o2 (.agg xs) (.agg ys)).run Try.prog W = .ok () W := fun o1 o2 xs ys W => run_eqGuard_agg W .neq _ o1 o2 xs ys (by kernel_rfl)
        clear HO1 HNx hk1p hk1 cEx
        go_wp2
        clear hW1 c0 c1 c2 c3 c4 e0 e1 e2 e3 e4 d0 d1 d2
        generalize hsub : subI (some ⟨bb, off, none⟩) 0 ci = si at *
        clear hsub
        go_loopw [81, 13, 14] (fun q su sl wr => ∃ (j : Nat), j ≤ k ∧ q = .int .i64 j ∧ su = .int .i64 (fnd (t.take j) pi).2 ∧ sl = .int .i64 (fnd (t.take j) pi).1 ∧ Below W1.heap.size W1 wr) (fun q _ _ _ => k - (intOf q).toNat)
        case atStart => exact ⟨0, Nat.zero_le _, rfl, by rw [HF0.out], by rw [HF0.out], Below.refl _ _⟩
        case round =>
          obtain ⟨j, hj, rfl, rfl, rfl, hbq⟩ := hrel
          by_cases hjk : j < k
          · obtain ⟨gb, go, rfl, hcm⟩ := (HI1.out.below hbq) (by omega)
            obtain ⟨c0, c1, c2, c3, c4⟩ := hcm j hjk
            clear hcm
            have hjk' : (j : Int) < (k : Int) := by omega
            have hfs := HFs.out j (by omega)
            generalize gi t j = y at c0 c1 c2 c3 c4 hfs
            generalize fnd (t.take j) pi = S at *
            obtain ⟨S', hSN⟩ : ∃ S', fnd (t.take (j + 1)) pi = S' := ⟨_, rfl⟩
            have HSN : Hid (fnd (t.take (j + 1)) pi = S') := hSN
            rw [hSN] at hfs
            clear hSN
            obtain ⟨qk, qi, ⟨qx, qy⟩, qu⟩ := y
            obtain ⟨sl, su⟩ := S
            simp only at c0 c1 c2 c3 c4
            unfold fst1 at hfs
            simp only at hfs
            have HFS : Hid (S' = if qi = pi then (if qk = 1 then qy else sl, qu) else (sl, su)) := hfs
            clear hfs
            obtain ⟨G, hG⟩ : ∃ G, wr.heap.size = G := ⟨_, rfl⟩
            obtain ⟨W3, hW3⟩ : ∃ W3, wr.alloc (.cells #[.int .i64 qk, .int .i64 qi, .int .i64 qx, .int .i64 qy, .int .i64 qu] 71) = W3 := ⟨_, rfl⟩
            have b4 : Below wr.heap.size wr W3 := by subst hW3; exact below_alloc _ _
            have B4 : W3.heap[G]? = some (.cells #[.int .i64 qk, .int .i64 qi, .int .i64 qx, .int .i64 qy, .int .i64 qu] 71 (0, 0)) := by subst hW3 hG; exact al1 _ _
            obtain ⟨r0, r1, r2, r3, r4⟩ := box5_cells B4
            obtain ⟨e0, e1, e2, e3, e4⟩ := box5_cells (box_on HE.out (Below.comp hbq b4))
            clear B4
            have b5 := Below.comp hbq b4
            by_cases hy : (qi != pi) = true
            · have hS : S' = (sl, su) := by
                rw [HFS.out, if_neg (by simpa using hy)]
              subst hS
              clear HFS
              go_wp2
              go_roundw
              case rel => exact ⟨j + 1, by omega, by go_num, by rw [HSN.out], by rw [HSN.out], b5⟩
              case measure => simp [intOf]; omega
            · have hy' : (qi != pi) = false := by simpa using hy
              by_cases hy1 : (qk == 1) = true
              · have hS : S' = (qy, qu) := by
                  rw [HFS.out, if_pos (by simpa using hy'), if_pos (by simpa using hy1)]
                subst hS
                clear HFS hy
                go_wp2
                go_roundw
                case rel => exact ⟨j + 1, by omega, by go_num, by rw [HSN.out], by rw [HSN.out], b5⟩
                case measure => simp [intOf]; omega
              · have hy1' : (qk == 1) = false := by simpa using hy1
                have hS : S' = (sl, qu) := by
                  rw [HFS.out, if_pos (by simpa using hy'), if_neg (by simpa using hy1)]
                subst hS
                clear HFS hy hy1
                go_wp2
                go_roundw
                case rel => exact ⟨j + 1, by omega, by go_num, by rw [HSN.out], by rw [HSN.out], b5⟩
                case measure => simp [intOf]; omega
          · have hjk' : j = k := by omega
            subst hjk'
            generalize fnd (t.take j) pi = S at *
            obtain ⟨sl, su⟩ := S
            simp only at HOK hfb
            have gWc : Below w.heap.size w wr := Below.comp gW1 hbq
            have HbWc : Hid (Below W0.heap.size W0 wr) := Below.comp HbW.out hbq
            obtain ⟨e0, e1, e2, e3, e4⟩ := box5_cells (box_on HE.out hbq)
            have ew : IntKind.i64.wrap (su + 1) = su + 1 := wrapI (by omega) (by omega)
            have cL := fun W => l1In_any pu (su + 1) sl W
            by_cases h2 : (pk != 2) = true
            · have hok : ok = false := by
                rw [HOK.out]
                have : decide (pk = 2) = false := by simpa using h2
                rw [this]; rfl
              have hRn : R = none := by rw [HQ'.out, hok]; rfl
              subst hRn
              clear HQ' HN HOK hok
              go_wp2
              refine bodyPost_ret (v := .tuple #[.int .i64 0, .bool false]) (by simp [results, Try.results39, go_sem]) rfl ?_
              exact ⟨by first | exact gWc | exact (hD ▸ gWc), by rfl⟩
            have h2' : (pk != 2) = false := by simpa using h2
            cases hz : decide (((px, py) : Ex) = (0, 0)) with
            | false =>
              have hok : ok = false := by
                rw [HOK.out, hz]
                simp
              have hRn : R = none := by rw [HQ'.out, hok]; rfl
              subst hRn
              rw [hz] at hne
              clear HQ' HN HOK hok hz
              go_wp2
              refine bodyPost_ret (v := .tuple #[.int .i64 0, .bool false]) (by simp [results, Try.results39, go_sem]) rfl ?_
              exact ⟨by first | exact gWc | exact (hD ▸ gWc), by rfl⟩
            | true =>
              rw [hz] at hne
              by_cases h3 : sl < 0
              · have hok : ok = false := by
                  rw [HOK.out]
                  have : decide (0 ≤ sl) = false := by simp; omega
                  rw [this]; simp
                have hRn : R = none := by rw [HQ'.out, hok]; rfl
                subst hRn
                clear HQ' HN HOK hok hz
                go_wp2
                refine bodyPost_ret (v := .tuple #[.int .i64 0, .bool false]) (by simp [results, Try.results39, go_sem]) rfl ?_
                exact ⟨by first | exact gWc | exact (hD ▸ gWc), by rfl⟩
              cases hin : (decide (su + 1 ≤ pu) && decide (pu ≤ sl)) with
              | false =>
                have hok : ok = false := by
                  rw [HOK.out, hin]
                  simp
                have hRn : R = none := by rw [HQ'.out, hok]; rfl
                subst hRn
                rw [hin] at cL
                clear HQ' HN HOK hok hz hin
                go_wp2_with (go_at_call 30; refine (cL _).mono ?_; rintro e w2 ⟨rfl, rfl⟩)
                refine bodyPost_ret (v := .tuple #[.int .i64 0, .bool false]) (by simp [results, Try.results39, go_sem]) rfl ?_
                exact ⟨by first | exact gWc | exact (hD ▸ gWc), by rfl⟩
              | true =>
                rw [hin] at cL
                have hok : ok = true := by
                  rw [HOK.out, hz, hin]
                  have e1 : decide (pk = 2) = true := by simpa using h2'
                  have e2 : decide (0 ≤ sl) = true := by simp; omega
                  rw [e1, e2]; rfl
                obtain ⟨P', hI', hL'⟩ := HN.out hok
                have hR' : R = rnI b l (t.take (j + 1)) ((P'.length : Int) + 1) (t.drop (j + 1)) := by
                  have h := HQ'.out
                  rw [hok, if_pos rfl, hL'] at h
                  exact h
                have hL2 : nx = (P'.length : Int) + 1 := by rw [← HNX.out]; exact hL'
                have HI2 : Hid (Inv b (t.take (j + 1)) P') := hI'
                have HR2 : Hid (R = rnI b l (t.take (j + 1)) ((P'.length : Int) + 1) (t.drop (j + 1))) := hR'
                have HL2 : Hid (nx = (P'.length : Int) + 1) := hL2
                clear hok hI' hL' hR' hL2 HN HQ' HOK hz hin
                go_wp2_with (go_at_call 30; refine (cL _).mono ?_; rintro e w2 ⟨rfl, rfl⟩)
                go_roundw
                case rel => exact ⟨j + 1, P', by omega, by go_num, by rw [← HL2.out], HI2, HR2, HbWc.out⟩
                case measure => simp [intOf]; omega
    · have hkm : k = m := by omega
      subst hkm
      have hR : R = some ((P.length : Int) + 1) := by rw [HQ.out, HLn.out]; rfl
      subst hR
      have hPl : P.length ≤ 1048577 := by
        have h1 := Inv.len HV.out
        have h2 := HTl.out k
        omega
      clear HQ HR
      generalize hpn : P.length = pn at *
      go_wp2
      refine bodyPost_ret (v := .tuple #[.int .i64 ((pn : Int) + 1), .bool (decide (k ≤ 30))]) (by simp [results, Try.results39, go_sem]; first | done | omega) rfl ?_
      exact ⟨by first | exact hbw | exact (hD ▸ hbw), by show AnsI _ (some _) _; unfold AnsI; first | rfl | (rw [hpn])⟩
end Go.Proofs.Ytpolhigpcllhiaa
