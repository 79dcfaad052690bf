import Derived.Test.YtienhdlhlddemaaE4
import Derived.Test.YtienhdlhlddemaaOL
/- The program: how often each cell is met on all ways down. -/
namespace Go.Proofs.Ytienhdlhlddemaa.Hd
set_option linter.unusedVariables false
theorem mt_m1 (L : List Ce) (l : Nat) (s : List Int) : mt L l s (-1) = s := by cases l <;> (unfold mt; rfl)
theorem mt_nat {L : List Ce} {l q : Nat} {s : List Int} (hq : q < s.length) : mt L (l + 1) s (q : Int) =
    if gi s q + 1 = 1 then (gc L q).kd.foldl (mt L l) (s.set q (gi s q + 1)) else s.set q (gi s q + 1) := by
  rw [mt, if_neg (by omega), Int.toNat_natCast]
  have e : inc s (q : Int) = s.set q (gi s q + 1) := rfl
  rw [e, gi_set hq]
theorem fold_m1 {L : List Ce} {l : Nat} : ∀ {K s : List Int}, (∀ x, x ∈ K → x = -1) → K.foldl (mt L l) s = s := by
  intro K
  induction K with
  | nil => intro s _; rfl
  | cons k K ih => intro s h; rw [List.foldl_cons, h k (by simp), mt_m1]; exact ih (fun x hx => h x (by simp [hx]))
/-- Counts stay below a bound. -/
theorem mt_bd {L : List Ce} (hok : ∀ i, i < L.length → okC (gc L i) = true) {l : Nat} {K s : List Int} (hK : ∀ x, x ∈ K → isO L l x = true) (hs : Nn s) (hl : s.length = L.length) (y : Nat) : gi (K.foldl (mt L l) s) y ≤ gi s y + ((K.length * TT 4 l : Nat) : Int) := by
  cases l with
  | zero =>
    rw [fold_m1 (fun x hx => by have := hK x hx; simpa [isO] using this)]
    omega
  | succ l =>
    have hd := foldM_isO (fun s k hi hs hl => deep_isO hok (l + 1) s k (by omega) hi hs hl) K s hK hs hl
    have hK4 : ∀ i, i < L.length → (gc L i).kd.length ≤ 4 := fun i hi => by
      have ho := hok i hi
      unfold okC at ho
      split at ho
      · simp at ho; rw [ho.2]; simp
      · split at ho
        · rename_i h; rw [h]; simp
        · simp at ho; omega
    exact (deep_foldTT (deep_TT hK4 (l + 1)) K s _ hl hd).2 y
theorem TT4 {l : Nat} (h : l ≤ 3) : TT 4 l ≤ 21 := by
  match l, h with
  | 0, _ => decide
  | 1, _ => decide
  | 2, _ => decide
  | 3, _ => decide
theorem okC_kids {L : List Ce} {l q : Nat} (h : isO L (l + 1) (q : Int) = true) : q < L.length ∧ (gc L q).ct ≠ 0 ∧ ((gc L q).kd = [] ↔ l = 0) ∧ ∀ x, x ∈ (gc L q).kd → isO L l x = true := by
  rcases isO_succ.1 h with e | ⟨h1, h2, h3, h4⟩
  · omega
  · rw [Int.toNat_natCast] at h2 h3 h4
    exact ⟨by have := h1.2; omega, h2, h3, h4⟩
end Go.Proofs.Ytienhdlhlddemaa.Hd
namespace Go.Proofs.Ytienhdlhlddemaa
open Go.ChangeShapes Go.WideShapes Go.ChangeAt Go.RowKit
set_option linter.unusedVariables false
open Hd

attribute [local go_sem] Oper.semAt_some
attribute [local go_sem] m_leaf m_fork

theorem isO_any {L : List Ce} (hok : ∀ i, i < L.length → okC (gc L i) = true) (hn : L.length ≤ 80) {ns rs : List Int} {lv : Int} (w0 : World) (v : Value) (ho : OpAt w0 v L ns rs lv) :
    ∀ (l : Nat), 1 ≤ l → l ≤ 3 → ∀ (k : Int) (w : World), Below w0.heap.size w0 w → Calls Try.prog 47 #[v, .int .i64 k, .int .i64 (l : Int)] w fun e w' => e = .returned (.bool (isO L l k)) ∧ Below w.heap.size w w' := by
  intro l
  induction l with
  | zero => intro h; omega
  | succ l ih =>
    intro _ h3 k w hb
    exact isO_step hok hn w0 v ho l (by omega) (fun h0 => ih (by omega) (by omega)) k w hb
/-- What is met is told in the row. -/
def MeetR (s' : List Int) (g : Nat) (w : World) (e : Ending) (w' : World) : Prop := e = .returned (.tuple #[]) ∧ Out g (g + 1) w w' ∧ Row w' g s'
set_option maxHeartbeats 2000000 in
set_option maxRecDepth 20000 in
theorem meet_step {L : List Ce} (hok : ∀ i, i < L.length → okC (gc L i) = true) (hn : L.length ≤ 80) {ns rs : List Int} {lv : Int} (w0 : World) (v : Value) (ho : OpAt w0 v L ns rs lv) (l : Nat) (hl3 : l ≤ 3)
    (IH : l ≠ 0 → ∀ (K s : List Int) (b : Option Addr) (cap g : Nat) (w : World), w0.heap.size ≤ g → Below w0.heap.size w0 w → Row w g s → s.length = L.length → Nn s → K.length ≤ 8 → (∀ y, gi s y + ((K.length * TT 4 (l - 1) : Nat) : Int) ≤ 4611686018427387904) → (∀ x, x ∈ K → isO L (l - 1) x = true) → (∀ W, Out g (g + 1) w W → Ints W b K) →
      Calls Try.prog 50 #[v, .slice b K.length cap, .slice (some ⟨g, 0, none⟩) L.length L.length] w (MeetR (K.foldl (mt L (l - 1)) s) g w))
    (K s : List Int) (b : Option Addr) (cap g : Nat) (w : World) (hg : w0.heap.size ≤ g) (hb : Below w0.heap.size w0 w) (hs : Row w g s) (hsl : s.length = L.length) (hnn : Nn s) (hKn : K.length ≤ 8) (hm : ∀ y, gi s y + ((K.length * TT 4 l : Nat) : Int) ≤ 4611686018427387904) (hKo : ∀ x, x ∈ K → isO L l x = true) (hK : ∀ W, Out g (g + 1) w W → Ints W b K) :
    Calls Try.prog 50 #[v, .slice b K.length cap, .slice (some ⟨g, 0, none⟩) L.length L.length] w (MeetR (K.foldl (mt L l) s) g w) := by
  have ho0 := ho
  obtain ⟨a, ka, b1, kb, c, kc, rfl, -, -, -, hC, -, -⟩ := ho
  obtain ⟨W0, hW0⟩ : ∃ W0, w.alloc (.cells #[.slice a L.length ka, .slice b1 ns.length kb, .slice c rs.length kc, .int .i64 lv] 47) = W0 := ⟨_, rfl⟩
  have q0 : Below w.heap.size w W0 := by subst hW0; exact below_alloc _ _
  have H1 : Hid (W0.heap[w.heap.size]? = some (.cells #[.slice a L.length ka, .slice b1 ns.length kb, .slice c rs.length kc, .int .i64 lv] 47 (0, 0))) := by subst hW0; exact al1 _ _
  have hgw := hs.lt
  have HS : Hid (Row W0 g s) := hs.below q0
  have HBW : Hid (∀ W, Out g (g + 1) w W → Below w0.heap.size w0 W) := fun W ho => hb.trans ((ho.below (by omega)).mono hg)
  have HC : Hid (∀ W, Below w0.heap.size w0 W → Cws W a L) := fun W h => hC.below h
  have HIH : Hid _ := IH
  have Hsl : Hid (s.length = L.length) := hsl
  have HKo : Hid _ := hKo
  have HK : Hid _ := hK
  have Hm : Hid (∀ y, gi s y + ((K.length * TT 4 l : Nat) : Int) ≤ 4611686018427387904) := hm
  have Hok : Hid _ := hok
  have Hnn : Hid (Nn s) := hnn
  clear IH hC hsl hKo hK hm hok hnn ho0
  unfold ov at *
  obtain ⟨m, hm⟩ : ∃ m, K.length = m := ⟨_, rfl⟩
  have HM : Hid _ := hm
  rw [hm] at hKn ⊢
  clear hm
  go_enter Try.func50, Try.ntmps50
  go_wp2
  clear hW0
  go_loopw [10] (fun s10 wr => ∃ j : Nat, j ≤ m ∧ s10 = .int .i64 j ∧ Hid (Row wr g ((K.take j).foldl (mt L l) s)) ∧ Out g (g + 1) W0 wr) (fun s10 _ => m - (intOf s10).toNat)
  case atStart => exact ⟨0, Nat.zero_le _, rfl, HS.out, Out.refl _ _ _⟩
  case round =>
    obtain ⟨j, hj, rfl, HR, how⟩ := hrel
    have ho1 : Out g (g + 1) w wr := (Out.of_below q0).trans how
    have hbw := HBW.out wr ho1
    obtain ⟨⟨y0, y1, y2, y3⟩, -⟩ := box4_cells (box_out H1.out how (by omega))
    by_cases hlt : j < m
    · obtain ⟨kb', ko, rfl, hcc⟩ := HK.out wr ho1 (by have := HM.out; omega)
      have hj' : j < K.length := by rw [HM.out]; exact hlt
      have c0 : wr.cell? ⟨kb', ko + j, none⟩ = some (.int .i64 (gi K j)) := hcc j hj'
      clear hcc
      have hxo := HKo.out (gi K j) (by rw [gi_eq hj']; exact List.getElem_mem _)
      have HT1 : Hid ((K.take (j + 1)).foldl (mt L l) s = mt L l ((K.take j).foldl (mt L l) s) (gi K j)) := by
        show _ = _
        rw [List.take_succ_eq_append_getElem hj', List.foldl_append, gi_eq hj']
        rfl
      have hsn : Nn ((K.take j).foldl (mt L l) s) := foldl_nn (mt_nn L l) _ _ Hnn.out
      have hsl1 : ((K.take j).foldl (mt L l) s).length = L.length := by rw [foldl_len (mt_len L l)]; exact Hsl.out
      have hbd := mt_bd Hok.out (l := l) (K := K.take j) (s := s) (fun x hx => HKo.out x (List.mem_of_mem_take hx)) Hnn.out Hsl.out
      have hbd2 : Hid (∀ y, gi ((K.take j).foldl (mt L l) s) y + TT 4 l ≤ 4611686018427387904) := fun y => by
        have u1 := hbd y
        have u2 := Hm.out y
        have u3 : (j + 1) * TT 4 l ≤ K.length * TT 4 l := Nat.mul_le_mul_right _ (by omega)
        rw [List.length_take, Nat.min_eq_left (by omega)] at u1
        rw [Nat.add_mul, Nat.one_mul] at u3
        omega
      clear hbd
      generalize (K.take j).foldl (mt L l) s = sj at *
      generalize gi K j = x at *
      by_cases hx1 : x = -1
      · subst hx1
        rw [mt_m1] at HT1
        clear hxo hbd2
        go_wp2
        go_roundw
        case rel => exact ⟨j + 1, by omega, by go_num, by rw [HT1.out]; exact HR.out, how⟩
        case measure => simp [intOf]; omega
      · obtain ⟨l', rfl⟩ : ∃ l', l = l' + 1 := by
          cases l with
          | zero => simp [isO] at hxo; exact absurd hxo hx1
          | succ l' => exact ⟨l', rfl⟩
        obtain ⟨q, rfl⟩ : ∃ q : Nat, x = q := by
          rcases isO_succ.1 hxo with e | ⟨h1, -⟩
          · exact absurd e hx1
          · exact ⟨x.toNat, by have := h1.1; omega⟩
        obtain ⟨hq, hct, hkz, hkids⟩ := okC_kids hxo
        rw [mt_nat (by omega)] at HT1
        have hkn : (q : Int) < (L.length : Int) := by omega
        have hq1 : ((q : Int) == -1) = false := by simp
        obtain ⟨s0, f0⟩ := HR.out.cell (i := q) (by omega)
        have hzq := hbd2.out q
        have hzn := hsn q
        have hTp : 0 ≤ ((TT 4 (l' + 1) : Nat) : Int) := Int.natCast_nonneg _
        have e1 : IntKind.i64.wrap (gi sj q + 1) = gi sj q + 1 := wrapI (by omega) (by omega)
        obtain ⟨W2, hW2⟩ : ∃ W2, wr.setCell ⟨g, q, none⟩ (.int .i64 (gi sj q + 1)) = W2 := ⟨_, rfl⟩
        have o2 : Out g (g + 1) wr W2 := by subst hW2; exact out_setCell _ _ _ _
        have HR2 : Hid (Row W2 g (sj.set q (gi sj q + 1))) := by subst hW2; exact HR.out.set _ _
        obtain ⟨t0, -⟩ := HR2.out.cell (i := q) (by simp; omega)
        rw [gi_set (by omega)] at t0
        have hnn2 : Hid (Nn (sj.set q (gi sj q + 1))) := by have := hsn.inc (k := (q : Int)); exact this
        have hsl2 : Hid ((sj.set q (gi sj q + 1)).length = L.length) := by show _ = _; simpa using hsl1
        have hset : Hid (∀ y, gi (sj.set q (gi sj q + 1)) y ≤ gi sj y + 1) := fun y => by
          by_cases ey : q = y
          · subst ey; rw [gi_set (by omega)]; exact Int.le_refl _
          · rw [gi_set_ne ey]; omega
        clear hsn hsl1 hxo hx1 hTp
        obtain ⟨z, hz⟩ : ∃ z, gi sj q = z := ⟨_, rfl⟩
        have Hz : Hid _ := hz
        rw [hz] at s0 t0 e1 hW2 HR2 HT1 hset hsl2 hnn2 hzq hzn
        clear hz
        generalize hS2 : sj.set q (z + 1) = s2 at *
        clear hS2
        have how2 : Out g (g + 1) W0 W2 := how.trans o2
        by_cases hz0 : z = 0
        · have hI := HIH.out (by omega)
          simp only [Nat.add_sub_cancel] at hI
          have HI : Hid _ := hI
          clear hI HIH
          obtain ⟨ab, off, rfl, hcc⟩ := HC.out W0 (HBW.out _ (Out.of_below q0)) (by omega)
          have hcv0 : W0.cell? ⟨ab, off + q, none⟩ = some (cwV (gc L q)) := hcc q hq
          have HCV0 : Hid (∀ W, Below w0.heap.size w0 W → W.cell? ⟨ab, off + q, none⟩ = some (cwV (gc L q))) := fun W h => by
            obtain ⟨ab', off', e9, hcc'⟩ := HC.out W h (by omega)
            obtain ⟨rfl, rfl⟩ : ab = ab' ∧ off = off' := by simpa using e9
            exact hcc' q hq
          clear hcc hcv0
          rw [if_pos (by omega)] at HT1
          have hq2 : gi sj q = 0 := by rw [Hz.out]; exact hz0
          subst hz0
          rw [show (0 : Int) + 1 = 1 from rfl] at hW2 t0 e1
          by_cases hkd : (gc L q).kd = []
          · rw [hkd] at HT1
            have HCV : Hid (∀ W, Below w0.heap.size w0 W → W.cell? ⟨ab, off + q, none⟩ = some (.iface 72 (.string (gc L q).lf))) := fun W h => by rw [← cwV_leaf hct hkd]; exact HCV0.out W h
            have cv := HCV.out W2 (HBW.out _ ((Out.of_below q0).trans how2))
            clear HCV0 hkids hkd hkz hct hq2
            generalize (gc L q).lf = lf at *
            obtain ⟨⟨x0, x1, x2, x3⟩, -⟩ := box4_cells (box_out (box_out H1.out how (by omega)) o2 (by omega))
            go_wp2
            clear hW2
            have d0 : W2.drew.cell? ⟨w.heap.size, 0, none⟩ = some (.slice (some ⟨ab, off, none⟩) L.length ka) := x0
            have d1 : W2.drew.cell? ⟨w.heap.size, 1, none⟩ = some (.slice b1 ns.length kb) := x1
            have d2 : W2.drew.cell? ⟨w.heap.size, 2, none⟩ = some (.slice c rs.length kc) := x2
            have d3 : W2.drew.cell? ⟨w.heap.size, 3, none⟩ = some (.int .i64 lv) := x3
            have d4 : W2.drew.cell? ⟨ab, off + q, none⟩ = some (.iface 72 (.string lf)) := cv
            have od : Out g (g + 1) W0 W2.drew := how2.trans (Out.of_below (Below.drew (Below.refl _ _)))
            have hRd : Row W2.drew g s2 := HR2.out
            refine wp_region_noPanic ?_
            refine wp_region_L (fun W => W.cell? ⟨w.heap.size, 0, none⟩ = some (.slice (some ⟨ab, off, none⟩) L.length ka) ∧ W.cell? ⟨w.heap.size, 1, none⟩ = some (.slice b1 ns.length kb) ∧ W.cell? ⟨w.heap.size, 2, none⟩ = some (.slice c rs.length kc) ∧ W.cell? ⟨w.heap.size, 3, none⟩ = some (.int .i64 lv) ∧ W.cell? ⟨ab, off + q, none⟩ = some (.iface 72 (.string lf))) 9 9 (by kernel_rfl) rfl ⟨d0, d1, d2, d3, d4⟩ (fun hS0 => ?_)
            refine tkL (i := 0) (d := 27) (v := ?_) rfl rfl (by kernel_rfl) (by kernel_rfl) (by kernel_rfl) (by kernel_rfl) (fun _ _ _ h => h) (Or.inl ⟨by rfl, by intro wq hSq; obtain ⟨hq1, hq2, hq3, hq4, hq5⟩ := hSq; go_simp; try with_reducible rfl⟩) (by assumption) ?_
            simp only [List.setIfInBounds_toArray, List.set_cons_zero, List.set_cons_succ]
            refine tkL (i := 1) (d := 28) (v := ?_) rfl rfl (by kernel_rfl) (by kernel_rfl) (by kernel_rfl) (by kernel_rfl) (fun _ _ _ h => h) (Or.inl ⟨by rfl, by intro wq hSq; obtain ⟨hq1, hq2, hq3, hq4, hq5⟩ := hSq; go_simp; try with_reducible rfl⟩) (by assumption) ?_
            simp only [List.setIfInBounds_toArray, List.set_cons_zero, List.set_cons_succ]
            refine tkL (i := 2) (d := 29) (v := ?_) rfl rfl (by kernel_rfl) (by kernel_rfl) (by kernel_rfl) (by kernel_rfl) (fun _ _ _ h => h) (Or.inl ⟨by rfl, by intro wq hSq; obtain ⟨hq1, hq2, hq3, hq4, hq5⟩ := hSq; go_simp; try with_reducible rfl⟩) (by assumption) ?_
            simp only [List.setIfInBounds_toArray, List.set_cons_zero, List.set_cons_succ]
            refine tkL (i := 3) (d := 30) (v := ?_) rfl rfl (by kernel_rfl) (by kernel_rfl) (by kernel_rfl) (by kernel_rfl) (fun _ _ _ h => h) (Or.inl ⟨by rfl, by intro wq hSq; obtain ⟨hq1, hq2, hq3, hq4, hq5⟩ := hSq; go_simp; try with_reducible rfl⟩) (by assumption) ?_
            simp only [List.setIfInBounds_toArray, List.set_cons_zero, List.set_cons_succ]
            refine tkL (i := 4) (d := 31) (v := ?_) rfl rfl (by kernel_rfl) (by kernel_rfl) (by kernel_rfl) (by kernel_rfl) (fun _ _ _ h => h) (Or.inl ⟨by rfl, by intro wq hSq; obtain ⟨hq1, hq2, hq3, hq4, hq5⟩ := hSq; go_simp; try with_reducible rfl⟩) (by assumption) ?_
            simp only [List.setIfInBounds_toArray, List.set_cons_zero, List.set_cons_succ]
            refine tkL (i := 5) (d := 32) (v := ?_) rfl rfl (by kernel_rfl) (by kernel_rfl) (by kernel_rfl) (by kernel_rfl) (fun _ _ _ h => h) (Or.inl ⟨by rfl, by intro wq hSq; obtain ⟨hq1, hq2, hq3, hq4, hq5⟩ := hSq; go_simp; try with_reducible rfl⟩) (by assumption) ?_
            simp only [List.setIfInBounds_toArray, List.set_cons_zero, List.set_cons_succ]
            refine tkL (i := 7) (d := 34) (v := ?_) rfl rfl (by kernel_rfl) (by kernel_rfl) (by kernel_rfl) (by kernel_rfl) (fun _ _ _ h => h) (Or.inl ⟨by rfl, by intro wq hSq; obtain ⟨hq1, hq2, hq3, hq4, hq5⟩ := hSq; go_simp; try with_reducible rfl⟩) (by assumption) ?_
            simp only [List.setIfInBounds_toArray, List.set_cons_zero, List.set_cons_succ]
            refine oneL (i := 6) rfl (by kernel_rfl) (fun K hK => ?_)
            go_simp
            refine (leafKids_any _ _).mono ?_
            rintro e w1 ⟨rfl, hw⟩
            have hw' := hw.symm
            subst hw'
            clear hw
            refine hK.out _ _ hS0 (fun hS1 => ?_)
            clear hK K
            have cM := HI.out [] s2 none 0 g W2.drew hg (HBW.out _ ((Out.of_below q0).trans od)) hRd hsl2.out hnn2.out (by simp) (fun y => by have := hset.out y; have := hbd2.out y; have h3 : 1 ≤ TT 4 (l' + 1) := (by show 1 ≤ 1 + 4 * TT 4 l'; omega); simp only [List.length_nil, Nat.zero_mul]; omega) (by simp) (fun W _ => Ints.nil)
            refine oneL (i := 8) rfl (by kernel_rfl) (fun K hK => ?_)
            go_simp
            refine cM.mono ?_
            rintro e w5 ⟨rfl, o5, hR5⟩
            have o05 := od.trans o5
            have how5 : Out g (g + 1) w w5 := (Out.of_below q0).trans o05
            obtain ⟨⟨z0, z1, z2, z3⟩, -⟩ := box4_cells (box_out H1.out o05 (by omega))
            have z4 : w5.cell? ⟨ab, off + q, none⟩ = some (.iface 72 (.string lf)) := HCV.out w5 (HBW.out _ how5)
            refine hK.out _ _ ⟨z0, z1, z2, z3, z4⟩ (fun _ => ?_)
            clear hK K
            refine ⟨by kernel_rfl, NoPanic.normal ?_⟩
            go_wp2
            go_roundw
            case rel => exact ⟨j + 1, by omega, by go_num, by rw [HT1.out]; exact hR5, o05⟩
            case measure => simp [intOf]; omega
          · have hoq := Hok.out q hq
            obtain ⟨p, r, u, t, hkk, hcv⟩ := cwV_fork hct hkd hoq
            rw [hkk] at HT1
            have HCV : Hid (∀ W, Below w0.heap.size w0 W → W.cell? ⟨ab, off + q, none⟩ = some (.iface 74 (fv p r u t))) := fun W h => by rw [← hcv]; exact HCV0.out W h
            have cv := HCV.out W2 (HBW.out _ ((Out.of_below q0).trans how2))
            unfold fv at cv HCV
            clear HCV0 hkd hkz hct hcv hoq hq2
            obtain ⟨⟨x0, x1, x2, x3⟩, -⟩ := box4_cells (box_out (box_out H1.out how (by omega)) o2 (by omega))
            go_wp2
            clear hW2
            have d0 : W2.drew.cell? ⟨w.heap.size, 0, none⟩ = some (.slice (some ⟨ab, off, none⟩) L.length ka) := x0
            have d1 : W2.drew.cell? ⟨w.heap.size, 1, none⟩ = some (.slice b1 ns.length kb) := x1
            have d2 : W2.drew.cell? ⟨w.heap.size, 2, none⟩ = some (.slice c rs.length kc) := x2
            have d3 : W2.drew.cell? ⟨w.heap.size, 3, none⟩ = some (.int .i64 lv) := x3
            have d4 : W2.drew.cell? ⟨ab, off + q, none⟩ = some (.iface 74 (.agg #[.int .i64 p, .int .i64 r, .int .i64 u, .int .i64 t])) := cv
            have od : Out g (g + 1) W0 W2.drew := how2.trans (Out.of_below (Below.drew (Below.refl _ _)))
            have hRd : Row W2.drew g s2 := HR2.out
            refine wp_region_noPanic ?_
            refine wp_region_L (fun W => W.cell? ⟨w.heap.size, 0, none⟩ = some (.slice (some ⟨ab, off, none⟩) L.length ka) ∧ W.cell? ⟨w.heap.size, 1, none⟩ = some (.slice b1 ns.length kb) ∧ W.cell? ⟨w.heap.size, 2, none⟩ = some (.slice c rs.length kc) ∧ W.cell? ⟨w.heap.size, 3, none⟩ = some (.int .i64 lv) ∧ W.cell? ⟨ab, off + q, none⟩ = some (.iface 74 (.agg #[.int .i64 p, .int .i64 r, .int .i64 u, .int .i64 t]))) 9 9 (by kernel_rfl) rfl ⟨d0, d1, d2, d3, d4⟩ (fun hS0 => ?_)
            refine tkL (i := 0) (d := 27) (v := ?_) rfl rfl (by kernel_rfl) (by kernel_rfl) (by kernel_rfl) (by kernel_rfl) (fun _ _ _ h => h) (Or.inl ⟨by rfl, by intro wq hSq; obtain ⟨hq1, hq2, hq3, hq4, hq5⟩ := hSq; go_simp; try with_reducible rfl⟩) (by assumption) ?_
            simp only [List.setIfInBounds_toArray, List.set_cons_zero, List.set_cons_succ]
            refine tkL (i := 1) (d := 28) (v := ?_) rfl rfl (by kernel_rfl) (by kernel_rfl) (by kernel_rfl) (by kernel_rfl) (fun _ _ _ h => h) (Or.inl ⟨by rfl, by intro wq hSq; obtain ⟨hq1, hq2, hq3, hq4, hq5⟩ := hSq; go_simp; try with_reducible rfl⟩) (by assumption) ?_
            simp only [List.setIfInBounds_toArray, List.set_cons_zero, List.set_cons_succ]
            refine tkL (i := 2) (d := 29) (v := ?_) rfl rfl (by kernel_rfl) (by kernel_rfl) (by kernel_rfl) (by kernel_rfl) (fun _ _ _ h => h) (Or.inl ⟨by rfl, by intro wq hSq; obtain ⟨hq1, hq2, hq3, hq4, hq5⟩ := hSq; go_simp; try with_reducible rfl⟩) (by assumption) ?_
            simp only [List.setIfInBounds_toArray, List.set_cons_zero, List.set_cons_succ]
            refine tkL (i := 3) (d := 30) (v := ?_) rfl rfl (by kernel_rfl) (by kernel_rfl) (by kernel_rfl) (by kernel_rfl) (fun _ _ _ h => h) (Or.inl ⟨by rfl, by intro wq hSq; obtain ⟨hq1, hq2, hq3, hq4, hq5⟩ := hSq; go_simp; try with_reducible rfl⟩) (by assumption) ?_
            simp only [List.setIfInBounds_toArray, List.set_cons_zero, List.set_cons_succ]
            refine tkL (i := 4) (d := 31) (v := ?_) rfl rfl (by kernel_rfl) (by kernel_rfl) (by kernel_rfl) (by kernel_rfl) (fun _ _ _ h => h) (Or.inl ⟨by rfl, by intro wq hSq; obtain ⟨hq1, hq2, hq3, hq4, hq5⟩ := hSq; go_simp; try with_reducible rfl⟩) (by assumption) ?_
            simp only [List.setIfInBounds_toArray, List.set_cons_zero, List.set_cons_succ]
            refine tkL (i := 5) (d := 32) (v := ?_) rfl rfl (by kernel_rfl) (by kernel_rfl) (by kernel_rfl) (by kernel_rfl) (fun _ _ _ h => h) (Or.inl ⟨by rfl, by intro wq hSq; obtain ⟨hq1, hq2, hq3, hq4, hq5⟩ := hSq; go_simp; try with_reducible rfl⟩) (by assumption) ?_
            simp only [List.setIfInBounds_toArray, List.set_cons_zero, List.set_cons_succ]
            refine tkL (i := 7) (d := 34) (v := ?_) rfl rfl (by kernel_rfl) (by kernel_rfl) (by kernel_rfl) (by kernel_rfl) (fun _ _ _ h => h) (Or.inl ⟨by rfl, by intro wq hSq; obtain ⟨hq1, hq2, hq3, hq4, hq5⟩ := hSq; go_simp; try with_reducible rfl⟩) (by assumption) ?_
            simp only [List.setIfInBounds_toArray, List.set_cons_zero, List.set_cons_succ]
            refine oneL (i := 6) rfl (by kernel_rfl) (fun K hK => ?_)
            go_simp
            refine (forkKids_any p r u t _).mono ?_
            rintro e w1 ⟨rfl, hw⟩
            obtain ⟨W4, hW4⟩ : ∃ W4, W2.drew.alloc (.cells #[.int .i64 p, .int .i64 r, .int .i64 u, .int .i64 t] 74) = W4 := ⟨_, rfl⟩
            rw [hW4] at hw
            have hw' := hw.symm
            subst hw'
            clear hw
            have q4 : Below W2.drew.heap.size W2.drew W4 := by subst hW4; exact below_alloc _ _
            have H4 : Hid (W4.heap[W2.drew.heap.size]? = some (.cells #[.int .i64 p, .int .i64 r, .int .i64 u, .int .i64 t] 74 (0, 0))) := by subst hW4; exact al1 _ _
            clear hW4
            have hgd : g < W2.drew.heap.size := hRd.lt
            refine hK.out _ _ ⟨cell_on d0 q4, cell_on d1 q4, cell_on d2 q4, cell_on d3 q4, cell_on d4 q4⟩ (fun hS1 => ?_)
            clear hK K
            have od4 : Out g (g + 1) W0 W4 := od.trans (Out.of_below q4)
            have cM := HI.out [p, r, u, t] s2 (some ⟨W2.drew.heap.size, 0, none⟩) 4 g W4 hg (HBW.out _ ((Out.of_below q0).trans od4)) (hRd.below q4) hsl2.out hnn2.out (by simp) (fun y => by have h1 := hset.out y; have h2 := hbd2.out y; have h3 : ((4 * TT 4 l' : Nat) : Int) + 1 = ((TT 4 (l' + 1) : Nat) : Int) := (by show ((4 * TT 4 l' : Nat) : Int) + 1 = ((1 + 4 * TT 4 l' : Nat) : Int); omega); show gi s2 y + ((4 * TT 4 l' : Nat) : Int) ≤ 4611686018427387904; omega) (by rw [← hkk]; exact hkids) (fun W ho => fun _ => ⟨W2.drew.heap.size, 0, rfl, fun i hi => by
              obtain ⟨⟨u0, u1, u2, u3⟩, -⟩ := box4_cells (box_out H4.out ho (by omega))
              simp only [List.length_cons, List.length_nil] at hi
              match i, hi with
              | 0, _ => exact u0
              | 1, _ => exact u1
              | 2, _ => exact u2
              | 3, _ => exact u3⟩)
            refine oneL (i := 8) rfl (by kernel_rfl) (fun K hK => ?_)
            go_simp
            refine cM.mono ?_
            rintro e w5 ⟨rfl, o5, hR5⟩
            have o05 := od4.trans o5
            have how5 : Out g (g + 1) w w5 := (Out.of_below q0).trans o05
            obtain ⟨⟨z0, z1, z2, z3⟩, -⟩ := box4_cells (box_out H1.out o05 (by omega))
            have z4 : w5.cell? ⟨ab, off + q, none⟩ = some (.iface 74 (.agg #[.int .i64 p, .int .i64 r, .int .i64 u, .int .i64 t])) := HCV.out w5 (HBW.out _ how5)
            refine hK.out _ _ ⟨z0, z1, z2, z3, z4⟩ (fun _ => ?_)
            clear hK K
            refine ⟨by kernel_rfl, NoPanic.normal ?_⟩
            go_wp2
            go_roundw
            case rel => exact ⟨j + 1, by omega, by go_num, by rw [HT1.out]; exact hR5, o05⟩
            case measure => simp [intOf]; omega
        · have hz1 : (z + 1 == 1) = false := by simp; omega
          rw [if_neg (by omega)] at HT1
          clear hbd2
          go_wp2
          go_roundw
          case rel => exact ⟨j + 1, by omega, by go_num, by rw [HT1.out]; exact HR2.out, how2⟩
          case measure => simp [intOf]; omega
    · have hjm : j = m := by omega
      subst hjm
      have hfin : K.take j = K := List.take_of_length_le (by rw [HM.out]; exact Nat.le_refl _)
      rw [hfin] at HR
      go_wp2
      go_end0
      exact ⟨rfl, ho1, HR.out⟩
end Go.Proofs.Ytienhdlhlddemaa
