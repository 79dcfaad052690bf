import Derived.Test.YtnanemkmmokdfaaY1
/- impl.BytesKept. -/
namespace Go.Proofs.Ytnanemkmmokdfaa
open Go.ChangeShapes Go.WideShapes Go.ChangeAt Go.RowKit Go.Maps
set_option linter.unusedVariables false
open Hd

attribute [local go_sem] Oper.semAt_some

theorem key_S_inv {v : Value} {l : Lit} (h : keyOf Try.prog 9 v = some l) : ∃ x : ByteArray, v = .string x ∧ l = kS x ∧ x.size ≤ maxLen := Go.WideMaps.string_of_keyOf Try.underlying9 h
theorem sameKey_S (x y : ByteArray) : (kS x).sameKey (kS y) = decide (x = y) := by
  by_cases e : x = y
  · subst e
    simp [kS, Lit.sameKey]
  · rw [sameKey_ne (fun h => e (kS_inj h))]
    simp [e]
/-- What BytesKept tells. -/
def bkN (u : Va) (B : Bool) : Nat := if B = true then kz u else 0
def bkM (u : Va) (B : Bool) : Nat := if B = true then az u else 0
/-- What has been met. -/
def metS (u : Va) (f : Nat → Nat) (left : Lit → Bool) : Nat := sm (fun i => if left (kS (gm u.pc i).nm) then 0 else f i) u.pc.length
theorem metS_step {u : Va} (hd : Dis u.pc) (f : Nat → Nat) {left : Lit → Bool} {i : Nat} (hi : i < u.pc.length) (hl : left (kS (gm u.pc i).nm) = true) :
    metS u f (fun z => left z && !z.sameKey (kS (gm u.pc i).nm)) = metS u f left + f i := by
  unfold metS
  have e := sm_step (f := fun j => if left (kS (gm u.pc j).nm) then 0 else f j) (g := fun j => if (left (kS (gm u.pc j).nm) && !(kS (gm u.pc j).nm).sameKey (kS (gm u.pc i).nm)) then 0 else f j) hi (by simp [hl]) (fun j hj hji => by
    have : (gm u.pc j).nm ≠ (gm u.pc i).nm := by
      rcases Nat.lt_or_gt_of_ne hji with q | q
      · exact hd i j q hi
      · exact (hd j i q hj).symm
    simp [sameKey_S, this])
  simp only [sameKey_S, decide_true, Bool.not_true, Bool.and_false, Bool.false_eq_true, if_false] at e
  simp only [sameKey_S]
  exact e
theorem metS_le {u : Va} {f : Nat → Nat} {M : Nat} (h : ∀ i, i < u.pc.length → f i ≤ M) (left : Lit → Bool) : metS u f left ≤ u.pc.length * M :=
  sm_le _ (fun i hi => by split; omega; exact h i hi)
theorem tf_small {u : Va} (hg : GV u) (i : Nat) : tf u.fs u.fs.length i ≤ 4000 := by
  have key : ∀ j, j ≤ u.fs.length → tf u.fs j i ≤ j * 200 := by
    intro j
    induction j with
    | zero => intro _; simp [tf]
    | succ j ih =>
      intro hj
      have h1 := ih (by omega)
      have h2 := (hg.2.1 j (by omega)).2
      have h3 := tf_count_le (gf u.fs j) i
      rw [tf, Nat.succ_mul]
      omega
  have := key u.fs.length (Nat.le_refl _)
  have := hg.1.2
  omega
set_option maxRecDepth 20000 in
set_option maxHeartbeats 4000000 in
theorem implBytes_any (v : Value) (u : Va) (B : Bool) (w : World) (hc : VAt w v u) (hf : FewV u) (hs : Sml u) (hB : B = true ↔ GV u) :
    Calls Try.prog 46 #[v] w fun e w' => e = .returned (.tuple #[.int .i64 (bkN u B : Nat), .int .i64 (bkM u B : Nat), .bool B]) ∧ Below w.heap.size w w' := by
  have cO := fun W h => opened_any v u W (hc.below h) hf hs
  obtain ⟨a, ca, a', ca', rfl, -, -, -, -⟩ := hc
  obtain ⟨W0, hW0⟩ : ∃ W0, w.alloc (.cells #[.slice a u.pc.length ca, .slice a' u.fs.length ca'] 40) = W0 := ⟨_, rfl⟩
  have q0 : Below w.heap.size w W0 := by subst hW0; exact below_alloc _ _
  obtain ⟨i0, i1, -, -⟩ := box2_cells (show W0.heap[w.heap.size]? = some (.cells #[.slice a u.pc.length ca, .slice a' u.fs.length ca'] 40 (0, 0)) by subst hW0; exact al1 _ _)
  have HB : Hid (B = true ↔ GV u) := hB
  clear hf hs hB
  have c := cO W0 q0
  clear cO
  obtain ⟨RN, hRN⟩ : ∃ RN : Nat, bkN u B = RN := ⟨_, rfl⟩
  obtain ⟨RM, hRM⟩ : ∃ RM : Nat, bkM u B = RM := ⟨_, rfl⟩
  have HRN : Hid (bkN u B = RN) := hRN
  have HRM : Hid (bkM u B = RM) := hRM
  rw [hRN, hRM]
  clear hRN hRM
  go_enter Try.func46, Try.ntmps46
  go_wp2_with fail
  refine c.mono ?_
  rintro e w1 ⟨hR, b1⟩
  clear i0 i1 hW0 c
  rcases hR with ⟨hg, M, y, n, rfl, hM0, hGM, hn1, -, hF⟩ | ⟨hg, rfl⟩
  · have HGv : Hid (GV u) := hg
    obtain ⟨yx, yc, rfl⟩ := hF.form
    have hb : B = true := HB.out.2 hg
    subst hb
    have HRN' : Hid (sm (pz u) u.pc.length = RN) := by have := HRN.out; unfold bkN at this; rw [if_pos rfl] at this; exact this
    have HRM' : Hid (sm (fun i => pz u i * tf u.fs u.fs.length i) u.pc.length = RM) := by have := HRM.out; unfold bkM at this; rw [if_pos rfl] at this; exact this
    clear hg hF HRN HRM HB
    generalize (fsT u).length = nf at *
    obtain ⟨W1, hW1⟩ : ∃ W1, w1.alloc (.cells #[.map (some M), .slice yx nf yc] 90) = W1 := ⟨_, rfl⟩
    have q1 : Below w1.heap.size w1 W1 := by subst hW1; exact below_alloc _ _
    obtain ⟨o0, o1, -, -⟩ := box2_cells (show W1.heap[w1.heap.size]? = some (.cells #[.map (some M), .slice yx nf yc] 90 (0, 0)) by subst hW1; exact al1 _ _)
    have g1 : Below w.heap.size w W1 := Below.comp q0 (Below.comp b1 q1)
    obtain ⟨D, hown, -, hk⟩ := hGM.below q1
    have HK : Hid (∀ x : ByteArray, x.size ≤ maxLen → D.atKey (kS x) (sd none) = sd ((oG u).1 x) ∧ has D (kS x) = ((oG u).1 x).isSome) := hk
    have hMlt := hown.lt
    clear hk hGM
    go_wp2_with (at_range; refine wpList_range_own _ rfl _ 87 rfl 9 101 lawS Try.underlying87 stE M n D rfl hown ?_; intro w0 hrg0 hg0 hs0)
    go_frame
    obtain ⟨r, hr⟩ : ∃ r, W1.heap.size = r := ⟨_, rfl⟩
    rw [hr] at hrg0 hs0 hMlt ⊢
    have hb0 : Below r W1 w0 := hr ▸ (Below.refl W1.heap.size W1).grown hg0 (Nat.le_refl _) (fun j hj => by cases hj)
    clear o0 o1 hW1
    have HW1 : Hid (Below w.heap.size w W1) := g1
    have HWr : Hid (w.heap.size ≤ r) := by show _ ≤ _; rw [← hr]; exact g1.size
    have HD : Hid (Dis u.pc) := good_dis HGv.out
    have HFl : Hid (∀ i, i < u.pc.length → (gm u.pc i).fl = ((tf u.fs u.fs.length i : Nat) : Int)) := fun i hi => (HGv.out.2.2 i hi).2.2.1
    have HSz : Hid (∀ i, i < u.pc.length → pz u i ≤ 24) := fun i hi => (HGv.out.2.2 i hi).1.2
    have HN1 : Hid (u.pc.length ≤ 100) := HGv.out.1.1
    have HPz : Hid (∀ i, i < u.pc.length → pz u i * tf u.fs u.fs.length i ≤ 96000) := fun i hi => Nat.le_trans (Nat.mul_le_mul (HSz.out i hi) (tf_small HGv.out i)) (by omega)
    have HAll : Hid (∀ i, i < u.pc.length → has D (kS (gm u.pc i).nm) = true) := fun i hi => by
      rw [(HK.out _ (by have := (HGv.out.2.2 i hi).1.2; unfold maxLen; omega)).2, good_at HGv.out hi]
      rfl
    clear hr g1
    go_loopw [7, 8] (fun k7 k8 ws => ∃ (left : Lit → Bool) (cnt : Nat), k7 = .int .i64 (metS u (pz u) left : Nat) ∧ k8 = .int .i64 (metS u (fun i => pz u i * tf u.fs u.fs.length i) left : Nat) ∧ Hid (ws.ranges Try.prog 9 stE M r n D left cnt) ∧ Hid (∀ z, left z = true → has D z = true) ∧ Below r W1 ws ∧ r ≤ ws.heap.size) (fun _ _ ws => ws.rangeLeft M r)
    case atStart =>
      have z : ∀ f : Nat → Nat, metS u f (has D) = 0 := fun f => by
        unfold metS
        rw [sm_congr _ (g := fun _ => 0) (fun i hi => by rw [HAll.out i hi]; rfl), sm_zero]
      exact ⟨has D, _, by rw [z]; rfl, by rw [z]; rfl, hrg0, fun z h => h, hb0, by omega⟩
    case round =>
      obtain ⟨left, cnt, rfl, rfl, HR, HL, hb, hz⟩ := hrel
      have hrg := HR.out
      clear hrg0 hg0 hs0 hb0
      have hkb := metS_le (u := u) (f := pz u) (M := 24) HSz.out left
      have hab := metS_le (u := u) (f := fun i => pz u i * tf u.fs u.fs.length i) (M := 96000) HPz.out left
      have hkb' : metS u (pz u) left ≤ 2400 := Nat.le_trans hkb (Nat.le_trans (Nat.mul_le_mul HN1.out (Nat.le_refl _)) (by omega))
      have hab' : metS u (fun i => pz u i * tf u.fs u.fs.length i) left ≤ 9600000 := Nat.le_trans hab (Nat.le_trans (Nat.mul_le_mul HN1.out (Nat.le_refl _)) (by omega))
      clear hkb hab
      go_wp2_with (at_next; refine wpList_next_ranges _ rfl _ rfl 9 lawS stE (fun s : ByteArray => Value.string s) (fun p : Int × Int => Value.agg #[.int .i64 p.1, .int .i64 p.2]) (fun key kl h => by obtain ⟨x, e, -⟩ := key_S_inv h; exact ⟨x, e⟩) (fun v y hv => by obtain ⟨a, b, e, -⟩ := stE_inv hv; exact ⟨(a, b), e⟩) M r n D left cnt rfl hrg ?_ ?_)
      · intro hc0 hl0
        have e1 : metS u (pz u) left = RN := by
          rw [← HRN'.out]
          exact sm_congr _ (fun i _ => by rw [hl0]; rfl)
        have e2 : metS u (fun i => pz u i * tf u.fs u.fs.length i) left = RM := by
          rw [← HRM'.out]
          exact sm_congr _ (fun i _ => by rw [hl0]; rfl)
        rw [e1, e2]
        clear e1 e2 hkb' hab' hl0 hc0
        go_wp2
        go_ret3
        exact ⟨rfl, HW1.out.trans (hb.mono HWr.out)⟩
      · intro x p q kl' yd yp w2 cnt1 hkey hlx hv hat hrg1 hlt hg1 hs1 hen
        obtain ⟨x', ex, rfl, hxs⟩ := key_S_inv hkey
        obtain rfl : x = x' := by simpa using ex
        have hhas := HL.out _ hlx
        obtain ⟨hk1, hk2⟩ := HK.out x hxs
        rw [hk2] at hhas
        obtain ⟨i, hi, hix⟩ := good_in HGv.out hhas
        have hgx := good_at HGv.out hi
        rw [hix] at hgx
        rw [hat, hgx] at hk1
        have hyd : yd = DataW.agg [.lit (.int .i64 p), .lit (.int .i64 q)] := by
          obtain ⟨a, b, e1, e2⟩ := stE_inv hv
          simp only [Value.agg.injEq] at e1
          have f1 := congrArg (fun a => a[0]?) e1
          have f2 := congrArg (fun a => a[1]?) e1
          simp at f1 f2
          subst f1 f2
          exact (Prod.mk.inj e2).1
        rw [hyd] at hk1
        simp [sd] at hk1
        have hq : q = ((tf u.fs u.fs.length i : Nat) : Int) := by rw [hk1.2]; exact HFl.out i hi
        have hxz : x.size = pz u i := by rw [← hix]; rfl
        have hS1 : Hid (metS u (pz u) (fun z => left z && !z.sameKey (kS x)) = metS u (pz u) left + pz u i) := by
          have := metS_step HD.out (pz u) hi (by rw [hix]; exact hlx)
          rwa [hix] at this
        have hS2 : Hid (metS u (fun i => pz u i * tf u.fs u.fs.length i) (fun z => left z && !z.sameKey (kS x)) = metS u (fun i => pz u i * tf u.fs u.fs.length i) left + pz u i * tf u.fs u.fs.length i) := by
          have := metS_step HD.out (fun i => pz u i * tf u.fs u.fs.length i) hi (by rw [hix]; exact hlx)
          rwa [hix] at this
        have hpz := HSz.out i hi
        have hpt := HPz.out i hi
        have HL1 : Hid (∀ z, (left z && !z.sameKey (kS x)) = true → has D z = true) := fun z h => HL.out z (by simp at h; exact h.1)
        have HRG : Hid (w2.ranges Try.prog 9 stE M r n D (fun z => left z && !z.sameKey (kS x)) cnt1) := hrg1
        have hbw : Below r W1 w2 := hb.grown hg1 (by omega) (fun j hj => by cases hj; omega)
        have hz2 : r ≤ w2.heap.size := by omega
        have HLt : Hid (cnt1 < cnt) := hlt
        generalize pz u i = P at *
        generalize hT : tf u.fs u.fs.length i = T at *
        have hmulN : Hid ((x.size : Int) * q = ((P * T : Nat) : Int)) := by
          show _ = _
          rw [hxz, hq]
          simp
        obtain ⟨PT, hPT⟩ : ∃ PT, P * T = PT := ⟨_, rfl⟩
        rw [hPT] at hpt
        have hmul : (x.size : Int) * q = (PT : Int) := by rw [hmulN.out, hPT]
        have HPT : Hid _ := hPT
        have hmw : IntKind.i64.wrap ((x.size : Int) * q) = (PT : Int) := by rw [hmul]; exact wrapI (by omega) (by omega)
        have HXZ : Hid (x.size = P) := hxz
        have hxb : x.size ≤ 24 := by omega
        clear hkey hv hat hk1 hk2 hgx hix hyd hlx hhas ex hrg1 HR hT hq hPT hxz hmul hi hs1 hg1
        generalize metS u (pz u) left = KK at *
        generalize metS u (fun i => pz u i * tf u.fs u.fs.length i) left = AA at *
        obtain ⟨E, hE⟩ : ∃ E, w2.heap.size = E := ⟨_, rfl⟩
        obtain ⟨W2, hW2⟩ : ∃ W2, w2.alloc (.cells #[.int .i64 p, .int .i64 q] 101) = W2 := ⟨_, rfl⟩
        have b2 : Below w2.heap.size w2 W2 := by subst hW2; exact below_alloc _ _
        obtain ⟨u0, u1, -, -⟩ := box2_cells (show W2.heap[E]? = some (.cells #[.int .i64 p, .int .i64 q] 101 (0, 0)) by subst hW2 hE; exact al1 _ _)
        have HR2 : Hid (W2.ranges Try.prog 9 stE M r n D (fun z => left z && !z.sameKey (kS x)) cnt1) := by
          have := World.ranges.alloc HRG.out (.cells #[.int .i64 p, .int .i64 q] 101)
          rw [hW2] at this
          exact this
        have hb2 : Below r W1 W2 := hbw.trans (b2.mono hz2)
        have hz3 : r ≤ W2.heap.size := Nat.le_trans hz2 b2.size
        go_wp2
        go_roundw
        case rel => exact ⟨_, cnt1, by rw [hS1.out]; have := HXZ.out; subst this; go_num, by rw [hS2.out, HPT.out]; go_num, HR2, HL1, hb2, hz3⟩
        case measure => rw [HR2.out.left_eq, hrg.left_eq]; exact HLt.out
  · have hb : B = false := by
      by_cases h : B = true
      · exact absurd (HB.out.1 h) hg
      · simpa using h
    subst hb
    have HR0 : Hid (RN = 0 ∧ RM = 0) := ⟨by have := HRN.out; unfold bkN at this; simpa using this.symm, by have := HRM.out; unfold bkM at this; simpa using this.symm⟩
    obtain ⟨Wz, hWz⟩ : ∃ Wz, w1.alloc (.cells #[.map none, .slice none 0 0] 90) = Wz := ⟨_, rfl⟩
    have HBz : Hid (Wz.heap[w1.heap.size]? = some (.cells #[.map none, .slice none 0 0] 90 (0, 0))) := by subst hWz; exact al1 _ _
    obtain ⟨xz0, xz1, fz0, fz1⟩ := box2_cells HBz.out
    obtain ⟨W1, hW1⟩ : ∃ W1, (Wz.setCell ⟨w1.heap.size, 0, none⟩ (.map none)).setCell ⟨w1.heap.size, 1, none⟩ (.slice none 0 0) = W1 := ⟨_, rfl⟩
    have HB1 : Hid (W1.heap[w1.heap.size]? = some (.cells #[.map none, .slice none 0 0] 90 (0, 0))) := by subst hW1; exact box2_set HBz.out
    have qz : Below w1.heap.size w1 Wz := by subst hWz; exact below_alloc _ _
    have o1 : Out w1.heap.size (w1.heap.size + 1) Wz W1 := by subst hW1; exact ((Out.refl _ _ _).setCell (by omega) (by omega) _ _).setCell (by omega) (by omega) _ _
    have q1 : Below w1.heap.size w1 W1 := qz.trans (o1.below qz.size)
    obtain ⟨o0, o1', -, -⟩ := box2_cells HB1.out
    have hrg := run_range_nilMap (P := Try.prog) W1 87 9 101 Try.underlying87
    have hnx : ∀ ty, (Instr.next (.pointer (some ⟨W1.heap.size, 0, none⟩)) false ty).run Try.prog (W1.alloc (.mapIter none 0 #[] 0)) = _ := fun ty => run_next_nilMap W1 ty 0 0 #[]
    have g1 : Below w.heap.size w W1 := Below.comp q0 (Below.comp b1 q1)
    go_wp2_with fail
    refine wp_loop_rounds 1 ?_
    rw [rounds_succ]
    go_wp2_with fail
    go_ret3
    exact ⟨by rw [HR0.out.1, HR0.out.2]; rfl, g1.trans ((below_alloc _ _).mono g1.size)⟩
end Go.Proofs.Ytnanemkmmokdfaa
