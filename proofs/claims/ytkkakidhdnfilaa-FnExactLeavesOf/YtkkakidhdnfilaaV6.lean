import Derived.Test.YtkkakidhdnfilaaV5
/- The program: the leaves of a picture. -/
namespace Go.Proofs.Ytkkakidhdnfilaa
open Go.ChangeShapes Go.WideShapes Go.ChangeAt Go.RowKit
set_option linter.unusedVariables false
open Hd

attribute [local go_sem] Oper.semAt_some

/-- What LeavesOf tells. -/
def lvB (c : Co) (x : Int) : Bool := gI c && inB c.rs.length x
def lvL (c : Co) (x : Int) : List ByteArray := if lvB c x = true then lvf c.cs (lv1 c + 1) (gi c.rs x.toNat) else []
theorem lvB_parts {c : Co} {x : Int} (h : lvB c x = true) : gI c = true ∧ inB c.rs.length x = true := by
  unfold lvB at h
  simp only [Bool.and_eq_true] at h
  exact h
set_option maxHeartbeats 4000000 in
set_option maxRecDepth 20000 in
theorem implLeaves_yes (v : Value) (c : Co) (x : Int) (w : World) (hc : CowAt w v c) (hf : FewW c) (hg : gI c = true) (hx : inB c.rs.length x = true) :
    Calls Try.prog 27 #[v, .int .i64 x] w fun e w' => Below w.heap.size w w' ∧ ∃ u, e = .returned (.tuple #[u, .bool true]) ∧ OwnS w' w.heap.size u (lvf c.cs (lv1 c + 1) (gi c.rs x.toNat)) := by
  have hall : (gI c && [x].all (inB c.rs.length)) = true := by simp [hg, hx]
  obtain ⟨h1, h2⟩ : 0 ≤ x ∧ x < c.rs.length := by unfold inB at hx; simpa using hx
  obtain ⟨p, rfl⟩ : ∃ p : Nat, x = p := ⟨x.toNat, by omega⟩
  rw [Int.toNat_natCast]
  obtain ⟨hn, hm1, hm8, hl1, hl3⟩ := gI_few' hg
  obtain ⟨-, hok, hro, -⟩ := gI_parts hg
  have hpo := hro (gi c.rs p) (by rw [gi_eq (by omega)]; exact List.getElem_mem _)
  have hl : lv1 c ≤ 2 := by unfold lv1; omega
  have hlv : c.lv = (lv1 c : Int) + 1 := by unfold lv1; omega
  rw [show c.lv.toNat = lv1 c + 1 by unfold lv1; omega] at hpo
  have mA := fun v W (h : OpAt W v c.cs (c.cs.map (·.ct)) c.rs c.lv) => leaves_any hok W v h hn (lv1 c) hl (gi c.rs p) W (Below.refl _ _) hpo
  rw [← hlv] at mA
  obtain ⟨a, ca, a', ca', rfl, hca, hca', hI, hR⟩ := hc
  have HcAt : Hid (∀ W, Below w.heap.size w W → CowAt W (kv a c.cs.length ca a' c.rs.length ca' c.lv) c) := fun W h => ⟨a, ca, a', ca', rfl, hca, hca', hI.below h, hR.below h⟩
  obtain ⟨W0, hW0⟩ : ∃ W0, (w.alloc (.cells #[.slice a c.cs.length ca, .slice a' c.rs.length ca', .int .i64 c.lv] 25)).alloc (.cells #[.int .i64 (p : Int)] 3) = W0 := ⟨_, rfl⟩
  have q0 : Below w.heap.size w W0 := by subst hW0; exact ba2 _ _ _
  obtain ⟨B1, B2⟩ : W0.heap[w.heap.size]? = some (.cells #[.slice a c.cs.length ca, .slice a' c.rs.length ca', .int .i64 c.lv] 25 (0, 0)) ∧ W0.heap[w.heap.size + 1]? = some (.cells #[.int .i64 (p : Int)] 3 (0, 0)) := by subst hW0; exact al2 _ _ _
  have hrq : Ints W0 (some ⟨w.heap.size + 1, 0, none⟩) [(p : Int)] := int_one B2
  have hO := opened_any _ c [(p : Int)] (some ⟨w.heap.size + 1, 0, none⟩) 1 W0 (HcAt.out W0 q0) hf hrq (by simp)
  unfold OpenR at hO
  rw [hall] at hO
  simp only [List.length_cons, List.length_nil] at hO
  have HO : Hid _ := hO
  obtain ⟨i0, i1, i2⟩ := box3_one B1
  clear hI hR hf hall hpo hro hok hO hrq B1 B2 hca hca' hg hx HcAt
  obtain ⟨X, hX⟩ : ∃ X, lvf c.cs (lv1 c + 1) (gi c.rs p) = X := ⟨_, rfl⟩
  rw [hX] at mA ⊢
  clear hX
  obtain ⟨RP, hRP⟩ : ∃ RP, gi c.rs p = RP := ⟨_, rfl⟩
  have HRP : Hid _ := hRP
  rw [hRP] at mA
  clear hRP hlv
  have hkp : (p : Int) < (c.rs.length : Int) := by omega
  unfold kv
  go_enter Try.func27, Try.ntmps27
  go_wp2_with fail
  refine Calls.mono HO.out ?_
  rintro e w1 ⟨b1, v1, rfl, -, -, hOwn⟩
  obtain ⟨pa, kp, pb, kq, gr, rfl, hkp1, hkq1, hgr, hRw, hW⟩ := hOwn (by trivial)
  clear i0 i1 i2 hW0
  obtain ⟨hCw, hIw⟩ := hW w1 (Out.refl _ _ _)
  have hOp : OpAt w1 (ov pa c.cs.length kp pb (c.cs.map (·.ct)).length kq (some ⟨gr, 0, none⟩) c.rs.length c.rs.length c.lv) c.cs (c.cs.map (·.ct)) c.rs c.lv :=
    ⟨pa, kp, pb, kq, _, _, rfl, hkp1, by rw [List.length_map]; exact hkq1, Nat.le_refl _, hCw, hIw, fun _ => ⟨gr, 0, rfl, fun i hi => by rw [Nat.zero_add]; exact (hRw.cell hi).1⟩⟩
  have cp0 : w1.cell? ⟨gr, p, none⟩ = some (.int .i64 RP) := by rw [← HRP.out]; exact (hRw.cell (by omega)).1
  rw [List.length_map] at hOp
  have HOp : Hid _ := hOp
  have g1 := Below.comp q0 b1
  clear hW hRw hCw hIw hOp hOwn
  unfold ov at *
  obtain ⟨W2, hW2⟩ : ∃ W2, w1.alloc (.cells #[.slice pa c.cs.length kp, .slice pb c.cs.length kq, .slice (some ⟨gr, 0, none⟩) c.rs.length c.rs.length, .int .i64 c.lv] 64) = W2 := ⟨_, rfl⟩
  have q2 : Below w1.heap.size w1 W2 := by subst hW2; exact below_alloc _ _
  have H2 : Hid (W2.heap[w1.heap.size]? = some (.cells #[.slice pa c.cs.length kp, .slice pb c.cs.length kq, .slice (some ⟨gr, 0, none⟩) c.rs.length c.rs.length, .int .i64 c.lv] 64 (0, 0))) := by subst hW2; exact al1 _ _
  have HMA : Hid (∀ W, Below W2.heap.size W2 W → _) := fun W h => mA _ W (OpAt.below HOp.out (Below.comp q2 h))
  have SB : Hid (∀ W, Below W2.heap.size W2 W → W.cell? ⟨w1.heap.size, 0, none⟩ = some (.slice pa c.cs.length kp) ∧ W.cell? ⟨w1.heap.size, 1, none⟩ = some (.slice pb c.cs.length kq) ∧ W.cell? ⟨w1.heap.size, 2, none⟩ = some (.slice (some ⟨gr, 0, none⟩) c.rs.length c.rs.length) ∧ W.cell? ⟨w1.heap.size, 3, none⟩ = some (.int .i64 c.lv) ∧ W.cell? ⟨gr, p, none⟩ = some (.int .i64 RP) ∧ Below W2.heap.size W2 W) := fun W h => by
    obtain ⟨⟨u0, u1, u2, u3⟩, -⟩ := box4_cells (box_on H2.out h)
    exact ⟨u0, u1, u2, u3, cell_on (cell_on cp0 q2) h, h⟩
  obtain ⟨j0, j1, j2, j3⟩ := (box4_cells H2.out).1
  have g2 := Below.comp g1 q2
  have HZ : Hid (∀ W, Below W2.heap.size W2 W → w.heap.size ≤ W.heap.size) := fun W h => (Below.comp g2 h).size
  clear mA cp0
  generalize c.cs.length = n at *
  generalize c.rs.length = m at *
  generalize c.lv = lv at *
  go_wp2_with fail
  clear j0 j1 j2 j3 hW2
  go_region_held3 (fun W => W.cell? ⟨w1.heap.size, 0, none⟩ = some (.slice pa n kp) ∧ W.cell? ⟨w1.heap.size, 1, none⟩ = some (.slice pb n kq) ∧ W.cell? ⟨w1.heap.size, 2, none⟩ = some (.slice (some ⟨gr, 0, none⟩) m m) ∧ W.cell? ⟨w1.heap.size, 3, none⟩ = some (.int .i64 lv) ∧ W.cell? ⟨gr, p, none⟩ = some (.int .i64 RP) ∧ Below W2.heap.size W2 W)
    ((refine SB.out _ ?_; first | assumption | exact Below.drew (Below.refl _ _)))
    (first
    | (go_at_call 55; obtain ⟨-, -, -, -, -, hw0⟩ := ‹_ ∧ _ ∧ _ ∧ _ ∧ _ ∧ Below W2.heap.size W2 _›; refine (HMA.out _ hw0).mono ?_; rintro e w3 ⟨b3, u, rfl, own⟩; have b4 := Below.comp hw0 b3; have OW : Hid _ := owns_mono own (HZ.out _ hw0); clear own))
  all_goals go_wp2
  all_goals go_ret2
  all_goals exact ⟨Below.comp g2 b4, _, rfl, OW.out⟩
set_option maxHeartbeats 1000000 in
theorem implLeaves_no (v : Value) (c : Co) (x : Int) (w : World) (hc : CowAt w v c) (hf : FewW c) (hg : lvB c x = false) :
    Calls Try.prog 27 #[v, .int .i64 x] w fun e w' => e = .returned (.tuple #[.slice none 0 0, .bool false]) ∧ Below w.heap.size w w' := by
  have hall : (gI c && [x].all (inB c.rs.length)) = false := by
    unfold lvB at hg
    rw [← hg]
    simp
  obtain ⟨a, ca, a', ca', rfl, hca, hca', hI, hR⟩ := hc
  have HcAt : Hid (∀ W, Below w.heap.size w W → CowAt W (kv a c.cs.length ca a' c.rs.length ca' c.lv) c) := fun W h => ⟨a, ca, a', ca', rfl, hca, hca', hI.below h, hR.below h⟩
  obtain ⟨W0, hW0⟩ : ∃ W0, (w.alloc (.cells #[.slice a c.cs.length ca, .slice a' c.rs.length ca', .int .i64 c.lv] 25)).alloc (.cells #[.int .i64 x] 3) = W0 := ⟨_, rfl⟩
  have q0 : Below w.heap.size w W0 := by subst hW0; exact ba2 _ _ _
  obtain ⟨B1, B2⟩ : W0.heap[w.heap.size]? = some (.cells #[.slice a c.cs.length ca, .slice a' c.rs.length ca', .int .i64 c.lv] 25 (0, 0)) ∧ W0.heap[w.heap.size + 1]? = some (.cells #[.int .i64 x] 3 (0, 0)) := by subst hW0; exact al2 _ _ _
  have hrq : Ints W0 (some ⟨w.heap.size + 1, 0, none⟩) [x] := int_one B2
  have hO := opened_any _ c [x] (some ⟨w.heap.size + 1, 0, none⟩) 1 W0 (HcAt.out W0 q0) hf hrq (by simp)
  unfold OpenR at hO
  rw [hall] at hO
  simp only [List.length_cons, List.length_nil] at hO
  have HO : Hid _ := hO
  obtain ⟨i0, i1, i2⟩ := box3_one B1
  clear hI hR hf hall hO hrq B1 B2 hca hca' hg HcAt
  unfold kv
  go_enter Try.func27, Try.ntmps27
  go_wp2_with fail
  refine Calls.mono HO.out ?_
  rintro e w1 ⟨b1, v1, rfl, -, hz, -⟩
  obtain rfl := hz (by trivial)
  unfold zv
  obtain ⟨W2, hW2⟩ : ∃ W2, w1.alloc (.cells #[.slice none 0 0, .slice none 0 0, .slice none 0 0, .int .i64 0] 64) = W2 := ⟨_, rfl⟩
  have q2 : Below w1.heap.size w1 W2 := by subst hW2; exact below_alloc _ _
  have hB2 : W2.heap[w1.heap.size]? = some (.cells #[.slice none 0 0, .slice none 0 0, .slice none 0 0, .int .i64 0] 64 (0, 0)) := by subst hW2; exact al1 _ _
  obtain ⟨⟨j0, j1, j2, j3⟩, f0, f1, f2, f3⟩ := box4_cells hB2
  obtain ⟨W3, hW3⟩ : ∃ W3, (((W2.setCell ⟨w1.heap.size, 0, none⟩ (.slice none 0 0)).setCell ⟨w1.heap.size, 1, none⟩ (.slice none 0 0)).setCell ⟨w1.heap.size, 2, none⟩ (.slice none 0 0)).setCell ⟨w1.heap.size, 3, none⟩ (.int .i64 0) = W3 := ⟨_, rfl⟩
  have q3 : Below w1.heap.size w1 W3 := by subst hW3; exact q2.trans ((box4_out _ _ _ _ _ _).below (Nat.le_of_lt (box_lt hB2)))
  clear hB2
  go_wp2_with fail
  go_ret2
  exact ⟨rfl, Below.comp (Below.comp q0 b1) q3⟩
theorem implLeaves_any (v : Value) (c : Co) (x : Int) (w : World) (hc : CowAt w v c) (hf : FewW c) :
    Calls Try.prog 27 #[v, .int .i64 x] w fun e w' => Below w.heap.size w w' ∧ ∃ u, e = .returned (.tuple #[u, .bool (lvB c x)]) ∧ OwnS w' w.heap.size u (lvL c x) := by
  unfold lvL
  cases h : lvB c x with
  | true =>
    obtain ⟨h1, h2⟩ := lvB_parts h
    rw [if_pos rfl]
    exact implLeaves_yes v c x w hc hf h1 h2
  | false =>
    rw [if_neg (by simp)]
    refine (implLeaves_no v c x w hc hf h).mono ?_
    rintro e w' ⟨rfl, hb⟩
    exact ⟨hb, _, rfl, OwnS.nil _ _⟩
end Go.Proofs.Ytkkakidhdnfilaa
