import Derived.Test.YtmijalmihfgolaaDoorX6
/- RecoverStore: the program. -/
namespace Go.Proofs.YtmijalmihfgolaaDoor
open Go.ChangeShapes Go.WideShapes Go.ChangeAt Go.RowKit
set_option linter.unusedVariables false
open Tx

attribute [local go_sem] Oper.semAt_some

set_option maxRecDepth 20000 in
set_option maxHeartbeats 4000000 in
theorem recDo (a : Addr) (L : List ByteArray) (P : List Wr) (G : List ByteArray) (q : Int) (hg : gdS L P G q = true) (W : World) (B o : Nat) (x y : Option Addr) (cx cy : Nat) (v : Value) (hS : Sn W a) (ho : B ≤ o) (hO : OB W o (.slice x L.length cx) (.slice y P.length cy) v q) (mx : MineT W B W.heap.size x L) (my : MineW W B W.heap.size y P) (hl : LogR W B B v (G.map rdL)) :
    Calls Tryd.prog 79 #[.pointer (some ⟨o, 0, none⟩)] W fun e w' => DoR W w' e a B o (decide (q = ((G.length : Nat) : Int))) (dn (dn L P) (wrs G)) [] [] 0 := by
  have hlt := box_lt hO
  obtain ⟨A, C, h1, _⟩ := id hl
  obtain ⟨xv, cv, hv⟩ := owns_form h1
  subst hv
  obtain ⟨c0, c1, c2, c3⟩ := box4_cells hO
  rw [List.length_map] at c2
  have HO : Hid _ := hO
  have h40 := (gd_parts hg).2.1
  obtain ⟨V, hV⟩ : ∃ V, decide (q = ((G.length : Nat) : Int)) = V := ⟨_, rfl⟩
  rw [hV]
  have HV : Hid _ := hV
  have hdr := redo_any o B x y cx cy L P G _ q W.drew hg ho (show OB W.drew o _ _ _ q from hO) (show MineT W.drew B W.heap.size x L from mx) (show MineW W.drew B W.heap.size y P from my) (show LogR W.drew B B _ (G.map rdL) from hl)
  have HR : Hid _ := hdr
  clear c0 c1 hV hdr hl mx my h1 hO
  go_enter Tryd.func79, Tryd.ntmps79
  cases V with
  | false =>
    have hq : ¬ q = ((G.length : Nat) : Int) := of_decide_eq_false HV.out
    go_wp2
    refine wp_region_may [{ v := .iface 117 (.pointer (some a)), recovered := false }] (fun W' => Below B W W') (fun a' W' hd hW => ⟨hd, hW, fun h => (by cases h), fun _ => rfl⟩) ?_
    refine wp_region_L (fun W => W.cell? ⟨o, 2, none⟩ = some (.slice xv G.length cv) ∧ W.cell? ⟨o, 3, none⟩ = some (.int .i64 q)) 11 11 (by kernel_rfl) rfl ⟨c2, c3⟩ (fun hS0 => ?_)
    refine tkL (i := 0) (d := 2) (v := ?_) rfl rfl (by kernel_rfl) (by kernel_rfl) (by kernel_rfl) (by kernel_rfl) (fun _ _ _ h => h) (Or.inl ⟨by rfl, by intro wq hSq; obtain ⟨hq1, hq2⟩ := hSq; go_simp; try with_reducible rfl⟩) (by assumption) ?_
    simp only [List.setIfInBounds_toArray, List.set_cons_zero, List.set_cons_succ]
    refine tkL (i := 1) (d := 3) (v := ?_) rfl rfl (by kernel_rfl) (by kernel_rfl) (by kernel_rfl) (by kernel_rfl) (fun _ _ _ h => h) (Or.inl ⟨by rfl, by intro wq hSq; obtain ⟨hq1, hq2⟩ := hSq; go_simp; try with_reducible rfl⟩) (by assumption) ?_
    simp only [List.setIfInBounds_toArray, List.set_cons_zero, List.set_cons_succ]
    refine tkL (i := 2) (d := 4) (v := ?_) rfl rfl (by kernel_rfl) (by kernel_rfl) (by kernel_rfl) (by kernel_rfl) (fun _ _ _ h => h) (Or.inl ⟨by rfl, by intro wq hSq; obtain ⟨hq1, hq2⟩ := hSq; go_simp; try with_reducible rfl⟩) (by assumption) ?_
    simp only [List.setIfInBounds_toArray, List.set_cons_zero, List.set_cons_succ]
    refine tkL (i := 3) (d := 5) (v := ?_) rfl rfl (by kernel_rfl) (by kernel_rfl) (by kernel_rfl) (by kernel_rfl) (fun _ _ _ h => h) (Or.inl ⟨by rfl, by intro wq hSq; obtain ⟨hq1, hq2⟩ := hSq; go_simp; try with_reducible rfl⟩) (by assumption) ?_
    simp only [List.setIfInBounds_toArray, List.set_cons_zero, List.set_cons_succ]
    refine tkL (i := 4) (d := 6) (v := ?_) rfl rfl (by kernel_rfl) (by kernel_rfl) (by kernel_rfl) (by kernel_rfl) (fun _ _ _ h => h) (Or.inl ⟨by rfl, by intro wq hSq; obtain ⟨hq1, hq2⟩ := hSq; go_simp; try with_reducible rfl⟩) (by assumption) ?_
    simp only [List.setIfInBounds_toArray, List.set_cons_zero, List.set_cons_succ]
    refine tkL (i := 5) (d := 7) (v := ?_) rfl rfl (by kernel_rfl) (by kernel_rfl) (by kernel_rfl) (by kernel_rfl) (fun _ _ _ h => h) (Or.inl ⟨by rfl, by intro wq hSq; obtain ⟨hq1, hq2⟩ := hSq; go_simp; try with_reducible rfl⟩) (by assumption) ?_
    simp only [List.setIfInBounds_toArray, List.set_cons_zero, List.set_cons_succ]
    refine tkL (i := 6) (d := 8) (v := ?_) rfl rfl (by kernel_rfl) (by kernel_rfl) (by kernel_rfl) (by kernel_rfl) (fun _ _ _ h => h) (Or.inl ⟨by rfl, by intro wq hSq; obtain ⟨hq1, hq2⟩ := hSq; go_simp; try with_reducible rfl⟩) (by assumption) ?_
    simp only [List.setIfInBounds_toArray, List.set_cons_zero, List.set_cons_succ]
    refine tkL (i := 7) (d := 9) (v := ?_) rfl rfl (by kernel_rfl) (by kernel_rfl) (by kernel_rfl) (by kernel_rfl) (fun _ _ _ h => h) (Or.inl ⟨by rfl, by intro wq hSq; obtain ⟨hq1, hq2⟩ := hSq; go_simp; try with_reducible rfl⟩) (by assumption) ?_
    simp only [List.setIfInBounds_toArray, List.set_cons_zero, List.set_cons_succ]
    refine tkL (i := 8) (d := 10) (v := ?_) rfl rfl (by kernel_rfl) (by kernel_rfl) (by kernel_rfl) (by kernel_rfl) (fun _ _ _ h => h) (Or.inl ⟨by rfl, by intro wq hSq; obtain ⟨hq1, hq2⟩ := hSq; go_simp; try with_reducible rfl⟩) (by assumption) ?_
    simp only [List.setIfInBounds_toArray, List.set_cons_zero, List.set_cons_succ]
    refine tkL (i := 9) (d := 11) (v := ?_) rfl rfl (by kernel_rfl) (by kernel_rfl) (by kernel_rfl) (by kernel_rfl) (fun _ _ _ h => h) (Or.inl ⟨by rfl, by intro wq hSq; obtain ⟨hq1, hq2⟩ := hSq; go_simp; try with_reducible rfl⟩) (by assumption) ?_
    simp only [List.setIfInBounds_toArray, List.set_cons_zero, List.set_cons_succ]
    refine oneL (i := 10) rfl (by kernel_rfl) (fun K hK => ?_)
    go_simp
    rw [show (q == ((G.length : Nat) : Int)) = false by simpa using hq]
    refine (demand_no _ a (Sn.on hS (Below.drew (Below.refl _ _)))).mono ?_
    rintro e w1 ⟨rfl, h1⟩
    replace h1 := h1.symm
    subst h1
    exact ⟨rfl, rfl, Below.drew (Below.refl _ _)⟩
  | true =>
    have hq : q = ((G.length : Nat) : Int) := of_decide_eq_true HV.out
    subst hq
    go_wp2
    go_region_held3 (fun W => W.cell? ⟨o, 2, none⟩ = some (.slice xv G.length cv) ∧ W.cell? ⟨o, 3, none⟩ = some (.int .i64 ((G.length : Nat) : Int)))
      ((first | exact ⟨c2, c3⟩))
      (first
      | (go_at_call 58; refine (demand_yes _).mono ?_; rintro e w10 ⟨rfl, h10⟩; replace h10 := h10.symm; subst h10))
    all_goals go_wp2_with fail
    refine Calls.mono HR.out ?_
    rintro e w3 ⟨rfl, o3, x3, cx3, hO3, m3⟩
    go_wp2
    go_end0
    have hb3 : Below B W w3 := (Below.drew (Below.refl _ _)).trans (Below.mono (Out.below o3 (by have : W.drew.heap.size = W.heap.size := rfl; omega)) ho)
    have eL : (dn (dn L P) (wrs G)).length = L.length := by rw [dn_len, dn_len]
    refine ⟨hb3, fun _ => ⟨rfl, x3, cx3, none, 0, _, by rw [eL]; exact hO3, m3.mono (by have : W.drew.heap.size = W.heap.size := rfl; omega) (Nat.le_refl _), mine_none _ _ _ _ _ _, (LogR.nil w3 B B).at⟩, fun h => (by cases h)⟩

set_option maxRecDepth 20000 in
set_option maxHeartbeats 1600000 in
theorem implRecoverStoreW (x y z : Option Addr) (cx cy cz : Nat) (L : List ByteArray) (P : List Wr) (G : List ByteArray) (q : Int) (w : World) (a : Addr) (ok : SOk L P G cz q) (ha : StAt w x y z L P G) (hS : Sn w a)
    (R : Bool) (L' : List ByteArray) (P' : List Wr) (Ls' : List (List Wr)) (q' : Int) (hLs : gdS L P G q = true → R = true → Ls'.length ≤ 40 ∧ ∀ i, i < Ls'.length → txB 32 (gl Ls' i) = true)
    (hdo : gdS L P G q = true → ∀ (W : World) (B o : Nat) (x y : Option Addr) (cx cy : Nat) (v : Value), Below w.heap.size w W → w.heap.size ≤ B → B ≤ o → OB W o (.slice x L.length cx) (.slice y P.length cy) v q → MineT W B W.heap.size x L → MineW W B W.heap.size y P → LogR W B B v (G.map rdL) →
      Calls Tryd.prog 79 (#[.pointer (some ⟨o, 0, none⟩)] ++ #[]) W fun e w' => DoR W w' e a B o R L' P' Ls' q') :
    Calls Tryd.prog 36 #[stv x L.length cx y P.length cy z G.length cz q] w fun e w' => StB w w' e (gdS L P G q && R) L' P' (txs Ls') q' := by
  obtain ⟨D, hD0⟩ : ∃ D, w.heap.size = D := ⟨_, rfl⟩
  have HD : Hid (w.heap.size = D) := hD0
  obtain ⟨W0, hW0⟩ : ∃ W0, (w.alloc (.cells #[.slice x L.length cx, .slice y P.length cy, .slice z G.length cz, .int .i64 q] 34)).alloc (.cells #[.slice none 0 0, .slice none 0 0, .slice none 0 0, .int .i64 0] 34) = W0 := ⟨_, rfl⟩
  have b0 : Below w.heap.size w W0 := by subst hW0; exact ba2 _ _ _
  have h2 : Hid (W0.heap[D]? = some (.cells #[.slice x L.length cx, .slice y P.length cy, .slice z G.length cz, .int .i64 q] 34 (0, 0)) ∧ W0.heap[D + 1]? = some (.cells #[.slice none 0 0, .slice none 0 0, .slice none 0 0, .int .i64 0] 34 (0, 0))) := by subst hW0 hD0; exact al2 _ _ _
  have hs0 : Hid (W0.heap.size = D + 2) := by subst hW0 hD0; rw [Hid, sz1, sz1]
  have cW := with_any 79 #[] (enters_of Tryd.func79 (by kernel_rfl) (by kernel_rfl)) x y z cx cy cz L P G q W0 a ok (ha.below b0) (hS.on b0) R L' P' Ls' q' hLs
    (fun h W B o x' y' cx' cy' v hb hB ho hO mx my hl => hdo h W B o x' y' cx' cy' v (Below.comp b0 hb) (Nat.le_trans b0.size hB) ho hO mx my hl)
  unfold StB StR at cW ⊢
  generalize (gdS L P G q && R) = OK at cW ⊢
  generalize (bif OK then L' else []) = LA at cW ⊢
  generalize (bif OK then P' else []) = PA at cW ⊢
  generalize (bif OK then txs Ls' else []) = GA at cW ⊢
  generalize (bif OK then q' else 0) = qa at cW ⊢
  obtain ⟨x0, x1, x2, x3⟩ := box4_cells h2.out.1
  go_enter Tryd.func36, Tryd.ntmps36
  go_wp2_with fail
  refine cW.mono ?_
  rintro e w1 ⟨b1, xn, cxn, yn, cyn, zn, czn, rfl, mst⟩
  have k2 := box_on h2.out.2 b1
  have s1 : D + 2 ≤ w1.heap.size := by have := b1.size; rw [hs0.out] at this; exact this
  obtain ⟨d0, d1, d2, d3⟩ := box4_cells k2
  obtain ⟨p0, p1, p2, p3⟩ := box4_free k2
  clear x0 x1 x2 x3 cW
  go_wp2
  have hset := box4_set k2 (x0 := .slice xn LA.length cxn) (x1 := .slice yn PA.length cyn) (x2 := .slice zn GA.length czn) (x3 := .int .i64 qa)
  have hout := set4_out w1 (D + 1) (.slice xn LA.length cxn) (.slice yn PA.length cyn) (.slice zn GA.length czn) (.int .i64 qa)
  obtain ⟨u0, u1, u2, u3⟩ := box4_cells hset
  have sF := hout.size
  rw [hs0.out] at mst
  refine bodyPost_ret (v := .tuple #[stv xn LA.length cxn yn PA.length cyn zn GA.length czn qa, .bool OK]) (by simp [results, Tryd.results36, go_sem, u0, u1, u2, u3]) rfl ⟨?_, xn, cxn, yn, cyn, zn, czn, rfl, (mst.out hout (.inr (Nat.le_refl _))).mono (by rw [HD.out]; omega) (by omega)⟩
  exact (Below.comp b0 b1).trans ((Out.below hout (by omega)).mono (by rw [HD.out]; omega))

theorem implRecover_any (x y z : Option Addr) (cx cy cz : Nat) (L : List ByteArray) (P : List Wr) (G : List ByteArray) (q : Int) (w : World) (a : Addr) (ok : SOk L P G cz q) (ha : StAt w x y z L P G) (hS : Sn w a) :
    Calls Tryd.prog 36 #[stv x L.length cx y P.length cy z G.length cz q] w fun e w' => StB w w' e (gdS L P G q && decide (q = (G.length : Nat))) (dn (dn L P) (wrs G)) [] [] 0 :=
  implRecoverStoreW x y z cx cy cz L P G q w a ok ha hS (decide (q = (G.length : Nat))) (dn (dn L P) (wrs G)) [] [] 0 (fun _ _ => ⟨by simp, fun i hi => by simp at hi⟩)
    (fun h W B o x' y' cx' cy' v hb hB ho hO mx my hl => recDo a L P G q h W B o x' y' cx' cy' v (hS.on hb) ho hO mx my hl)
end Go.Proofs.YtmijalmihfgolaaDoor
